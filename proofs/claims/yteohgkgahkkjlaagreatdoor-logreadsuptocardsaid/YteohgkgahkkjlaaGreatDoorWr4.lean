/-
  WHERETO: the document's Cut: a text at each byte c. No claim by itself.
-/
import Derived.Test.YteohgkgahkkjlaaGreatDoorG10
namespace Go.Proofs.YteohgkgahkkjlaaGreatDoor
open Go Go.RowKit
set_option maxRecDepth 100000
theorem n_infoS : (Tryz.prog.info? 9).map (fun i => (i.zero, i.size, i.bytes)) = some (some (.string ⟨#[]⟩), 1, 16) := by kernel_rfl
/-- Texts in a row that the call itself made. -/
abbrev SOwn (w : World) (base : Nat) (v : Value) (VS : List ByteArray) : Prop := w.ownsRow base 9 1 v VS.length (VS.map Value.string)
theorem sown_nil (w : World) (base : Nat) : SOwn w base (.slice none 0 0) [] := ⟨rfl, Or.inl ⟨rfl, rfl⟩⟩
theorem sown_shape {w : World} {base : Nat} {v : Value} {VS : List ByteArray} (h : SOwn w base v VS) : ∃ sa sc, v = .slice sa VS.length sc := by
  obtain ⟨_, ⟨rfl, h0⟩ | ⟨g, cap, cur, rfl, _⟩⟩ := id h
  · exact ⟨none, 0, by rw [h0]⟩
  · exact ⟨_, cap, rfl⟩
theorem s_add (g off q : Nat) : (⟨g, off, none⟩ : Addr).add q = ⟨g, off + q, none⟩ := by unfold Addr.add; split <;> simp_all
theorem wpList_sapp {ops : Array Oper} {rest : List Oper} {o : Oper} {a : Act} {Q : Exit → Act → World → Prop} (w : World) (hgd : o.guard = none) (s x : Operand)
    (ho : o.op = .call { callee := .builtin .append, args := #[s, x], argTypes := #[43, 43] }) (base : Nat) (v : Value) (VS : List ByteArray) (u : ByteArray) (hs : a.eval s = v) (hown : SOwn w base v VS)
    (hx : a.eval x = .slice (some ⟨w.heap.size, 0, none⟩) 1 1) (hlen : VS.length < 8796093022208) (hbase : base ≤ w.heap.size)
    (h : ∀ v' w', SOwn w' base v' (VS ++ [u]) → (w.alloc (.cells #[.string u] 9)).grownBy w' v.ownBlock → wpList Tryz.prog ops Q rest (a.put o.dst v') w') : wpList Tryz.prog ops Q (o :: rest) a (w.alloc (.cells #[.string u] 9)) := by
  obtain ⟨i0, hi, hz0, hz1, hz2⟩ := info_parts n_infoS
  refine wpList_append_own _ hgd s x 43 ho base 9 i0 (.string ⟨#[]⟩) 1 16 Tryz.underlying43 hi hz0 hz1 hz2 rfl (by decide) v VS.length _ hs (hown.alloc _) ⟨w.heap.size, 0, none⟩ 1 1 [.string u] hx rfl ?_ ?_ (by unfold maxLen; omega) (by omega) (by rw [World.size_alloc]; omega) ?_
  · intro j y hj
    have hh : (w.alloc (.cells #[.string u] 9)).heap[w.heap.size]? = some (.cells #[.string u] 9 (0, 0)) := heap_alloc_new w _
    rw [s_add]
    simp only [World.cell?, hh, Nat.zero_add]
    match j with
    | 0 => exact hj
    | j + 1 => simp at hj
  · intro y hy
    simp at hy
    subst hy
    rfl
  · intro v' w' h1 h2 _
    refine h v' w' ?_ h2
    show World.ownsRow _ _ _ _ _ _ _
    rw [show (VS ++ [u]).length = VS.length + 1 by simp, List.map_append]
    exact h1
theorem sbelow_grown {B : Nat} {w0 w w' : World} {r : Option Nat} (h : Below B w0 w) (hg : w.grownBy w' r) (hB : B ≤ w.heap.size) (hr : ∀ k, r = some k → B ≤ k) : Below B w0 w' :=
  ⟨hg.os.trans h.os, hg.tape.trans h.tape, hg.output.trans h.output, Nat.le_trans h.size hg.size, fun k hk => (hg.block k (by omega) (fun e => by have := hr k e.symm; omega)).trans (h.block k hk)⟩
theorem sowns_base {W : World} {base size n : Nat} {e : TypeId} {v : Value} {xs : List Value} (hr : W.ownsRow base e size v n xs) (k : Nat) (hk : v.ownBlock = some k) : base ≤ k := by
  obtain ⟨_, ⟨rfl, _⟩ | ⟨g, cap, cur, rfl, hb, _⟩⟩ := hr
  · cases hk
  · cases hk; exact hb
/-- What was cut off so far, and what stands behind the last such byte. -/
theorem cut_go {c : Int} {T : List Int} {p q : Nat} {D : List (List Int)} (hq : p ≤ q) (hn : ∀ t, p ≤ t → t < q → T.getD t 0 ≠ c) (h : D ++ cut1 c (T.drop p) = cut1 c T) (hql' : q < T.length) (hc : T.getD q 0 = c) : (D ++ [(T.take q).drop p]) ++ cut1 c (T.drop (q + 1)) = cut1 c T := by
  have e : T.drop p = (T.take q).drop p ++ c :: T.drop (q + 1) := by
    have h1 : T = T.take q ++ T.drop q := (List.take_append_drop q T).symm
    have h2 : T.drop q = c :: T.drop (q + 1) := by
      rw [List.drop_eq_getElem_cons hql']
      rw [List.getD, List.getElem?_eq_getElem hql'] at hc
      simp at hc
      rw [hc]
    conv => lhs; rw [h1, h2]
    rw [List.drop_append_of_le_length (by rw [List.length_take]; omega)]
  have hnm : c ∉ (T.take q).drop p := fun hm => by
    obtain ⟨i, hi, he⟩ := List.getElem_of_mem hm
    rw [List.length_drop, List.length_take] at hi
    rw [List.getElem_drop, List.getElem_take] at he
    refine hn (p + i) (by omega) (by omega) ?_
    rw [List.getD, List.getElem?_eq_getElem (by omega)]
    simpa using he
  rw [← h, e, cut1_at c _ _ hnm]
  simp
theorem cut_end {c : Int} {T : List Int} {p : Nat} {D : List (List Int)} (hn : ∀ t, p ≤ t → t < T.length → T.getD t 0 ≠ c) (h : D ++ cut1 c (T.drop p) = cut1 c T) : D ++ [T.drop p] = cut1 c T := by
  rw [← h, cut1_no c (T.drop p)]
  intro hm
  obtain ⟨i, hi, he⟩ := List.getElem_of_mem hm
  rw [List.length_drop] at hi
  rw [List.getElem_drop] at he
  refine hn (p + i) (by omega) (by omega) ?_
  rw [List.getD, List.getElem?_eq_getElem (by omega)]
  simpa using he
theorem un_mid (s : ByteArray) (p q : Nat) : unums (s.extract p q) = ((unums s).take q).drop p := by
  have e : (s.extract p q).data.toList = (s.data.toList.take q).drop p := by
    rw [ByteArray.data_extract, Array.toList_extract]
    simp [List.extract, List.drop_take]
  unfold unums
  rw [e, List.map_drop, List.map_take]
set_option maxHeartbeats 4000000 in
theorem rcut_any (s : ByteArray) (c : Int) (w : World) (hs : s.size ≤ 1048576) :
    Calls Tryz.prog 22 #[.string s, .int .u8 c] w fun e w' => (∃ VS sa sc, e = .returned (.slice sa VS.length sc) ∧ SOwn w' w.heap.size (.slice sa VS.length sc) VS ∧ unsOf VS = cut1 c (unums s) ∧ (∀ u ∈ VS, u.size ≤ s.size)) ∧ Below w.heap.size w w' := by
  have HN := vl (unums_at s)
  have HL := vl (unums_len s)
  go_enter Tryz.func22, Tryz.ntmps22
  go_wp2_with fail
  go_loopw [5, 6, 7] (fun v f i wr => ∃ (VS : List ByteArray) (p q : Nat), f = .int .i64 p ∧ i = .int .i64 q ∧ p ≤ q ∧ q ≤ s.size ∧ VS.length ≤ q ∧ Vl (SOwn wr w.heap.size v VS) ∧ Vl (∀ t, p ≤ t → t < q → (unums s).getD t 0 ≠ c) ∧ Vl (unsOf VS ++ cut1 c ((unums s).drop p) = cut1 c (unums s)) ∧ Vl (∀ u ∈ VS, u.size ≤ s.size) ∧ Vl (Below w.heap.size w wr)) (fun _ _ i _ => s.size - (intOf i).toNat)
  case atStart => exact ⟨[], 0, 0, rfl, rfl, by omega, by omega, by simp, sown_nil _ _, (fun t h1 h2 => by omega), rfl, (fun u hu => by cases hu), Below.refl _ _⟩
  case round =>
    obtain ⟨VS, p, q, rfl, rfl, hpq, hq, hvl, HO, HNC, HC, HSZ, HB⟩ := hrel
    obtain ⟨sa, sc, hv⟩ := sown_shape HO.out
    subst hv
    have hbs := HB.out.size
    by_cases hlt : q < s.size
    · have hlt' : (q : Int) < (s.size : Int) := by omega
      have hix := HN.out q hlt
      obtain ⟨d, hd⟩ : ∃ d, (unums s).getD q 0 = d := ⟨_, rfl⟩
      rw [hd] at hix
      have HD := vl hd
      clear hd
      by_cases hc : d = c
      · have hcb : (d == c) = true := by simpa using hc
        have b0 : (0 : Int) ≤ (p : Int) := by omega
        have b1 : (p : Int) ≤ (q : Int) := by omega
        have b2 : (q : Int) ≤ (s.size : Int) := by omega
        have HNX := vl (cut_go (D := unsOf VS) hpq HNC.out HC.out (by rw [HL.out]; exact hlt) (HD.out.trans hc))
        subst hc
        go_wp2_with (at_builtin; refine wpList_sapp _ rfl _ _ rfl w.heap.size (.slice sa VS.length sc) VS (s.extract p q) rfl HO.out rfl (by omega) hbs ?_)
        intro v3 w3 hown3 hg3
        have HB3 : Vl (Below w.heap.size w w3) := sbelow_grown (HB.out.alloc hbs _) hg3 (by simp; omega) (fun k hk => sowns_base HO.out k hk)
        have HO3 := vl hown3
        clear hown3 hg3
        go_wp2_with fail
        go_roundw
        case rel => exact ⟨VS ++ [s.extract p q], q + 1, q + 1, by go_num, by go_num, by omega, by omega, by simp; omega, HO3, (fun t h1 h2 => by omega), by
          show _ = _
          rw [show unsOf (VS ++ [s.extract p q]) = unsOf VS ++ [((unums s).take q).drop p] from by unfold unsOf; rw [List.map_append, List.map_singleton, un_mid]]
          exact HNX.out, by
          intro u hu
          rcases List.mem_append.1 hu with h | h
          · exact HSZ.out u h
          · rw [List.mem_singleton.1 h, ByteArray.size_extract]; omega, HB3⟩
        case measure => simp [intOf]; omega
      · have hcb : (d == c) = false := by simpa using hc
        go_wp2_with fail
        go_roundw
        case rel => exact ⟨VS, p, q + 1, rfl, by go_num, by omega, by omega, by omega, HO, fun t h1 h2 => by
          by_cases e : t = q
          · rw [e, HD.out]; exact hc
          · exact HNC.out t h1 (by omega), HC, HSZ, HB⟩
        case measure => simp [intOf]; omega
    · have hlt' : ¬ (q : Int) < (s.size : Int) := by omega
      have b0 : (0 : Int) ≤ (p : Int) := by omega
      have b1 : (p : Int) ≤ (s.size : Int) := by omega
      have HNX := vl (cut_end (D := unsOf VS) (by rw [HL.out]; intro t h1 h2; exact HNC.out t h1 (by omega)) HC.out)
      go_wp2_with (at_builtin; refine wpList_sapp _ rfl _ _ rfl w.heap.size (.slice sa VS.length sc) VS (s.extract p s.size) rfl HO.out rfl (by omega) hbs ?_)
      intro v3 w3 hown3 hg3
      have HB3 : Vl (Below w.heap.size w w3) := sbelow_grown (HB.out.alloc hbs _) hg3 (by simp; omega) (fun k hk => sowns_base HO.out k hk)
      obtain ⟨sa3, sc3, hv3⟩ := sown_shape hown3
      subst hv3
      have HQ : Vl (∃ VS' sa sc, Ending.returned (.slice sa3 (VS ++ [s.extract p s.size]).length sc3) = .returned (.slice sa VS'.length sc) ∧ SOwn w3 w.heap.size (.slice sa VS'.length sc) VS' ∧ unsOf VS' = cut1 c (unums s) ∧ (∀ u ∈ VS', u.size ≤ s.size)) := by
        refine ⟨VS ++ [s.extract p s.size], sa3, sc3, rfl, hown3, ?_, ?_⟩
        · rw [show unsOf (VS ++ [s.extract p s.size]) = unsOf VS ++ [(unums s).drop p] from by unfold unsOf; rw [List.map_append, List.map_singleton, un_drop]]
          exact HNX.out
        · intro u hu
          rcases List.mem_append.1 hu with h | h
          · exact HSZ.out u h
          · rw [List.mem_singleton.1 h, ByteArray.size_extract]; omega
      clear hown3 hg3
      go_wp2_with fail
      go_ret
      refine ⟨?_, HB3.out⟩
      have := HQ.out
      simpa using this
end Go.Proofs.YteohgkgahkkjlaaGreatDoor
