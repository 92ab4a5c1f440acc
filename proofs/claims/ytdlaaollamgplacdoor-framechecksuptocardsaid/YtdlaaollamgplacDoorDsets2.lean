/-
  CONTRACT of the Go function frame.Sets. No claim by itself.
-/
import Derived.Test.YtdlaaollamgplacDoorSplit
namespace Go.Proofs.YtdlaaollamgplacDoor
open Go Go.RowKit
set_option maxRecDepth 100000
/-- Pairs that are handed in. -/
def PArg (w : World) (a : Option Addr) (len cap : Nat) (P : Nat → Int × Int) : Prop :=
  len = 0 ∨ ∃ g off, a = some ⟨g, off, none⟩ ∧ len ≤ cap ∧ cap ≤ maxLen ∧ ∀ t, t < len → w.cell? ⟨g, off + t * 2, none⟩ = some (.int .i64 (P t).1) ∧ w.cell? ⟨g, off + t * 2 + 1, none⟩ = some (.int .i64 (P t).2)
theorem PArg.below {w w' : World} {a : Option Addr} {len cap : Nat} {P : Nat → Int × Int} (h : PArg w a len cap P) (hb : Below w.heap.size w w') : PArg w' a len cap P := by
  rcases h with h | ⟨g, off, ha, h1, h2, h3⟩
  · exact Or.inl h
  · exact Or.inr ⟨g, off, ha, h1, h2, fun t ht => ⟨(hb.cell (p := ⟨g, off + t * 2, none⟩) (lt_cell (h3 t ht).1)).trans (h3 t ht).1, (hb.cell (p := ⟨g, off + t * 2 + 1, none⟩) (lt_cell (h3 t ht).1)).trans (h3 t ht).2⟩⟩
def okP (p : Int × Int) : Prop := bigOk p.1 2 ∧ bigOk p.2 4
/-- The first m settings as bytes. -/
def pfx (P : Nat → Int × Int) (m : Nat) : List Int := setL ((List.range m).map P)
theorem pfx_len (P : Nat → Int × Int) (m : Nat) : (pfx P m).length = 6 * m := by unfold pfx; rw [setL_len]; simp
theorem pfx_succ (P : Nat → Int × Int) (m : Nat) : pfx P (m + 1) = pfx P m ++ (bigL 2 (P m).1 ++ bigL 4 (P m).2) := by unfold pfx; rw [List.range_succ, List.map_append, List.map_cons, List.map_nil, setL_snoc]
/-- What Sets tells. -/
def SetsTold (P : Nat → Int × Int) (len : Nat) (w w' : World) (v x : Value) : Prop :=
  ((∃ t, t < len ∧ ¬ okP (P t)) ∧ v = .slice none 0 0 ∧ x = .iface 73 (.int .i64 1)) ∨
  ((∀ t, t < len → okP (P t)) ∧ 1024 < 6 * len ∧ v = .slice none 0 0 ∧ x = .iface 73 (.int .i64 4)) ∨
  ((∀ t, t < len → okP (P t)) ∧ 6 * len ≤ 1024 ∧ x = .nilIface ∧ w'.ownsRow w.heap.size 5 1 v (6 * len) ((pfx P len).map (Value.int .u8)))
theorem own_sl {X : World} {b n : Nat} {v : Value} {xs : List Value} (h : X.ownsRow b 5 1 v n xs) : ∃ a c, v = .slice a n c := by
  rcases h.2 with ⟨h1, h2⟩ | ⟨g', c', cur, h1, _⟩
  · exact ⟨none, 0, by rw [h1, h2]⟩
  · exact ⟨_, c', h1⟩
set_option maxHeartbeats 8000000 in
theorem sets_any (a : Option Addr) (len cap : Nat) (P : Nat → Int × Int) (w : World) (hA : PArg w a len cap P) (hm : len ≤ 4611686018427387904) :
    Calls Tryd.prog 25 #[.slice a len cap] w fun e w' => ∃ v x, e = .returned (.tuple #[v, x]) ∧ SetsTold P len w w' v x ∧ Below w.heap.size w w' := by
  obtain ⟨i0, hi, hz0, hz1, hz2⟩ := info_parts info5
  have HA : Hid (∀ wx, Below w.heap.size w wx → PArg wx a len cap P) := fun wx hb => hA.below hb
  clear hA
  go_enter Tryd.func25, Tryd.ntmps25
  go_wp2
  go_loopw [4, 11] (fun b i wr => ∃ k : Nat, i = .int .i64 k ∧ k ≤ len ∧ Hid (wr.ownsRow w.heap.size 5 1 b (6 * min k 171) ((pfx P (min k 171)).map (Value.int .u8))) ∧ Hid (∀ t, t < k → okP (P t)) ∧ Hid (Below w.heap.size w wr)) (fun _ i _ => len - (intOf i).toNat)
  case atStart => exact ⟨0, rfl, by omega, World.ownsRow_nil _ _ _ _, fun t ht => by omega, Below.refl _ _⟩
  case round =>
    obtain ⟨k, rfl, hk, HO, HOK, HB⟩ := hrel
    obtain ⟨va, vc, hv⟩ := own_sl HO.out
    subst hv
    have sB := HB.out.size
    by_cases hlt : k < len
    · have p1 : (k : Int) < (len : Int) := by omega
      obtain ⟨g, off, rfl, hc1, hc2, hcx, hcy⟩ : ∃ g off, a = some ⟨g, off, none⟩ ∧ len ≤ cap ∧ cap ≤ maxLen ∧ wr.cell? ⟨g, off + k * 2, none⟩ = some (.int .i64 (P k).1) ∧ wr.cell? ⟨g, off + k * 2 + 1, none⟩ = some (.int .i64 (P k).2) := by
        rcases HA.out wr HB.out with h | ⟨g, off, ha, h1, h2, h3⟩
        · omega
        · exact ⟨g, off, ha, h1, h2, h3 k hlt⟩
      have HPS := hide (pfx_succ P k)
      have HOK2 : Hid (okP (P k) → ∀ t, t < k + 1 → okP (P t)) := fun h t ht => by
        by_cases e : t = k
        · rw [e]; exact h
        · exact HOK.out t (by omega)
      have HBAD : Hid (¬ okP (P k) → ∃ t, t < len ∧ ¬ okP (P t)) := fun h => ⟨k, hlt, h⟩
      generalize P k = p at *
      obtain ⟨x, y⟩ := p
      dsimp only at hcx hcy
      obtain ⟨w1, hw1⟩ : ∃ w1, w1 = (wr.alloc (.cells #[.int .i64 x, .int .i64 y] 59)).alloc (.cells #[.int .i64 x, .int .i64 2, .int .i64 y, .int .i64 4] 59) := ⟨_, rfl⟩
      have hb1 : Below wr.heap.size wr w1 := by rw [hw1]; exact ((Below.refl _ _).alloc (Nat.le_refl _) _).alloc (by simp) _
      have hsz1 : w1.heap.size = wr.heap.size + 2 := by rw [hw1]; simp
      have hp1 : w1.heap[wr.heap.size + 1]? = some (.cells #[.int .i64 x, .int .i64 2, .int .i64 y, .int .i64 4] 59 (0, 0)) := by
        rw [hw1]
        have := heap_alloc_new (wr.alloc (.cells #[.int .i64 x, .int .i64 y] 59)) (.cells #[.int .i64 x, .int .i64 2, .int .i64 y, .int .i64 4] 59)
        rwa [World.size_alloc] at this
      have hPs : Pairs w1 (wr.heap.size + 1) [(x, 2), (y, 4)] := by
        intro j p hj
        match j with
        | 0 => cases hj; exact ⟨cell_of_row _ _ 0 _ _ _ hp1, cell_of_row _ _ 1 _ _ _ hp1⟩
        | 1 => cases hj; exact ⟨cell_of_row _ _ 2 _ _ _ hp1, cell_of_row _ _ 3 _ _ _ hp1⟩
        | n + 2 => simp at hj
      have HN := hide (numbers_any (wr.heap.size + 1) 2 _ w1 (by omega) hPs rfl (by decide) (by intro p hp; simp at hp; rcases hp with rfl | rfl <;> simp))
      have HW1 := hide hw1
      have B1 := hide (HB.out.trans (hb1.mono sB))
      have O1 := hide (own_below HO.out hb1)
      clear hb1 hp1 hPs hw1 HB HO
      go_wp2_with fail
      rw [← HW1.out]
      refine HN.out.mono ?_
      rintro e w2 ⟨⟨v2, rfl, hok2, hown2⟩ | ⟨rfl, hno⟩, hb2⟩
      · have hokp : okP (x, y) := ⟨hok2 (x, 2) (by simp), hok2 (y, 4) (by simp)⟩
        have HK2 := hide (HOK2.out hokp)
        have hnl : nmL [(x, 2), (y, 4)] = bigL 2 x ++ bigL 4 y := by simp [nmL]
        rw [hnl] at hown2
        have hl6 : (bigL 2 x ++ bigL 4 y).length = 6 := by simp [bigL_len]
        have hby : ∀ z ∈ bigL 2 x ++ bigL 4 y, 0 ≤ z ∧ z < 256 := by
          intro z hz
          rcases List.mem_append.1 hz with h | h
          · exact bigL_byte 2 x z h
          · exact bigL_byte 4 y z h
        rw [hl6] at hown2
        obtain ⟨g2, c2, rfl⟩ := fr_shape hown2 (by decide)
        have R2 := hide (row_of hl6 hown2 hby)
        have HL6 := hide hl6
        have B2 := hide (B1.out.trans (hb2.mono (by omega)))
        have O2 := hide (own_below O1.out hb2)
        have s2 := hb2.size
        generalize bigL 2 x ++ bigL 4 y = Q6 at *
        clear hok2 hokp hnl hown2 hl6 hby hb2 HN B1 O1 HOK2 HBAD
        by_cases h170 : k ≤ 170
        · have em : min k 171 = k := by omega
          rw [em] at O2 ⊢
          have p2 : ((6 * k : Nat) : Int) ≤ 1024 := by omega
          have HE := hide (show min (k + 1) 171 = k + 1 by omega)
          clear em
          go_wp2_with (at_builtin; refine wpList_append_own _ rfl _ _ 29 rfl w.heap.size 5 i0 (.int .u8 0) 1 1 Tryd.underlying29 hi hz0 hz1 hz2 rfl (by decide) _ _ _ rfl O2.out ⟨g2, 0, none⟩ 6 c2 (Q6.map (Value.int .u8)) rfl (by rw [List.length_map, HL6.out]) (fr_news R2.out) (fr_one Q6) (by unfold maxLen; omega) (by omega) (by omega) ?_)
          intro v3 w3 hown3 hgrow3 _
          have B3 := hide (B2.out.grown hgrow3 (by omega) (fun j hj => (O2.out.lt j hj).1))
          have O3 := hide hown3
          clear hown3 hgrow3
          go_wp2
          go_roundw
          case rel => exact ⟨k + 1, by go_num, by omega, by show World.ownsRow _ _ _ _ _ _ _; rw [HE.out, HPS.out, List.map_append, show 6 * (k + 1) = 6 * k + 6 by omega]; exact O3.out, HK2.out, B3.out⟩
          case measure => simp [intOf]; omega
        · have em : min k 171 = 171 := by omega
          rw [em] at O2 ⊢
          have HE := hide (show min (k + 1) 171 = 171 by omega)
          clear em
          go_wp2
          go_roundw
          case rel => exact ⟨k + 1, by go_num, by omega, by show World.ownsRow _ _ _ _ _ _ _; rw [HE.out]; exact O2.out, HK2.out, B2.out⟩
          case measure => simp [intOf]; omega
      · have hbad : ¬ okP (x, y) := fun h => by
          obtain ⟨p, hp, hn⟩ := hno
          simp at hp
          rcases hp with rfl | rfl
          · exact hn h.1
          · exact hn h.2
        have HBD := hide (HBAD.out hbad)
        have B2 := hide (B1.out.trans (hb2.mono (by omega)))
        clear hbad hno hb2 HN B1 O1 HOK2 HBAD
        go_wp2
        go_ret2
        exact ⟨_, _, rfl, Or.inl ⟨HBD.out, rfl, rfl⟩, B2.out⟩
    · have p1 : ¬ ((k : Int) < (len : Int)) := by omega
      have hkl : k = len := by omega
      subst hkl
      by_cases h170 : k ≤ 170
      · have em : min k 171 = k := by omega
        rw [em] at HO ⊢
        have p2 : ¬ ((1024 : Int) < ((6 * k : Nat) : Int)) := by omega
        have p3 : 6 * k ≤ 1024 := by omega
        clear em
        go_wp2
        go_ret2
        exact ⟨_, _, rfl, Or.inr (Or.inr ⟨HOK.out, p3, rfl, HO.out⟩), HB.out⟩
      · have em : min k 171 = 171 := by omega
        rw [em]
        have p3 : 1024 < 6 * k := by omega
        clear em
        go_wp2
        go_ret2
        exact ⟨_, _, rfl, Or.inr (Or.inl ⟨HOK.out, p3, rfl, rfl⟩), HB.out⟩
end Go.Proofs.YtdlaaollamgplacDoor
