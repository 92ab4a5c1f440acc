/-
  FROM THE ONE TO THE OTHER: the document's Clean. No claim by itself.
-/
import Derived.BigQuiet
import Derived.Deep.QuietTactic
import Derived.Deep.CutBlock
import Derived.Deep.DeepCutAuto
import Derived.Test.YtglmppadhlkkgagGreatDoorYsownX
import Derived.Test.YtglmppadhlkkgagGreatDoorRbtwX
import Derived.Test.YtglmppadhlkkgagGreatDoorG4
namespace Go.Proofs.YtglmppadhlkkgagGreatDoor
open Go Go.RowKit
set_option maxRecDepth 100000
theorem unums_ext (s : ByteArray) (p q : Nat) : unums (s.extract p q) = ((unums s).drop p).take (q - p) := by
  unfold unums
  rw [← List.map_drop, ← List.map_take, ByteArray.data_extract, Array.toList_extract, List.extract_eq_take_drop]
theorem ext_size (s : ByteArray) (p q : Nat) : (s.extract p q).size ≤ s.size := by
  rw [ByteArray.size_extract]
  omega
/-- What the inner loop has: the pieces that are cut, those of them that may be names. -/
def InI (s : List Int) (p q : Nat) (N : List (List Int)) : Prop :=
  (q ≤ s.length ∧ ∃ done, CutAt 44 32 s done p q ∧ N = done.filter tokL) ∨ (q = s.length + 1 ∧ N = (cut2 44 32 s).filter tokL)
theorem inI_begin (s : List Int) : InI s 0 0 [] := Or.inl ⟨Nat.zero_le _, [], CutAt.begin _ _ _, rfl⟩
theorem inI_next {s : List Int} {p q : Nat} {N : List (List Int)} (h : InI s p q N) (hq : q < s.length) (hn : p ≤ q → q + 1 < s.length → ¬ (s.getD q 0 = 44 ∧ s.getD (q + 1) 0 = 32)) : InI s p (q + 1) N := by
  rcases h with ⟨h1, done, h2, h3⟩ | ⟨h1, _⟩
  · exact Or.inl ⟨hq, done, h2.next h1 hn, h3⟩
  · omega
theorem inI_cut {s : List Int} {p q : Nat} {N : List (List Int)} (h : InI s p q N) (hp : p ≤ q) (hq : q + 1 < s.length) (he : s.getD q 0 = 44 ∧ s.getD (q + 1) 0 = 32) : InI s (q + 2) (q + 1) (N ++ [(s.drop p).take (q - p)].filter tokL) := by
  rcases h with ⟨h1, done, h2, h3⟩ | ⟨h1, _⟩
  · exact Or.inl ⟨by omega, _, h2.cut hp hq he, by rw [h3, List.filter_append]⟩
  · omega
theorem inI_last {s : List Int} {p : Nat} {N : List (List Int)} (h : InI s p s.length N) : InI s (s.length + 2) (s.length + 1) (N ++ [(s.drop p).take (s.length - p)].filter tokL) := by
  rcases h with ⟨h1, done, h2, h3⟩ | ⟨h1, _⟩
  · refine Or.inr ⟨rfl, ?_⟩
    rw [h2.last, List.filter_append, h3, List.take_of_length_le (by rw [List.length_drop]; omega)]
  · omega
theorem inI_le {s : List Int} {p q : Nat} {N : List (List Int)} (h : InI s p q N) (hq : q ≤ s.length) : p ≤ s.length := by
  rcases h with ⟨_, done, h2, _⟩ | ⟨h1, _⟩
  · exact h2.le
  · omega
theorem inI_end {s : List Int} {p q : Nat} {N : List (List Int)} (h : InI s p q N) (hq : s.length < q) : N = (cut2 44 32 s).filter tokL := by
  rcases h with ⟨h1, _⟩ | ⟨_, h2⟩
  · omega
  · exact h2
theorem named_snoc (L : List (ByteArray × ByteArray)) (m : Nat) (h : m < L.length) : namedL (fdsOf (L.take (m + 1))) = namedL (fdsOf (L.take m)) ++ (if unums (L.getD m fnone).1 = connN then (cut2 44 32 (unums (L.getD m fnone).2)).filter tokL else []) := by
  have e : L.take (m + 1) = L.take m ++ [L.getD m fnone] := by
    rw [List.take_add_one]
    simp [List.getD, List.getElem?_eq_getElem h]
  rw [e]
  unfold namedL fdsOf
  rw [List.map_append, List.flatMap_append]
  simp
def CleanE (L : List (ByteArray × ByteArray)) (w : World) (e : Ending) (w' : World) : Prop := ∃ v FL, e = .returned v ∧ FOwn w' w.heap.size v FL ∧ fdsOf FL = cleanL (fdsOf L) ∧ Below w.heap.size w w'
theorem rfown_low {w : World} {base base' : Nat} {v : Value} {FL : List (ByteArray × ByteArray)} (h : FOwn w base v FL) (hb : base' ≤ base) : FOwn w base' v FL := by
  obtain ⟨h1, ⟨rfl, h0⟩ | ⟨g, cap, cur, rfl, hg, hc, hr⟩⟩ := id h
  · exact ⟨h1, Or.inl ⟨rfl, h0⟩⟩
  · exact ⟨h1, Or.inr ⟨g, cap, cur, rfl, Nat.le_trans hb hg, hc, hr⟩⟩
theorem rfown_below {base : Nat} {w w' : World} {v : Value} {FL : List (ByteArray × ByteArray)} (h : FOwn w base v FL) (hb : Below w.heap.size w w') : FOwn w' base v FL := by
  obtain ⟨h1, ⟨rfl, h0⟩ | ⟨g, cap, cur, rfl, hg, hc, hr⟩⟩ := id h
  · exact ⟨h1, Or.inl ⟨rfl, h0⟩⟩
  · exact ⟨h1, Or.inr ⟨g, cap, cur, rfl, hg, (hb.block g (Array.getElem?_eq_some_iff.1 hc).1).trans hc, hr⟩⟩
theorem clean_snoc (L : List (ByteArray × ByteArray)) (N : List (List Int)) (m : Nat) (h : m < L.length) : (fdsOf (L.take (m + 1))).filter (fun f => !goneL N f.1) = (fdsOf (L.take m)).filter (fun f => !goneL N f.1) ++ (if goneL N (unums (L.getD m fnone).1) = true then [] else [(unums (L.getD m fnone).1, unums (L.getD m fnone).2)]) := by
  have e : L.take (m + 1) = L.take m ++ [L.getD m fnone] := by
    rw [List.take_add_one]
    simp [List.getD, List.getElem?_eq_getElem h]
  rw [e]
  generalize L.getD m fnone = p
  unfold fdsOf
  rw [List.map_append, List.filter_append]
  congr 1
  cases hg : goneL N (unums p.1) with
  | true => rw [List.map_singleton, List.filter_cons_of_neg (by simp [hg])]; rfl
  | false => rw [List.map_singleton, List.filter_cons_of_pos (by simp [hg])]; rfl
theorem gone_step (NM : List ByteArray) (k : Nat) (h : k < NM.length) (n : ByteArray) : decide (unums n ∈ (NM.take (k + 1)).map unums) = (decide (unums n ∈ (NM.take k).map unums) || decide (unums (NM.getD k ⟨#[]⟩) = unums n)) := by
  have e : NM.take (k + 1) = NM.take k ++ [NM.getD k ⟨#[]⟩] := by
    rw [List.take_add_one]
    simp [List.getD, List.getElem?_eq_getElem h]
  rw [e, List.map_append, List.map_cons, List.map_nil]
  generalize NM.getD k ⟨#[]⟩ = x
  generalize (NM.take k).map unums = M
  by_cases a : unums n ∈ M
  · rw [decide_eq_true a, decide_eq_true (List.mem_append.2 (Or.inl a))]; rfl
  · by_cases b : unums x = unums n
    · rw [decide_eq_true b, decide_eq_true (List.mem_append.2 (Or.inr (by rw [← b]; simp)))]; simp
    · have b' : ¬ unums n = unums x := fun e => b e.symm
      rw [decide_eq_false b, decide_eq_false a, decide_eq_false (fun h => (List.mem_append.1 h).elim a (fun h => b' (List.mem_singleton.1 h)))]
      rfl
theorem toL_beq (x n : ByteArray) : (x.toList == n.toList) = decide (unums x = unums n) := by
  have h : x.toList = n.toList ↔ unums x = unums n := by
    rw [toL_lit, ByteArray.toList_eq]
    rfl
  by_cases e : x.toList = n.toList
  · rw [decide_eq_true (h.1 e)]; simpa using e
  · rw [decide_eq_false (fun q => e (h.2 q))]; simpa using e
theorem bdN {B : Nat} {w w' : World} (h : Below B w w') : ∀ n, Below B w (w'.drewN n)
  | 0 => h
  | n + 1 => by
    have := bdN h n
    exact ⟨this.os, this.tape, this.output, this.size, this.block⟩
set_option maxHeartbeats 40000000 in
theorem rclean_row (g off len cap : Nat) (L : List (ByteArray × ByteArray)) (w : World) (hr : FRow w g off len cap L) (hl : len ≤ 1048576) (hs : ∀ t, (L.getD t fnone).1.size ≤ 140737488351232 ∧ (L.getD t fnone).2.size ≤ 1048576) :
    Calls Tryz.prog 21 #[.slice (some ⟨g, off, none⟩) len cap] w (CleanE L w) := by
  have HR : Vl (∀ wx, Below w.heap.size w wx → FRow wx g off len cap L) := fun wx hb => hr.below hb
  have HLn := vl hr.hlen
  have hcap := hr.hcap
  have hmax := hr.hmax
  have HS := vl hs
  clear hr hs
  go_enter Tryz.func21, Tryz.ntmps21
  go_wp2_with fail
  go_loopw [3, 4, 5, 6, 7, 8] (fun nv i _ _ _ _ wr => ∃ (m : Nat) (NM : List ByteArray), i = .int .i64 m ∧ m ≤ len ∧ Vl (SOwn wr w.heap.size nv NM) ∧ Vl (NM.map unums = namedL (fdsOf (L.take m))) ∧ Vl (NM.length ≤ 1048577 * m) ∧ Vl (∀ x ∈ NM, x.size ≤ 1048576) ∧ Vl (Below w.heap.size w wr)) (fun _ i _ _ _ _ _ => len - (intOf i).toNat)
  case atStart => exact ⟨0, [], rfl, Nat.zero_le _, sown_nil _ _, vl rfl, vl (Nat.zero_le _), vl (fun x hx => by cases hx), vl (Below.refl _ _)⟩
  case round =>
    obtain ⟨m, NM, rfl, hm, HO, HN, HC, HZ, HB⟩ := hrel
    by_cases h1 : m < len
    case pos =>
      have p1 : (m : Int) < (len : Int) := by omega
      have hf := HR.out wr HB.out
      have cn := hf.hname m h1
      have cv := hf.hvalue m h1
      have hss := HS.out m
      have HNS := vl (named_snoc L m (by rw [HLn.out]; exact h1))
      clear hf
      obtain ⟨n, hn⟩ : ∃ n, n = (L.getD m fnone).1 := ⟨_, rfl⟩
      obtain ⟨v, hv⟩ : ∃ v, v = (L.getD m fnone).2 := ⟨_, rfl⟩
      rw [← hn] at cn hss HNS
      rw [← hv] at cv hss HNS
      have HNn := vl hn
      clear hn hv
      obtain ⟨hs1, hs2⟩ := hss
      obtain ⟨wB, hwB⟩ : ∃ wB, wB = wr := ⟨_, rfl⟩
      subst hwB
      by_cases hc : n.toList = [99, 111, 110, 110, 101, 99, 116, 105, 111, 110]
      · have HE := vl (yL_conn.1 hc)
        have HA := vl (unums_at v)
        have HUL := vl (unums_len v)
        have LC := vl HC.out
        go_wp2_with fail
        go_loopw [3, 6, 7, 8] (fun nv pv kv _ wq => ∃ (p q : Nat) (N2 : List ByteArray), pv = .int .i64 p ∧ kv = .int .i64 q ∧ q ≤ v.size + 1 ∧ p ≤ q + 1 ∧ N2.length ≤ q ∧ Vl (InI (unums v) p q (N2.map unums)) ∧ Vl (SOwn wq w.heap.size nv (NM ++ N2)) ∧ Vl (∀ x ∈ N2, x.size ≤ 1048576) ∧ Vl (Below w.heap.size w wq)) (fun _ _ kv _ _ => v.size + 1 - (intOf kv).toNat)
        case atStart => exact ⟨0, 0, [], rfl, rfl, by omega, by omega, by simp, inI_begin _, by rw [List.append_nil]; exact HO, vl (fun x hx => by cases hx), HB⟩
        case round =>
          obtain ⟨p, q, N2, rfl, rfl, hq, hp, hN2, HI, HO2, HZ2, HB2⟩ := hrel
          have hf2 := HR.out wr HB2.out
          have cn2 := hf2.hname m h1
          rw [← HNn.out] at cn2
          clear hf2
          by_cases a1 : q ≤ v.size
          case neg =>
            have a2 : ¬ ((q : Int) ≤ (v.size : Int)) := by omega
            have hqe : q = v.size + 1 := by omega
            have HN3 : Vl ((NM ++ N2).map unums = namedL (fdsOf (L.take (m + 1)))) := vl (by
              rw [HNS.out, List.map_append, HN.out, if_pos HE.out, inI_end HI.out (by rw [HUL.out]; omega)])
            have HC3 : Vl ((NM ++ N2).length ≤ 1048577 * (m + 1)) := vl (by rw [List.length_append]; have := LC.out; omega)
            have HZ3 : Vl (∀ x ∈ NM ++ N2, x.size ≤ 1048576) := vl (fun x hx => by
              rcases List.mem_append.1 hx with hx | hx
              · exact HZ.out x hx
              · exact HZ2.out x hx)
            clear HI hqe
            go_wp2
            go_roundw
            case rel => exact ⟨m + 1, NM ++ N2, by go_num, by omega, HO2, HN3, HC3, HZ3, HB2⟩
            case measure => first | (simp [intOf]; done) | (simp [intOf]; omega)
          have a2 : (q : Int) ≤ (v.size : Int) := by omega
          by_cases b1 : q < p
          · have b2 : (q : Int) < (p : Int) := by omega
            have HI4 : Vl (InI (unums v) p (q + 1) (N2.map unums)) := vl (inI_next HI.out (by have := inI_le HI.out (by rw [HUL.out]; exact a1); omega) (fun h => by omega))
            have HX1 := HI4
            clear HX1
            go_wp2
            go_roundw
            case rel => exact ⟨p, q + 1, N2, rfl, by go_num, by omega, by omega, by omega, HI4, HO2, HZ2, HB2⟩
            case measure => first | (simp [intOf]; done) | (simp [intOf]; omega)
          have b2 : ¬ ((q : Int) < (p : Int)) := by omega
          by_cases d1 : q = v.size
          · subst d1
            have HI3 : Vl (InI (unums v) (v.size + 2) (v.size + 1) (N2.map unums ++ [((unums v).drop p).take (v.size - p)].filter tokL)) := vl (by
              have h0 := HI.out
              rw [← HUL.out] at h0 ⊢
              exact inI_last h0)
            clear a1 a2 hq
            have TK := vl (rtoken_any (v.extract p v.size) wr (by have := ext_size v p v.size; omega))
            rw [unums_ext] at TK
            obtain ⟨pc, hpc⟩ : ∃ pc, pc = ((unums v).drop p).take (v.size - p) := ⟨_, rfl⟩
            have HPC : Vl (unums (v.extract p v.size) = pc) := vl (by rw [hpc]; exact unums_ext v p v.size)
            rw [← hpc] at TK HI3
            clear hpc
            cases htk : tokL pc with
            | true =>
              rw [htk] at TK
              have HI4 : Vl (InI (unums v) (v.size + 2) (v.size + 1) ((N2 ++ [v.extract p v.size]).map unums)) := vl (by
                have := HI3.out
                rw [List.filter_cons_of_pos htk] at this
                rw [List.map_append]
                show InI _ _ _ (_ ++ [unums (v.extract p v.size)])
                rw [HPC.out]
                exact this)
              have HX := vl (ext_size v p v.size)
              clear htk HI HI3 HPC
              go_wp2_with fail
              refine TK.out.mono ?_
              rintro e w' ⟨rfl, rfl⟩
              have LL : Vl ((NM ++ N2).length < 8796093022208) := vl (by have := LC.out; rw [List.length_append]; omega)
              go_wp2_with (at_builtin; refine wpList_sapp _ rfl _ _ rfl w.heap.size u3 (NM ++ N2) (v.extract p v.size) rfl HO2.out rfl LL.out HB2.out.size ?_)
              intro nv' w5 ho5 hg5
              have HO5 : Vl (SOwn w5 w.heap.size nv' (NM ++ (N2 ++ [v.extract p v.size]))) := vl (by first | exact ho5 | (rw [← List.append_assoc]; exact ho5))
              have HB5 := vl (u_below_grown (HB2.out.alloc HB2.out.size (.cells #[.string (v.extract p v.size)] 9)) hg5 (by have := HB2.out.size; simp; omega) (fun k hk => (HO2.out.lt k hk).1))
              clear ho5 hg5
              go_wp2
              go_roundw
              case rel => exact ⟨v.size + 2, v.size + 1, N2 ++ [v.extract p v.size], by go_num, by go_num, by omega, by omega, by simp; omega, HI4, HO5, vl (fun y hy => by
                rcases List.mem_append.1 hy with hy | hy
                · exact HZ2.out y hy
                · rw [List.mem_singleton.1 hy]; have := HX.out; omega), HB5⟩
              case measure => first | (simp [intOf]; done) | (simp [intOf]; omega)
            | false =>
              rw [htk] at TK
              have HI4 : Vl (InI (unums v) (v.size + 2) (v.size + 1) (N2.map unums)) := vl (by
                have := HI3.out
                rw [List.filter_cons_of_neg (by rw [htk]; simp), List.filter_nil, List.append_nil] at this
                exact this)
              clear htk HI HI3 HPC
              go_wp2_with fail
              refine TK.out.mono ?_
              rintro e w' ⟨rfl, rfl⟩
              go_wp2
              go_roundw
              case rel => exact ⟨v.size + 2, v.size + 1, N2, by go_num, by go_num, by omega, by omega, by omega, HI4, HO2, HZ2, HB2⟩
              case measure => first | (simp [intOf]; done) | (simp [intOf]; omega)
          have d2 : ¬ ((q : Int) = (v.size : Int)) := by omega
          by_cases f1 : q + 1 < v.size
          case neg =>
            have f2 : ¬ ((q : Int) + 1 < (v.size : Int)) := by omega
            have HI4 : Vl (InI (unums v) p (q + 1) (N2.map unums)) := vl (inI_next HI.out (by rw [HUL.out]; omega) (fun _ h => by rw [HUL.out] at h; omega))
            have HX1 := HI4
            clear HX1
            go_wp2
            go_roundw
            case rel => exact ⟨p, q + 1, N2, rfl, by go_num, by omega, by omega, by omega, HI4, HO2, HZ2, HB2⟩
            case measure => first | (simp [intOf]; done) | (simp [intOf]; omega)
          have f2 : (q : Int) + 1 < (v.size : Int) := by omega
          have ix1 := HA.out q (by omega)
          have ix2 := HA.out (q + 1) (by omega)
          by_cases g1 : (unums v).getD q 0 = 44
          case neg =>
            have HI4 : Vl (InI (unums v) p (q + 1) (N2.map unums)) := vl (inI_next HI.out (by rw [HUL.out]; omega) (fun _ _ h => g1 h.1))
            have HX1 := HI4
            generalize (unums v).getD q 0 = c1 at *
            clear HX1
            go_wp2
            go_roundw
            case rel => exact ⟨p, q + 1, N2, rfl, by go_num, by omega, by omega, by omega, HI4, HO2, HZ2, HB2⟩
            case measure => first | (simp [intOf]; done) | (simp [intOf]; omega)
          by_cases g2 : (unums v).getD (q + 1) 0 = 32
          case neg =>
            have HI4 : Vl (InI (unums v) p (q + 1) (N2.map unums)) := vl (inI_next HI.out (by rw [HUL.out]; omega) (fun _ _ h => g2 h.2))
            have HX1 := HI4
            rw [g1] at ix1
            generalize (unums v).getD (q + 1) 0 = c2 at *
            have g3 : (c2 == 32) = false := by simpa using g2
            have d3 : ((q : Int) == (v.size : Int)) = false := by simpa using d2
            clear g1
            clear HX1
            go_wp2
            go_roundw
            case rel => exact ⟨p, q + 1, N2, rfl, by go_num, by omega, by omega, by omega, HI4, HO2, HZ2, HB2⟩
            case measure => first | (simp [intOf]; done) | (simp [intOf]; omega)
          have HI3 : Vl (InI (unums v) (q + 2) (q + 1) (N2.map unums ++ [((unums v).drop p).take (q - p)].filter tokL)) := vl (inI_cut HI.out (by omega) (by rw [HUL.out]; omega) ⟨g1, g2⟩)
          rw [g1] at ix1
          rw [g2] at ix2
          clear g1 g2
          have TK := vl (rtoken_any (v.extract p q) wr (by have := ext_size v p q; omega))
          rw [unums_ext] at TK
          obtain ⟨pc, hpc⟩ : ∃ pc, pc = ((unums v).drop p).take (q - p) := ⟨_, rfl⟩
          have HPC : Vl (unums (v.extract p q) = pc) := vl (by rw [hpc]; exact unums_ext v p q)
          rw [← hpc] at TK HI3
          clear hpc
          cases htk : tokL pc with
          | true =>
            rw [htk] at TK
            have HI4 : Vl (InI (unums v) (q + 2) (q + 1) ((N2 ++ [v.extract p q]).map unums)) := vl (by
              have := HI3.out
              rw [List.filter_cons_of_pos htk] at this
              rw [List.map_append]
              show InI _ _ _ (_ ++ [unums (v.extract p q)])
              rw [HPC.out]
              exact this)
            have HX := vl (ext_size v p q)
            clear htk HI HI3 HPC
            go_wp2_with fail
            refine TK.out.mono ?_
            rintro e w' ⟨rfl, rfl⟩
            have LL : Vl ((NM ++ N2).length < 8796093022208) := vl (by have := LC.out; rw [List.length_append]; omega)
            go_wp2_with (at_builtin; refine wpList_sapp _ rfl _ _ rfl w.heap.size u3 (NM ++ N2) (v.extract p q) rfl HO2.out rfl LL.out HB2.out.size ?_)
            intro nv' w5 ho5 hg5
            have HO5 : Vl (SOwn w5 w.heap.size nv' (NM ++ (N2 ++ [v.extract p q]))) := vl (by first | exact ho5 | (rw [← List.append_assoc]; exact ho5))
            have HB5 := vl (u_below_grown (HB2.out.alloc HB2.out.size (.cells #[.string (v.extract p q)] 9)) hg5 (by have := HB2.out.size; simp; omega) (fun k hk => (HO2.out.lt k hk).1))
            clear ho5 hg5
            go_wp2
            go_roundw
            case rel => exact ⟨q + 2, q + 1, N2 ++ [v.extract p q], by go_num, by go_num, by omega, by omega, by simp; omega, HI4, HO5, vl (fun y hy => by
              rcases List.mem_append.1 hy with hy | hy
              · exact HZ2.out y hy
              · rw [List.mem_singleton.1 hy]; have := HX.out; omega), HB5⟩
            case measure => first | (simp [intOf]; done) | (simp [intOf]; omega)
          | false =>
            rw [htk] at TK
            have HI4 : Vl (InI (unums v) (q + 2) (q + 1) (N2.map unums)) := vl (by
              have := HI3.out
              rw [List.filter_cons_of_neg (by rw [htk]; simp), List.filter_nil, List.append_nil] at this
              exact this)
            clear htk HI HI3 HPC
            go_wp2_with fail
            refine TK.out.mono ?_
            rintro e w' ⟨rfl, rfl⟩
            go_wp2
            go_roundw
            case rel => exact ⟨q + 2, q + 1, N2, by go_num, by go_num, by omega, by omega, by omega, HI4, HO2, HZ2, HB2⟩
            case measure => first | (simp [intOf]; done) | (simp [intOf]; omega)
      · have hc' : (n.toList == [99, 111, 110, 110, 101, 99, 116, 105, 111, 110]) = false := by simpa using hc
        have HN3 : Vl (NM.map unums = namedL (fdsOf (L.take (m + 1)))) := vl (by
          rw [HNS.out, if_neg (fun e => hc (yL_conn.2 e)), List.append_nil]
          exact HN.out)
        have HC3 : Vl (NM.length ≤ 1048577 * (m + 1)) := vl (by have := HC.out; omega)
        go_wp2_with fail
        go_loopw [3, 6, 7, 8] (fun nv _ kv _ wq => nv = u3 ∧ kv = .int .i64 0 ∧ wq = wB) (fun _ _ _ _ _ => 0)
        case atStart => exact ⟨rfl, rfl, rfl⟩
        case round =>
          obtain ⟨rfl, rfl, rfl⟩ := hrel
          go_wp2
          go_roundw
          case rel => exact ⟨m + 1, NM, by go_num, by omega, HO, HN3, HC3, HZ, HB⟩
          case measure => first | (simp [intOf]; done) | (simp [intOf]; omega)
    have p1 : ¬ ((m : Int) < (len : Int)) := by omega
    obtain rfl : m = len := by omega
    have HNL : Vl (NM.map unums = namedL (fdsOf L)) := vl (by
      have := HN.out
      rw [← HLn.out, List.take_length] at this
      exact this)
    obtain ⟨na, nc, hnv⟩ := sown_shape HO.out
    subst hnv
    have hNl : NM.length ≤ 1048577 * 1048576 := by have := HC.out; omega
    obtain ⟨wX, hwX⟩ : ∃ wX, wX = wr := ⟨_, rfl⟩
    subst hwX
    have HMX : Vl (NM = [] ∨ ∃ gn, na = some ⟨gn, 0, none⟩ ∧ NM.length ≤ nc ∧ nc ≤ maxLen ∧ ∀ wq, Below wX.heap.size wX wq → ∀ t, t < NM.length → wq.cell? ⟨gn, t, none⟩ = some (.string (NM.getD t ⟨#[]⟩))) := by
      have h0 := HO.out
      rcases id h0.2 with ⟨_, h1⟩ | ⟨gn, c, cur, hv, _, _, h3, h4, _⟩
      · exact Or.inl (List.eq_nil_of_length_eq_zero h1)
      · injection hv with e1 e2 e3
        subst e3
        refine Or.inr ⟨gn, e1, h3, h4, fun wq hb t ht => ?_⟩
        have h5 := sown_below h0 hb
        subst e1
        have h6 := h5.cellAt t (by omega)
        rw [h6, List.getElem?_map, List.getElem?_eq_getElem ht]
        simp [List.getD, List.getElem?_eq_getElem ht]
    clear HN HC hm
    go_wp2_with fail
    go_loopw [9, 10, 11, 12, 13] (fun ov i _ _ _ wr => ∃ (j : Nat) (OL : List (ByteArray × ByteArray)), i = .int .i64 j ∧ j ≤ m ∧ OL.length ≤ j ∧ Vl (FOwn wr wX.heap.size ov OL) ∧ Vl (fdsOf OL = (fdsOf (L.take j)).filter fun f => !goneL (namedL (fdsOf L)) f.1) ∧ Vl (Below wX.heap.size wX wr)) (fun _ i _ _ _ _ => m - (intOf i).toNat)
    case atStart => exact ⟨0, [], rfl, Nat.zero_le _, Nat.zero_le _, ⟨rfl, Or.inl ⟨rfl, rfl⟩⟩, vl rfl, vl (Below.refl _ _)⟩
    case round =>
      obtain ⟨j, OL, rfl, hj, hOL, HF, HFE, HBX⟩ := hrel
      have HBW := vl (HB.out.trans (HBX.out.mono HB.out.size))
      by_cases h1 : j < m
      case neg =>
        have p2 : ¬ ((j : Int) < (m : Int)) := by omega
        obtain rfl : j = m := by omega
        clear h1 hj
        have HFF : Vl (fdsOf OL = cleanL (fdsOf L)) := vl (by
          have := HFE.out
          rw [← HLn.out, List.take_length] at this
          exact this)
        go_wp2
        go_ret
        exact ⟨_, OL, rfl, rfown_low HF.out HB.out.size, HFF.out, HBW.out⟩
      have p2 : (j : Int) < (m : Int) := by omega
      have hf := HR.out wr HBW.out
      have cn := hf.hname j h1
      have cv := hf.hvalue j h1
      have HSN := vl (clean_snoc L (namedL (fdsOf L)) j (by rw [HLn.out]; exact h1))
      obtain ⟨n, hn⟩ : ∃ n, n = (L.getD j fnone).1 := ⟨_, rfl⟩
      obtain ⟨v, hv⟩ : ∃ v, v = (L.getD j fnone).2 := ⟨_, rfl⟩
      rw [← hn] at cn HSN
      rw [← hv] at cv HSN
      have HNn := vl hn
      have HNv := vl hv
      have RB := vl (rbtw_any n wr)
      obtain ⟨g0, hg0⟩ : ∃ g0, g0 = (btwL (unums n) || decide (unums n = lengthN)) := ⟨_, rfl⟩
      have HG0 := vl hg0
      clear hf hn hv
      obtain ⟨wB, hwB⟩ : ∃ wB, wB = wr := ⟨_, rfl⟩
      subst hwB
      have inner : Vl (∀ (K : Prop), K → K) := vl (fun _ k => k)
      cases hb : btwL (unums n) with
      | true =>
        rw [hb] at RB
        have hg1 : g0 = true := by rw [hg0, hb]; rfl
        clear hg0 hb
        subst hg1
        go_wp2_with fail
        refine RB.out.mono ?_
        rintro e w' ⟨rfl, rfl⟩
        go_wp2_with fail
        go_loopw [12, 13] (fun gv kv wq => ∃ (k : Nat) (gb : Bool), kv = .int .i64 k ∧ gv = .bool gb ∧ k ≤ NM.length ∧ Vl (gb = (true || decide (unums n ∈ (NM.take k).map unums))) ∧ Vl (Below wB.heap.size wB wq)) (fun _ kv _ => NM.length - (intOf kv).toNat)
        case atStart => exact ⟨0, true, rfl, rfl, Nat.zero_le _, vl (by simp), vl (Below.refl _ _)⟩
        case round =>
          obtain ⟨k, gb, rfl, rfl, hk, HGB, HBB⟩ := hrel
          have HBQ := vl (HBX.out.trans (HBB.out.mono HBX.out.size))
          have HBR := vl (HBW.out.trans (HBB.out.mono HBW.out.size))
          have hf2 := HR.out wr HBR.out
          have cn2 := hf2.hname j h1
          rw [← HNn.out] at cn2
          have cv2 := hf2.hvalue j h1
          rw [← HNv.out] at cv2
          clear hf2
          by_cases h2 : k < NM.length
          · have p3 : (k : Int) < (NM.length : Int) := by omega
            rcases HMX.out with h0 | ⟨gn, hna, e1, e2, hcell⟩
            · rw [h0] at h2
              cases h2
            subst hna
            have ck := hcell wr HBQ.out k h2
            have HST := vl (gone_step NM k h2 n)
            generalize NM.getD k ⟨#[]⟩ = x at *
            cases gb with
            | true =>
              go_wp2_with fail
              go_quiet (fail)
              go_wp2
              go_roundw
              case rel => exact ⟨k + 1, true, by go_num, rfl, by omega, vl (by rw [HST.out, ← Bool.or_assoc, ← HGB.out]; rfl), vl (bdN HBB.out _)⟩
              case measure => first | (simp [intOf]; done) | (simp [intOf]; omega)
            | false =>
              go_wp2_with fail
              go_quiet (fail)
              go_wp2
              go_roundw
              case rel => exact ⟨k + 1, _, by go_num, rfl, by omega, vl (by rw [HST.out, ← Bool.or_assoc, ← HGB.out, toL_beq]; rfl), vl (bdN HBB.out _)⟩
              case measure => first | (simp [intOf]; done) | (simp [intOf]; omega)
          · have p3 : ¬ ((k : Int) < (NM.length : Int)) := by omega
            obtain rfl : k = NM.length := by omega
            have HGE : Vl (gb = goneL (namedL (fdsOf L)) (unums n)) := vl (by
              rw [HGB.out, List.take_length, HNL.out, HG0.out]
              rfl)
            clear HGB h2 hk
            cases gb with
            | true =>
              have HFE2 : Vl (fdsOf OL = (fdsOf (L.take (j + 1))).filter fun f => !goneL (namedL (fdsOf L)) f.1) := vl (by
                rw [HSN.out, ← HGE.out]
                simp only [if_true, List.append_nil]
                exact HFE.out)
              go_wp2
              go_roundw
              case rel => exact ⟨j + 1, OL, by go_num, by omega, by omega, vl (rfown_below HF.out HBB.out), HFE2, HBQ⟩
              case measure => first | (simp [intOf]; done) | (simp [intOf]; omega)
            | false =>
              have HFB := vl (rfown_below HF.out HBB.out)
              have HFE2 : Vl (fdsOf (OL ++ [(n, v)]) = (fdsOf (L.take (j + 1))).filter fun f => !goneL (namedL (fdsOf L)) f.1) := vl (by
                rw [HSN.out, ← HGE.out, ← HFE.out]
                unfold fdsOf
                rw [List.map_append]
                rfl)
              have LL : Vl (OL.length < 4398046511104) := vl (by omega)
              have SZ : Vl (wX.heap.size ≤ wr.heap.size) := vl HBQ.out.size
              go_wp2_with (at_builtin; refine wpList_fapp _ rfl _ _ rfl wX.heap.size u9 OL n v rfl HFB.out rfl LL.out SZ.out ?_)
              intro ov' w5 ho5 hg5
              have HO5 := vl ho5
              have HB5 := vl (u_below_grown (HBQ.out.alloc HBQ.out.size (.cells #[.string n, .string v] 51)) hg5 (by have := HBQ.out.size; simp; omega) (fun k hk => (HFB.out.lt k hk).1))
              clear ho5 hg5
              go_wp2
              go_roundw
              case rel => exact ⟨j + 1, OL ++ [(n, v)], by go_num, by omega, by simp; omega, HO5, HFE2, HB5⟩
              case measure => first | (simp [intOf]; done) | (simp [intOf]; omega)
      | false =>
        rw [hb] at RB
        by_cases hln : n.toList = [108, 101, 110, 103, 116, 104]
        · have hg1 : g0 = true := by rw [hg0, hb, decide_eq_true (toL_length.1 hln)]; rfl
          clear hg0 hb
          subst hg1
          go_wp2_with fail
          refine RB.out.mono ?_
          rintro e w' ⟨rfl, rfl⟩
          go_wp2_with fail
          clear hln
          go_loopw [12, 13] (fun gv kv wq => ∃ (k : Nat) (gb : Bool), kv = .int .i64 k ∧ gv = .bool gb ∧ k ≤ NM.length ∧ Vl (gb = (true || decide (unums n ∈ (NM.take k).map unums))) ∧ Vl (Below wB.heap.size wB wq)) (fun _ kv _ => NM.length - (intOf kv).toNat)
          case atStart => exact ⟨0, true, rfl, rfl, Nat.zero_le _, vl (by simp), vl (Below.refl _ _)⟩
          case round =>
            obtain ⟨k, gb, rfl, rfl, hk, HGB, HBB⟩ := hrel
            have HBQ := vl (HBX.out.trans (HBB.out.mono HBX.out.size))
            have HBR := vl (HBW.out.trans (HBB.out.mono HBW.out.size))
            have hf2 := HR.out wr HBR.out
            have cn2 := hf2.hname j h1
            rw [← HNn.out] at cn2
            have cv2 := hf2.hvalue j h1
            rw [← HNv.out] at cv2
            clear hf2
            by_cases h2 : k < NM.length
            · have p3 : (k : Int) < (NM.length : Int) := by omega
              rcases HMX.out with h0 | ⟨gn, hna, e1, e2, hcell⟩
              · rw [h0] at h2
                cases h2
              subst hna
              have ck := hcell wr HBQ.out k h2
              have HST := vl (gone_step NM k h2 n)
              generalize NM.getD k ⟨#[]⟩ = x at *
              cases gb with
              | true =>
                go_wp2_with fail
                go_quiet (fail)
                go_wp2
                go_roundw
                case rel => exact ⟨k + 1, true, by go_num, rfl, by omega, vl (by rw [HST.out, ← Bool.or_assoc, ← HGB.out]; rfl), vl (bdN HBB.out _)⟩
                case measure => first | (simp [intOf]; done) | (simp [intOf]; omega)
              | false =>
                go_wp2_with fail
                go_quiet (fail)
                go_wp2
                go_roundw
                case rel => exact ⟨k + 1, _, by go_num, rfl, by omega, vl (by rw [HST.out, ← Bool.or_assoc, ← HGB.out, toL_beq]; rfl), vl (bdN HBB.out _)⟩
                case measure => first | (simp [intOf]; done) | (simp [intOf]; omega)
            · have p3 : ¬ ((k : Int) < (NM.length : Int)) := by omega
              obtain rfl : k = NM.length := by omega
              have HGE : Vl (gb = goneL (namedL (fdsOf L)) (unums n)) := vl (by
                rw [HGB.out, List.take_length, HNL.out, HG0.out]
                rfl)
              clear HGB h2 hk
              cases gb with
              | true =>
                have HFE2 : Vl (fdsOf OL = (fdsOf (L.take (j + 1))).filter fun f => !goneL (namedL (fdsOf L)) f.1) := vl (by
                  rw [HSN.out, ← HGE.out]
                  simp only [if_true, List.append_nil]
                  exact HFE.out)
                go_wp2
                go_roundw
                case rel => exact ⟨j + 1, OL, by go_num, by omega, by omega, vl (rfown_below HF.out HBB.out), HFE2, HBQ⟩
                case measure => first | (simp [intOf]; done) | (simp [intOf]; omega)
              | false =>
                have HFB := vl (rfown_below HF.out HBB.out)
                have HFE2 : Vl (fdsOf (OL ++ [(n, v)]) = (fdsOf (L.take (j + 1))).filter fun f => !goneL (namedL (fdsOf L)) f.1) := vl (by
                  rw [HSN.out, ← HGE.out, ← HFE.out]
                  unfold fdsOf
                  rw [List.map_append]
                  rfl)
                have LL : Vl (OL.length < 4398046511104) := vl (by omega)
                have SZ : Vl (wX.heap.size ≤ wr.heap.size) := vl HBQ.out.size
                go_wp2_with (at_builtin; refine wpList_fapp _ rfl _ _ rfl wX.heap.size u9 OL n v rfl HFB.out rfl LL.out SZ.out ?_)
                intro ov' w5 ho5 hg5
                have HO5 := vl ho5
                have HB5 := vl (u_below_grown (HBQ.out.alloc HBQ.out.size (.cells #[.string n, .string v] 51)) hg5 (by have := HBQ.out.size; simp; omega) (fun k hk => (HFB.out.lt k hk).1))
                clear ho5 hg5
                go_wp2
                go_roundw
                case rel => exact ⟨j + 1, OL ++ [(n, v)], by go_num, by omega, by simp; omega, HO5, HFE2, HB5⟩
                case measure => first | (simp [intOf]; done) | (simp [intOf]; omega)
        · have hg1 : g0 = false := by rw [hg0, hb, decide_eq_false (fun e => hln (toL_length.2 e))]; rfl
          have hln' : (n.toList == [108, 101, 110, 103, 116, 104]) = false := by simpa using hln
          clear hg0 hb
          subst hg1
          go_wp2_with fail
          refine RB.out.mono ?_
          rintro e w' ⟨rfl, rfl⟩
          go_wp2_with fail
          clear hln hln'
          go_loopw [12, 13] (fun gv kv wq => ∃ (k : Nat) (gb : Bool), kv = .int .i64 k ∧ gv = .bool gb ∧ k ≤ NM.length ∧ Vl (gb = (false || decide (unums n ∈ (NM.take k).map unums))) ∧ Vl (Below wB.heap.size wB wq)) (fun _ kv _ => NM.length - (intOf kv).toNat)
          case atStart => exact ⟨0, false, rfl, rfl, Nat.zero_le _, vl (by simp), vl (Below.refl _ _)⟩
          case round =>
            obtain ⟨k, gb, rfl, rfl, hk, HGB, HBB⟩ := hrel
            have HBQ := vl (HBX.out.trans (HBB.out.mono HBX.out.size))
            have HBR := vl (HBW.out.trans (HBB.out.mono HBW.out.size))
            have hf2 := HR.out wr HBR.out
            have cn2 := hf2.hname j h1
            rw [← HNn.out] at cn2
            have cv2 := hf2.hvalue j h1
            rw [← HNv.out] at cv2
            clear hf2
            by_cases h2 : k < NM.length
            · have p3 : (k : Int) < (NM.length : Int) := by omega
              rcases HMX.out with h0 | ⟨gn, hna, e1, e2, hcell⟩
              · rw [h0] at h2
                cases h2
              subst hna
              have ck := hcell wr HBQ.out k h2
              have HST := vl (gone_step NM k h2 n)
              generalize NM.getD k ⟨#[]⟩ = x at *
              cases gb with
              | true =>
                go_wp2_with fail
                go_quiet (fail)
                go_wp2
                go_roundw
                case rel => exact ⟨k + 1, true, by go_num, rfl, by omega, vl (by rw [HST.out, ← Bool.or_assoc, ← HGB.out]; rfl), vl (bdN HBB.out _)⟩
                case measure => first | (simp [intOf]; done) | (simp [intOf]; omega)
              | false =>
                go_wp2_with fail
                go_quiet (fail)
                go_wp2
                go_roundw
                case rel => exact ⟨k + 1, _, by go_num, rfl, by omega, vl (by rw [HST.out, ← Bool.or_assoc, ← HGB.out, toL_beq]; rfl), vl (bdN HBB.out _)⟩
                case measure => first | (simp [intOf]; done) | (simp [intOf]; omega)
            · have p3 : ¬ ((k : Int) < (NM.length : Int)) := by omega
              obtain rfl : k = NM.length := by omega
              have HGE : Vl (gb = goneL (namedL (fdsOf L)) (unums n)) := vl (by
                rw [HGB.out, List.take_length, HNL.out, HG0.out]
                rfl)
              clear HGB h2 hk
              cases gb with
              | true =>
                have HFE2 : Vl (fdsOf OL = (fdsOf (L.take (j + 1))).filter fun f => !goneL (namedL (fdsOf L)) f.1) := vl (by
                  rw [HSN.out, ← HGE.out]
                  simp only [if_true, List.append_nil]
                  exact HFE.out)
                go_wp2
                go_roundw
                case rel => exact ⟨j + 1, OL, by go_num, by omega, by omega, vl (rfown_below HF.out HBB.out), HFE2, HBQ⟩
                case measure => first | (simp [intOf]; done) | (simp [intOf]; omega)
              | false =>
                have HFB := vl (rfown_below HF.out HBB.out)
                have HFE2 : Vl (fdsOf (OL ++ [(n, v)]) = (fdsOf (L.take (j + 1))).filter fun f => !goneL (namedL (fdsOf L)) f.1) := vl (by
                  rw [HSN.out, ← HGE.out, ← HFE.out]
                  unfold fdsOf
                  rw [List.map_append]
                  rfl)
                have LL : Vl (OL.length < 4398046511104) := vl (by omega)
                have SZ : Vl (wX.heap.size ≤ wr.heap.size) := vl HBQ.out.size
                go_wp2_with (at_builtin; refine wpList_fapp _ rfl _ _ rfl wX.heap.size u9 OL n v rfl HFB.out rfl LL.out SZ.out ?_)
                intro ov' w5 ho5 hg5
                have HO5 := vl ho5
                have HB5 := vl (u_below_grown (HBQ.out.alloc HBQ.out.size (.cells #[.string n, .string v] 51)) hg5 (by have := HBQ.out.size; simp; omega) (fun k hk => (HFB.out.lt k hk).1))
                clear ho5 hg5
                go_wp2
                go_roundw
                case rel => exact ⟨j + 1, OL ++ [(n, v)], by go_num, by omega, by simp; omega, HO5, HFE2, HB5⟩
                case measure => first | (simp [intOf]; done) | (simp [intOf]; omega)
theorem rclean_any (a : Option Addr) (len cap : Nat) (L : List (ByteArray × ByteArray)) (w : World) (hA : FArg w a len cap L) (hl : len ≤ 1048576) (hs : ∀ t, (L.getD t fnone).1.size ≤ 140737488351232 ∧ (L.getD t fnone).2.size ≤ 1048576) : Calls Tryz.prog 21 #[.slice a len cap] w (CleanE L w) := by
  rcases hA with ⟨rfl, rfl⟩ | ⟨g, off, rfl, hr⟩
  · have HF : Vl (CleanE [] w (.returned (.slice none 0 0)) w) := ⟨_, [], rfl, ⟨rfl, Or.inl ⟨rfl, rfl⟩⟩, rfl, Below.refl _ _⟩
    go_enter Tryz.func21, Tryz.ntmps21
    go_wp2_with fail
    go_loopw [3, 4, 5, 6, 7, 8] (fun nv i _ _ _ _ wr => nv = .slice none 0 0 ∧ i = .int .i64 0 ∧ wr = w) (fun _ _ _ _ _ _ _ => 0)
    case atStart => exact ⟨rfl, rfl, rfl⟩
    case round =>
      obtain ⟨rfl, rfl, rfl⟩ := hrel
      go_wp2_with fail
      go_loopw [9, 10, 11, 12, 13] (fun ov i _ _ _ wq => ov = .slice none 0 0 ∧ i = .int .i64 0 ∧ wq = wr) (fun _ _ _ _ _ _ => 0)
      case atStart => exact ⟨rfl, rfl, rfl⟩
      case round =>
        obtain ⟨rfl, rfl, rfl⟩ := hrel
        go_wp2
        go_ret
        exact HF.out
  · exact rclean_row g off len cap L w hr hl hs
end Go.Proofs.YtglmppadhlkkgagGreatDoor
