/-
  FROM THE ONE TO THE OTHER: the developers' without. No claim by itself.
-/
import Derived.Test.YtkaihfminlincagDoorYcl1
namespace Go.Proofs.YtkaihfminlincagDoor
open Go Go.RowKit
set_option maxRecDepth 100000
theorem fown_below {base : Nat} {w w' : World} {v : Value} {FL : List (ByteArray × ByteArray)} (h : FOwn w base v FL) (hb : Below w.heap.size w w') : FOwn w' base v FL := by
  obtain ⟨h1, ⟨rfl, h0⟩ | ⟨g, cap, cur, rfl, hg, hc, hr⟩⟩ := id h
  · exact ⟨h1, Or.inl ⟨rfl, h0⟩⟩
  · exact ⟨h1, Or.inr ⟨g, cap, cur, rfl, hg, (hb.block g (Array.getElem?_eq_some_iff.1 hc).1).trans hc, hr⟩⟩
theorem below_grown {B : Nat} {w0 w w' : World} {row : Option Nat} (h : Below B w0 w) (hg : w.grownBy w' row) (hB : B ≤ w.heap.size) (hr : ∀ k, row = some k → B ≤ k) : Below B w0 w' := h.grown hg hB hr
theorem cell2_below {w w' : World} {n v : ByteArray} (hb : Below (w.heap.size + 1) (w.alloc (.cells #[.string n, .string v] 25)) w') : w'.cell? ⟨w.heap.size, 0, none⟩ = some (.string n) ∧ w'.cell? ⟨w.heap.size, 1, none⟩ = some (.string v) := by
  have hk := (hb.block w.heap.size (by omega)).trans (heap_alloc_new w (.cells #[.string n, .string v] 25 (0, 0)))
  exact ⟨by simp only [World.cell?, hk]; rfl, by simp only [World.cell?, hk]; rfl⟩
set_option maxHeartbeats 2000000 in
theorem xwo_row (g off len cap : Nat) (L : List (ByteArray × ByteArray)) (F : Value) (p : Fd → Bool) (w : World) (hr : FRow w g off len cap L) (hl : len ≤ 4294967296) (hs : ∀ t, (L.getD t fnone).1.size ≤ 140737488351232) (hF : PrdF w F p) :
    Calls Tryd.prog 7 #[.slice (some ⟨g, off, none⟩) len cap, F] w fun e w' => ∃ v, e = .returned v ∧ FOwn w' w.heap.size v (L.filter (kpF p)) ∧ Below w.heap.size w w' := by
  obtain ⟨gf, lb, rfl, eg, HC0⟩ := hF
  have HC := vl HC0
  have HR := vl hr
  have HS := vl hs
  have hcap := hr.hcap
  have hmax := hr.hmax
  unfold maxLen at hmax
  have hLl := hr.hlen
  clear HC0 hr hs
  go_enter Tryd.func7, Tryd.ntmps7
  go_wp2_with fail
  go_loopw [9, 4] (fun i x wr => ∃ k : Nat, i = .int .i64 k ∧ k ≤ len ∧ Vl (FOwn wr w.heap.size x ((L.take k).filter (kpF p))) ∧ Vl (Below w.heap.size w wr)) (fun i _ _ => len - (intOf i).toNat)
  case atStart => exact ⟨0, rfl, by omega, ⟨rfl, Or.inl ⟨rfl, rfl⟩⟩, Below.refl _ _⟩
  case round =>
    obtain ⟨k, rfl, hk, HO, HB⟩ := hrel
    by_cases hlt : k < len
    · have hlt' : (k : Int) < (len : Int) := by omega
      have hr2 := HR.out.below HB.out
      have c1 := hr2.hname k hlt
      have c2 := hr2.hvalue k hlt
      have HT := vl (ftake_succ (L := L) (k := k) (by omega) (kpF p))
      have hsz := HS.out k
      generalize hf : L.getD k fnone = f at *
      obtain ⟨n, v⟩ := f
      clear hr2 hf
      have HB1 : Vl (Below w.heap.size w (wr.alloc (.cells #[.string n, .string v] 25))) := HB.out.alloc HB.out.size _
      have H := vl (HC.out _ n v hsz HB1.out)
      have HE : Vl (kpF p (n, v) = !p (unums n, unums v)) := rfl
      have hszr : w.heap.size ≤ wr.heap.size := HB.out.size
      obtain ⟨b, hb⟩ : ∃ b, p (unums n, unums v) = b := ⟨_, rfl⟩
      rw [hb] at H HE
      rw [HE.out] at HT
      clear hb HE
      go_wp2_with fail
      refine H.out.mono ?_
      rintro e w1 ⟨rfl, hb1⟩
      rw [World.size_alloc] at hb1
      obtain ⟨d1, d2⟩ := cell2_below hb1
      have hs1 : wr.heap.size < w1.heap.size := by have := hb1.size; simp at this; omega
      have HB2 : Vl (Below w.heap.size w w1) := HB1.out.trans (hb1.mono (by omega))
      have HO1 := vl (fown_below HO.out (((Below.refl _ wr).alloc (Nat.le_refl _) _).trans (hb1.mono (by omega))))
      clear H hb1 HO HB HB1 c1 c2 hsz
      cases b with
      | true =>
        go_wp2_with fail
        go_roundw
        case rel => exact ⟨k + 1, by go_num, by omega, by rw [HT.out]; simpa using HO1, HB2.out⟩
        case measure => simp [intOf]; omega
      | false =>
        have hfl : ((L.take k).filter (kpF p)).length ≤ k := Nat.le_trans (List.length_filter_le _ _) (by rw [List.length_take]; omega)
        generalize (L.take k).filter (kpF p) = FL at *
        obtain ⟨sa, sc, hv⟩ := fown_shape HO1.out
        subst hv
        go_wp2_with (at_builtin; refine wpList_fapp w1 rfl _ _ rfl w.heap.size (.slice sa FL.length sc) FL n v rfl HO1.out rfl (by omega) (by omega) ?_)
        intro v3 w3 ho3 hg3
        have hrow : ∀ k, (Value.slice sa FL.length sc).ownBlock = some k → w.heap.size ≤ k := fun k hk => (HO1.out.lt k hk).1
        have HB3 := vl (below_grown (HB2.out.alloc HB2.out.size (.cells #[.string n, .string v] 25)) hg3 (by rw [World.size_alloc]; omega) hrow)
        have HO3 := vl ho3
        clear ho3 hg3 hrow HO1 HB2 d1 d2
        go_wp2_with fail
        go_roundw
        case rel => exact ⟨k + 1, by go_num, by omega, by rw [HT.out]; simpa using HO3, HB3.out⟩
        case measure => simp [intOf]; omega
    · have hke : k = len := by omega
      subst hke
      have HE : Vl (L.take k = L) := List.take_of_length_le (by omega)
      go_wp2_with fail
      go_ret
      exact ⟨_, rfl, by rw [HE.out] at HO; exact HO.out, HB.out⟩
theorem xwo_any (a : Option Addr) (len cap : Nat) (L : List (ByteArray × ByteArray)) (F : Value) (p : Fd → Bool) (w : World) (hA : FArg w a len cap L) (hl : len ≤ 4294967296) (hs : ∀ t, (L.getD t fnone).1.size ≤ 140737488351232) (hF : PrdF w F p) :
    Calls Tryd.prog 7 #[.slice a len cap, F] w fun e w' => ∃ v, e = .returned v ∧ FOwn w' w.heap.size v (L.filter (kpF p)) ∧ Below w.heap.size w w' := by
  rcases hA with ⟨rfl, rfl⟩ | ⟨g, off, rfl, hr⟩
  · go_enter Tryd.func7, Tryd.ntmps7
    go_wp2_with fail
    go_loopw [9, 4] (fun i x wr => i = .int .i64 0 ∧ x = .slice none 0 0 ∧ wr = w) (fun _ _ _ => 0)
    case atStart => exact ⟨rfl, rfl, rfl⟩
    case round =>
      obtain ⟨rfl, rfl, rfl⟩ := hrel
      go_wp2_with fail
      go_ret
      exact ⟨_, rfl, ⟨rfl, Or.inl ⟨rfl, rfl⟩⟩, Below.refl _ _⟩
  · exact xwo_row g off len cap L F p w hr hl hs hF
end Go.Proofs.YtkaihfminlincagDoor
