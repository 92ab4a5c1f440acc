/-
  FROM THE ONE TO THE OTHER: strings.Split at two bytes; the developers' namedBy. No claim by itself.
-/
import Derived.Lib.SplitLaws
import Derived.Maps.OwnSet
import Derived.Maps.OwnOps
import Derived.Maps.Views
import Derived.Test.YtglmppadhlkkgagGreatDoorG5
import Derived.Test.YtglmppadhlkkgagGreatDoorNdv4X
import Derived.Test.YtglmppadhlkkgagGreatDoorSplit0
namespace Go.Proofs.YtglmppadhlkkgagGreatDoor
open Go Go.RowKit Go.Maps
set_option maxRecDepth 100000
/-- What is known of the library's variable. -/
def mxP (w : World) : Prop := ∃ m : Int, w.cell? ⟨5, 0, none⟩ = some (.int .i64 m)
theorem mxP.below {w w' : World} (h : mxP w) (hb : Below w.heap.size w w') : mxP w' := by
  obtain ⟨m, hm⟩ := h
  have hlt : 5 < w.heap.size := by
    rcases Nat.lt_or_ge 5 w.heap.size with h1 | h1
    · exact h1
    · simp [World.cell?, Array.getElem?_eq_none h1] at hm
  exact ⟨m, (hb.cell (p := ⟨5, 0, none⟩) hlt).trans hm⟩
theorem pc_size {a b : Int} : ∀ {s : List Int} {x : List Int}, x ∈ cut2 a b s → x.length ≤ s.length
  | [], x, h => by simp [cut2] at h; simp [h]
  | [c], x, h => by simp [cut2] at h; simp [h]
  | c :: d :: r, x, h => by
    rw [cut2] at h
    split at h
    · rcases List.mem_cons.1 h with rfl | h
      · simp
      · have := pc_size h
        simp; omega
    · cases hq : cut2 a b (d :: r) with
      | nil => exact absurd hq (cut2_ne a b _)
      | cons y l =>
        rw [hq] at h
        simp only [hdCons, List.mem_cons] at h
        rcases h with rfl | h
        · have := pc_size (show y ∈ cut2 a b (d :: r) by rw [hq]; simp)
          simp at this ⊢; omega
        · have := pc_size (show x ∈ cut2 a b (d :: r) by rw [hq]; simp [h])
          simp at this ⊢; omega
theorem xsplit_any (a b : UInt8) (s : ByteArray) (w : World) (hm : mxP w) (hs : s.size < 4294967281) : Calls Tryz.prog 109 #[.string s, .string ⟨#[a, b]⟩] w fun e w' => ∃ PS : List ByteArray,
    e = .returned (.slice (some ⟨w.heap.size, 0, none⟩) PS.length PS.length) ∧ w' = w.alloc (.cells (PS.map Value.string).toArray 9) ∧ PS.map unums = cut2 a.toNat b.toNat (unums s) ∧ ∀ x ∈ PS, x.size ≤ s.size := by
  obtain ⟨m, hm⟩ := hm
  refine (Any.strings_Split { Tryz.laysSplit with } Tryz.laysSplit.i9 s ⟨#[a, b]⟩ m w hs hm (show 1 ≤ 2 by omega)).mono ?_
  rintro e w' ⟨rfl, rfl⟩
  have hlen := Lib.splitB_all ⟨#[a, b]⟩ (show 1 ≤ 2 by omega) 0 _ s rfl
  have hc : (Lib.splitB ⟨#[a, b]⟩ 0 (Lib.countB s ⟨#[a, b]⟩) s).map unums = cut2 a.toNat b.toNat (unums s) := splitB_cut a b s
  refine ⟨Lib.splitB ⟨#[a, b]⟩ 0 (Lib.countB s ⟨#[a, b]⟩) s, by rw [hlen], rfl, hc, fun x hx => ?_⟩
  have := pc_size (hc ▸ List.mem_map_of_mem (f := unums) hx)
  rwa [unums_len, unums_len] at this
/- the names, counted in a map -/
theorem skl : Keyed Tryz.prog 9 := string_keyed Tryz.underlying9
theorem szero (w : World) : (zeroValue 3).run Tryz.prog w = .ok (.int .i64 0) w := by kernel_rfl
abbrev SDat := DataW Unit
def kyS (s : ByteArray) : Lit := .string s.data.toList
theorem ky_ok {s : ByteArray} (h : s.size ≤ 140737488351232) : keyOf Tryz.prog 9 (.string s) = some (kyS s) := Go.WideMaps.keyOf_string_mk Tryz.underlying9 (by unfold maxLen; omega)
theorem ky_inj {s t : ByteArray} (h : kyS s = kyS t) : unums s = unums t := by
  have : s.data.toList = t.data.toList := by unfold kyS at h; injection h
  unfold unums
  rw [this]
theorem nums_inj : ∀ {x y : List UInt8}, (x.map fun c => (c.toNat : Int)) = y.map (fun c => (c.toNat : Int)) → x = y
  | [], [], _ => rfl
  | [], _ :: _, h => by simp at h
  | _ :: _, [], h => by simp at h
  | a :: x, b :: y, h => by
    simp only [List.map_cons, List.cons.injEq] at h
    rw [byte_ne h.1, nums_inj h.2]
theorem ky_of {s t : ByteArray} (h : unums s = unums t) : kyS s = kyS t := by
  unfold kyS
  rw [nums_inj h]
structure Cnt (D : SDat) (nm : List (List Int)) : Prop where
  map : IsMap D
  at_ : ∀ s : ByteArray, D.atKey (kyS s) (.lit (.int .i64 0)) = .lit (.int .i64 (nm.count (unums s) : Nat))
theorem cnt_nil : Cnt (.map []) [] := ⟨⟨[], rfl⟩, fun _ => rfl⟩
theorem cnt_put {D : SDat} {nm : List (List Int)} (h : Cnt D nm) (s : ByteArray) : Cnt (D.put (kyS s) (.lit (.int .i64 ((nm.count (unums s) : Nat) + 1)))) (nm ++ [unums s]) := by
  refine ⟨?_, fun t => ?_⟩
  · obtain ⟨es, rfl⟩ := h.map
    exact ⟨_, rfl⟩
  · by_cases e : unums t = unums s
    · rw [ky_of e, atKey_put_same h.map (by unfold kyS; trivial), e, List.count_append]
      simp
    · rw [atKey_put_other (fun k => e (ky_inj k)), h.at_ t, List.count_append]
      have : List.count (unums t) [unums s] = 0 := List.count_eq_zero.2 (by simpa using e)
      rw [this, Nat.add_zero]
/-- The map in memory. -/
abbrev MOwn (w : World) (mb c : Nat) (D : SDat) : Prop := w.ownsMap Tryz.prog 9 (plainElem Tryz.prog 3) mb c D
theorem mown_below {w w' : World} {mb c : Nat} {D : SDat} (h : MOwn w mb c D) (hb : Below w.heap.size w w') : MOwn w' mb c D := by
  have hlt := h.lt
  obtain ⟨es, clock, h1, r⟩ := h
  exact ⟨es, clock, (hb.block mb hlt).trans h1, r⟩
theorem mown_look {w : World} {mb c : Nat} {D : SDat} {nm : List (List Int)} (h : MOwn w mb c D) (hc : Cnt D nm) {s : ByteArray} (hs : s.size ≤ 140737488351232) :
    (Instr.lookup 94 (.map (some mb)) (.string s) false).run Tryz.prog w = .ok (.int .i64 (nm.count (unums s) : Nat)) w := by
  obtain ⟨x, hrun, hat, _⟩ := h.lookup_int skl Tryz.underlying94 Tryz.underlying3 (szero _) (ky_ok hs)
  rw [hc.at_ s] at hat
  injection hat with e
  injection e with _ e
  rw [hrun, ← e]
theorem named_take {L : List (ByteArray × ByteArray)} {k : Nat} (h : k < L.length) : namedL (fdsOf (L.take (k + 1))) = namedL (fdsOf (L.take k)) ++ if unums (L.getD k fnone).1 = connN then (cut2 44 32 (unums (L.getD k fnone).2)).filter tokL else [] := by
  unfold namedL fdsOf
  rw [List.take_add_one, List.getElem?_eq_getElem h, List.getD, List.getElem?_eq_getElem h, List.map_append, List.flatMap_append]
  congr 1
  simp
theorem named_len : ∀ (L : List Fd) (M : Nat), (∀ f ∈ L, f.2.length ≤ M) → (namedL L).length ≤ L.length * (M + 1)
  | [], _, _ => by simp [namedL]
  | f :: L, M, h => by
    have ih := named_len L M (fun g hg => h g (List.mem_cons_of_mem _ hg))
    have h0 := h f (List.mem_cons_self ..)
    have e : namedL (f :: L) = (if f.1 = connN then (cut2 44 32 f.2).filter tokL else []) ++ namedL L := rfl
    have h1 : (if f.1 = connN then (cut2 44 32 f.2).filter tokL else []).length ≤ M + 1 := by
      split
      · exact Nat.le_trans (List.length_filter_le _ _) (Nat.le_trans (cut2_len _ _ _) (by omega))
      · simp
    rw [e, List.length_append, List.length_cons, Nat.add_mul]
    omega
theorem pc_take {PS : List ByteArray} {j : Nat} (h : j < PS.length) (nm : List (List Int)) : nm ++ ((PS.take (j + 1)).map unums).filter tokL = (nm ++ ((PS.take j).map unums).filter tokL) ++ if tokL (unums (PS.getD j ByteArray.empty)) = true then [unums (PS.getD j ByteArray.empty)] else [] := by
  rw [List.take_add_one, List.getElem?_eq_getElem h, List.getD, List.getElem?_eq_getElem h, List.append_assoc]
  congr 1
  simp only [Option.toList, Option.getD, List.map_append, List.filter_append]
  congr 1
  simp [List.filter_cons]
theorem pc_cell {w w' : World} {PS : List ByteArray} (hb : Below (w.heap.size + 1) (w.alloc (.cells (PS.map Value.string).toArray 9)) w') (j : Nat) (hj : j < PS.length) : w'.cell? ⟨w.heap.size, j, none⟩ = some (.string (PS.getD j ByteArray.empty)) := by
  have hk := (hb.block w.heap.size (by omega)).trans (heap_alloc_new w (.cells (PS.map Value.string).toArray 9 (0, 0)))
  simp only [World.cell?, hk]
  simp [List.getD, List.getElem?_eq_getElem hj]
end Go.Proofs.YtglmppadhlkkgagGreatDoor
