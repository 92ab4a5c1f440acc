/-
  WHAT DIFFERS IS KEPT APART: what lies in memory. No claim by itself.
-/
import Derived.Test.YtibipnipeaeonaaDoorZvmX
namespace Go.Proofs.YtibipnipeaeonaaDoor
open Go Go.RowKit Go.Shelf
set_option maxRecDepth 100000
theorem vconv_own (s : ByteArray) (w : World) (hs : s.size ≤ 140737488355328) : ∃ cap w', (convert 9 23 (.string s)).run Tryd.prog w = .ok (.slice (some ⟨w.heap.size, 0, none⟩) s.size cap) w' ∧ UOwn w' w.heap.size (.slice (some ⟨w.heap.size, 0, none⟩) s.size cap) (unums s) ∧ Below w.heap.size w w' := by
  have hsz : (Lib.bytesCells w 5 s).size = grownCap w s.size 0 5 := by
    have hge := grownCap_ge w s.size 0 5
    have e : s.data.size = s.size := rfl
    simp [Lib.bytesCells]
    omega
  refine ⟨_, _, Lib.run_convert_string_bytes w 9 23 5 s Tryd.underlying9 Tryd.underlying23 Tryd.underlying5, Or.inr ⟨w.heap.size, _, by rw [unums_len], Nat.le_refl _, by rw [Lib.bytesWorld_size]; omega, by rw [unums_len]; exact grownCap_ge w _ _ _, grownCap_le_maxLen w _ _ _ (by unfold maxLen; omega), fun t ht => ?_, fun t ht => ?_, fun t ht => ?_⟩, ⟨rfl, rfl, rfl, by rw [Lib.bytesWorld_size]; omega, fun k hk => Lib.bytesWorld_at_old w 5 s k hk⟩⟩
  · rw [unums_len] at ht
    rw [Lib.bytesWorld_cell w 5 s t ht]
    have hk : t < s.data.toList.length := by rw [Array.length_toList]; exact ht
    simp only [unums, List.getD, List.getElem?_map, List.getElem?_eq_getElem hk, Option.map_some, Option.getD_some]
  · simp only [World.cell?, Lib.bytesWorld_at_new]
    simp
    omega
  · simp only [World.frozen?, Lib.bytesWorld_at_new]
    simp
    omega
theorem i_one {w : World} {vb : Nat} {n v : ByteArray} (hv : w.heap[vb]? = some (.cells #[.string n, .string v] 31 (0, 0))) : FArg w (some ⟨vb, 0, none⟩) 1 1 [(n, v)] := by
  refine Or.inr ⟨vb, 0, rfl, rfl, Nat.le_refl _, by decide, fun t ht => ?_, fun t ht => ?_⟩
  · obtain rfl : t = 0 := by omega
    simp only [World.cell?, hv]
    rfl
  · obtain rfl : t = 0 := by omega
    simp only [World.cell?, hv]
    rfl
theorem i_two {w : World} {vb : Nat} {n v n2 v2 : ByteArray} (hv : w.heap[vb]? = some (.cells #[.string n, .string v, .string n2, .string v2] 31 (0, 0))) : FArg w (some ⟨vb, 0, none⟩) 2 2 [(n, v), (n2, v2)] := by
  refine Or.inr ⟨vb, 0, rfl, rfl, Nat.le_refl _, by decide, fun t ht => ?_, fun t ht => ?_⟩
  · rcases (by omega : t = 0 ∨ t = 1) with rfl | rfl <;> (simp only [World.cell?, hv]; rfl)
  · rcases (by omega : t = 0 ∨ t = 1) with rfl | rfl <;> (simp only [World.cell?, hv]; rfl)
abbrev tyB : ByteArray := ⟨#[116, 121, 112, 101]⟩
abbrev xB : ByteArray := ⟨#[120]⟩
abbrev vq (g k : Nat) (L : List FB) : RqM := { m := ⟨#[71, 69, 84]⟩, p := ⟨#[47]⟩, h := ⟨#[104]⟩, fa := some ⟨g, 0, none⟩, fn := k, fc := k, ba := none, bn := 0, bc := 0, FL := L, B := [] }
abbrev vp (n : Nat) (a : ByteArray) (cap : Nat) : RpM := { code := 200, fa := some ⟨n + 1, 0, none⟩, fn := 2, fc := 2, ba := some ⟨n + 2, 0, none⟩, bn := a.size, bc := cap, FL := vrFL, B := unums a }
/-- The reply and the requests in memory. -/
structure VW (w : World) (n m cap : Nat) (a b o : ByteArray) : Prop where
  p : w.heap[m]? = some (.cells #[.int .i64 200, .slice (some ⟨n + 1, 0, none⟩) 2 2, .slice (some ⟨n + 2, 0, none⟩) a.size cap] 27 (0, 0))
  fx : w.heap[m + 1]? = some (.cells #[.string tyB, .string a] 31 (0, 0))
  fy : w.heap[m + 1 + 1 + 1]? = some (.cells #[.string tyB, .string b] 31 (0, 0))
  y : w.heap[m + 1 + 1 + 1 + 1]? = some (.cells #[.string ⟨#[71, 69, 84]⟩, .string ⟨#[47]⟩, .string ⟨#[104]⟩, .slice (some ⟨m + 1 + 1 + 1, 0, none⟩) 1 1, .slice none 0 0] 25 (0, 0))
  fz : w.heap[m + 1 + 1 + 1 + 1 + 1]? = some (.cells #[.string tyB, .string a, .string xB, .string o] 31 (0, 0))
  z : w.heap[m + 1 + 1 + 1 + 1 + 1 + 1]? = some (.cells #[.string ⟨#[71, 69, 84]⟩, .string ⟨#[47]⟩, .string ⟨#[104]⟩, .slice (some ⟨m + 1 + 1 + 1 + 1 + 1, 0, none⟩) 2 2, .slice none 0 0] 25 (0, 0))
  fp : w.heap[n + 1]? = some (.cells #[.string ⟨#[99, 97, 99, 104, 101]⟩, .string ⟨#[109, 97, 120, 45, 57]⟩, .string ⟨#[118, 97, 114, 121]⟩, .string ⟨#[116, 121, 112, 101]⟩] 31 (0, 0))
  body : Arg w (some ⟨n + 2, 0, none⟩) a.size cap (unums a)
  lt : n + 2 < w.heap.size ∧ n + 2 < m
theorem VW.tn {S : Nat → Prop} {w w' : World} {n m cap : Nat} {a b o : ByteArray} (h : VW w n m cap a b o) (ht : Tn S w w') (hS : ∀ k, S k → k = n ∨ m + 6 < k) : VW w' n m cap a b o := by
  have blk : ∀ (k : Nat) (x : Obj), w.heap[k]? = some x → k ≠ n → k ≤ m + 6 → w'.heap[k]? = some x := fun k x hk h1 h2 => (ht.block k (Array.getElem?_eq_some_iff.1 hk).1 (fun e => by have := hS k e; omega)).trans hk
  have := h.lt
  refine ⟨blk _ _ h.p (by omega) (by omega), blk _ _ h.fx (by omega) (by omega), blk _ _ h.fy (by omega) (by omega), blk _ _ h.y (by omega) (by omega), blk _ _ h.fz (by omega) (by omega), blk _ _ h.z (by omega) (by omega), blk _ _ h.fp (by omega) (by omega), arg_tn h.body ht (fun q hq _ e => by cases hq; have e' : n + 2 = n ∨ m + 6 < n + 2 := hS _ e; omega), ?_⟩
  have := ht.size
  omega
theorem VW.rp {w : World} {n m cap : Nat} {a b o : ByteArray} (h : VW w n m cap a b o) (ha : a.size ≤ 140737488351232) : RpIn w (vp n a cap) := by
  refine ⟨by show (-9223372036854775808 : Int) ≤ 200 ∧ (200 : Int) ≤ 9223372036854775807; omega, i_two h.fp, h.body, (fun e => by cases e), ⟨Nat.le_of_ble_eq_true rfl, ha⟩, fun t => ?_⟩
  match t with
  | 0 => exact ⟨Nat.le_of_ble_eq_true rfl, Nat.le_of_ble_eq_true rfl⟩
  | 1 => exact ⟨Nat.le_of_ble_eq_true rfl, Nat.le_of_ble_eq_true rfl⟩
  | t + 2 => exact ⟨by simp [vrFL, fnone], by simp [vrFL, fnone]⟩
theorem vq1 {w : World} {g : Nat} {a : ByteArray} (h : w.heap[g]? = some (.cells #[.string tyB, .string a] 31 (0, 0))) (ha : a.size ≤ 140737488351232) : RqIn w (vq g 1 [(tyB, a)]) := by
  refine ⟨i_one h, Or.inl ⟨rfl, rfl⟩, fun _ => ⟨rfl, rfl⟩, ⟨Nat.le_of_ble_eq_true rfl, Nat.le_of_ble_eq_true rfl⟩, ⟨Nat.le_of_ble_eq_true rfl, Nat.le_of_ble_eq_true rfl, Nat.le_of_ble_eq_true rfl⟩, fun t => ?_⟩
  match t with
  | 0 => exact ⟨Nat.le_of_ble_eq_true rfl, ha⟩
  | t + 1 => exact ⟨by simp [fnone], by simp [fnone]⟩
theorem vq2 {w : World} {g : Nat} {a o : ByteArray} (h : w.heap[g]? = some (.cells #[.string tyB, .string a, .string xB, .string o] 31 (0, 0))) (ha : a.size ≤ 140737488351232) (ho : o.size ≤ 140737488351232) : RqIn w (vq g 2 [(tyB, a), (xB, o)]) := by
  refine ⟨i_two h, Or.inl ⟨rfl, rfl⟩, fun _ => ⟨rfl, rfl⟩, ⟨Nat.le_of_ble_eq_true rfl, Nat.le_of_ble_eq_true rfl⟩, ⟨Nat.le_of_ble_eq_true rfl, Nat.le_of_ble_eq_true rfl, Nat.le_of_ble_eq_true rfl⟩, fun t => ?_⟩
  match t with
  | 0 => exact ⟨Nat.le_of_ble_eq_true rfl, ha⟩
  | 1 => exact ⟨Nat.le_of_ble_eq_true rfl, ho⟩
  | t + 2 => exact ⟨by simp [fnone], by simp [fnone]⟩
theorem vrps (n : Nat) (a : ByteArray) (cap : Nat) : RpS (vp n a cap) := ⟨Nat.le_of_ble_eq_true rfl, by show (fstV (fdsOf vrFL) varyN).length < _; rw [vr_vary]; decide⟩
theorem vqb {g k : Nat} {L : List FB} {d : Nat} (h : RqB (vq g k L) d) : d = g := by
  rcases h with ⟨p, hp, rfl, _⟩ | ⟨p, hp, rfl, _⟩
  · cases hp; rfl
  · cases hp
theorem vpb {n cap : Nat} {a : ByteArray} {d : Nat} (h : RpB (vp n a cap) d) : d = n + 1 ∨ d = n + 2 := by
  rcases h with ⟨p, hp, rfl, _⟩ | ⟨p, hp, rfl, _⟩
  · cases hp; exact Or.inl rfl
  · cases hp; exact Or.inr rfl
/-- What is kept for a request of this kind. -/
structure VK (k : KpM) (a : ByteArray) (t : Int) (b : ByteArray) : Prop where
  host : k.host = ⟨#[104]⟩
  path : k.path = ⟨#[47]⟩
  FL : k.rp.FL = vrFL
  B : k.rp.B = unums b
  at_ : k.at_ = t
  L0 : k.L0 = [(tyB, a)]
theorem VK.of {w : World} {k : KpM} {g n cap : Nat} {a b : ByteArray} {t : Int} (h : KeptOf w (vq g 1 [(tyB, a)]) (vp n b cap) t k) : VK k a t b := ⟨h.host, h.path, h.rep.FL, h.rep.B, h.at_, h.L0⟩
theorem ty_num : unums tyB = typeN := by decide +kernel
theorem x_num : unums xB ≠ typeN := by decide +kernel
theorem VK.fit1 {k : KpM} {a b c : ByteArray} {t : Int} {g : Nat} (h : VK k a t c) : fitP k (vq g 1 [(tyB, b)]) ↔ a = b := by
  unfold fitP
  rw [h.host, h.path, h.FL, h.L0]
  have e1 := (vr_one (a := a) (o := a) ty_num x_num).2
  have e2 := (vr_one (a := b) (o := a) ty_num x_num).2
  rw [e1, show (vq g 1 [(tyB, b)]).FL = [(tyB, b)] from rfl, e2, vr_fits]
  exact ⟨fun h => h.2.2, fun h => ⟨rfl, rfl, h⟩⟩
theorem VK.fit2 {k : KpM} {a o c : ByteArray} {t : Int} {g : Nat} (h : VK k a t c) : fitP k (vq g 2 [(tyB, a), (xB, o)]) := by
  unfold fitP
  rw [h.host, h.path, h.FL, h.L0]
  have e1 := vr_one (a := a) (o := o) ty_num x_num
  rw [e1.2, show (vq g 2 [(tyB, a), (xB, o)]).FL = [(tyB, a), (xB, o)] from rfl, e1.1]
  exact ⟨rfl, rfl, Sby.refl _⟩
theorem VK.lives {k : KpM} {a c : ByteArray} (h : VK k a 1 c) : livesP k 3 := by
  unfold livesP
  rw [h.at_, h.FL, vr_life]
  omega
theorem vlay {w2 : World} {x0 x1 x2 x3 x4 x5 x6 : Obj} : let W := ((((((w2.alloc x0).alloc x1).alloc x2).alloc x3).alloc x4).alloc x5).alloc x6
    W.heap[w2.heap.size]? = some x0 ∧ W.heap[w2.heap.size + 1]? = some x1 ∧ W.heap[w2.heap.size + 1 + 1 + 1]? = some x3 ∧ W.heap[w2.heap.size + 1 + 1 + 1 + 1]? = some x4 ∧ W.heap[w2.heap.size + 1 + 1 + 1 + 1 + 1]? = some x5 ∧ W.heap[w2.heap.size + 1 + 1 + 1 + 1 + 1 + 1]? = some x6 ∧ W.heap.size = w2.heap.size + 7 ∧ Below w2.heap.size w2 W := by
  intro W
  have al : ∀ (V : World) (o : Obj) (k : Nat) (x : Option Obj), k < V.heap.size → V.heap[k]? = x → (V.alloc o).heap[k]? = x := fun V o k x hk e => (Below.heap_alloc _ _ _ hk).trans e
  have nw : ∀ (V : World) (o : Obj) (k : Nat), V.heap.size = k → (V.alloc o).heap[k]? = some o := fun V o k e => by rw [← e]; exact heap_alloc_new V o
  refine ⟨?_, ?_, ?_, ?_, ?_, ?_, ?_, ?_⟩
  · exact al _ _ _ _ (by simp <;> omega) (al _ _ _ _ (by simp <;> omega) (al _ _ _ _ (by simp <;> omega) (al _ _ _ _ (by simp <;> omega) (al _ _ _ _ (by simp <;> omega) (al _ _ _ _ (by simp) (nw _ _ _ rfl))))))
  · exact al _ _ _ _ (by simp <;> omega) (al _ _ _ _ (by simp <;> omega) (al _ _ _ _ (by simp <;> omega) (al _ _ _ _ (by simp <;> omega) (al _ _ _ _ (by simp) (nw _ _ _ (by simp))))))
  · exact al _ _ _ _ (by simp <;> omega) (al _ _ _ _ (by simp <;> omega) (al _ _ _ _ (by simp) (nw _ _ _ (by simp))))
  · exact al _ _ _ _ (by simp <;> omega) (al _ _ _ _ (by simp) (nw _ _ _ (by simp)))
  · exact al _ _ _ _ (by simp) (nw _ _ _ (by simp))
  · exact nw _ _ _ (by simp)
  · show (World.alloc _ _).heap.size = _
    simp [World.size_alloc]
  · exact (((((((Below.refl _ w2).alloc (Nat.le_refl _) _).alloc (by simp) _).alloc (by simp <;> omega) _).alloc (by simp <;> omega) _).alloc (by simp <;> omega) _).alloc (by simp <;> omega) _).alloc (by simp <;> omega) _
theorem vget_m : unums (⟨#[71, 69, 84]⟩ : ByteArray) = getN := by decide +kernel
theorem vg_z {w w' : World} {k : KpM} {a o c : ByteArray} {g : Nat} {e : Ending} (h : GetE w [k] (vq g 2 [(tyB, a), (xB, o)]) 3 e w') (hk : VK k a 1 c) : ∃ p : RpM, e = .returned (.tuple #[.agg #[.int .i64 p.code, .slice p.fa p.fn p.fc, .slice p.ba p.bn p.bc], .int .i64 2, .nilIface]) ∧ Arg w' p.ba p.bn p.bc (unums c) := by
  rcases h with ⟨t, p, ht, hh, _, he, hR, hS⟩ | ⟨hno, _⟩
  · obtain rfl : t = 0 := by simpa using ht
    have e1 : ([k].getD 0 kz) = k := rfl
    rw [e1] at he hS
    refine ⟨p, ?_, ?_⟩
    · rw [he, hk.at_]; rfl
    · have := hR.body
      rwa [hS.B, hk.B] at this
  · exact absurd ⟨hk.fit2, hk.lives⟩ (hno 0 (by simp))
theorem vg_y {w w' : World} {k : KpM} {a b c : ByteArray} {g : Nat} {e : Ending} (h : GetE w [k] (vq g 1 [(tyB, b)]) 3 e w') (hk : VK k a 1 c) : ∃ (co : Int) (fa : Option Addr) (fn fc : Nat) (ba : Option Addr) (bn bc : Nat) (ol : Int) (er : Value), e = .returned (.tuple #[.agg #[.int .i64 co, .slice fa fn fc, .slice ba bn bc], .int .i64 ol, er]) ∧ (a = b → er = .nilIface) ∧ (a ≠ b → er = .iface 53 (.int .i64 5)) := by
  rcases h with ⟨t, p, ht, hh, _, he, hR, hS⟩ | ⟨hno, he⟩
  · obtain rfl : t = 0 := by simpa using ht
    have e1 : ([k].getD 0 kz) = k := rfl
    rw [e1] at hh
    have := hk.fit1.1 hh.1
    exact ⟨_, _, _, _, _, _, _, _, _, he, fun _ => rfl, fun h => absurd this h⟩
  · refine ⟨_, _, _, _, _, _, _, _, _, he, fun hab => ?_, fun _ => rfl⟩
    exact absurd ⟨hk.fit1.2 hab, hk.lives⟩ (hno 0 (by simp))
theorem vq_box {w : World} {g : Nat} {k : Nat} {f : Nat} (h : w.heap[g]? = some (.cells #[.string ⟨#[71, 69, 84]⟩, .string ⟨#[47]⟩, .string ⟨#[104]⟩, .slice (some ⟨f, 0, none⟩) k k, .slice none 0 0] 25 (0, 0))) :
    w.cell? ⟨g, 0, none⟩ = some (.string ⟨#[71, 69, 84]⟩) ∧ w.cell? ⟨g, 1, none⟩ = some (.string ⟨#[47]⟩) ∧ w.cell? ⟨g, 2, none⟩ = some (.string ⟨#[104]⟩) ∧ w.cell? ⟨g, 3, none⟩ = some (.slice (some ⟨f, 0, none⟩) k k) ∧ w.cell? ⟨g, 4, none⟩ = some (.slice none 0 0) := by
  refine ⟨?_, ?_, ?_, ?_, ?_⟩ <;> (rw [cell_of_row _ _ _ _ _ _ h]; rfl)
theorem vstring_empty {w : World} (a : Addr) (cap : Nat) : (convert 23 9 (.slice (some a) 0 cap)).run Tryd.prog w = .ok (.string (strOfNums [])) w := by
  rw [run_convert_bytes_string w 23 9 5 _ 0 cap Tryd.underlying23 Tryd.underlying5 Tryd.underlying9, run_bytesToString w a 0 cap [] (by simp [loadCells, loadCellsFrom])]
  rfl
/-- string(b) of bytes that were handed in. -/
theorem vstring_arg {w : World} {a : Option Addr} {len cap : Nat} {Z : List Int} (h : Arg w a len cap Z) :
    (convert 23 9 (.slice a len cap)).run Tryd.prog w = .ok (.string (strOfNums Z)) w := by
  rcases h with ⟨rfl, rfl⟩ | ⟨g, off, rfl, hr⟩
  · match a with
    | none => exact run_convert_bytes_nil (P := Tryd.prog) w 23 5 Tryd.underlying23 Tryd.underlying5 0 cap 9 Tryd.underlying9
    | some a => exact vstring_empty a cap
  · exact run_convert_bytes_arg w 23 5 Tryd.underlying23 Tryd.underlying5 g off len cap Z hr.hlen hr.hcell 9 Tryd.underlying9
end Go.Proofs.YtibipnipeaeonaaDoor
