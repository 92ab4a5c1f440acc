/-
  WHAT DIFFERS IS KEPT APART: the mathematics. No claim by itself.
-/
import Derived.Deep.QuietTactic
import Derived.BigQuiet
import Derived.Laws.Tables
import Derived.BigRegion
import Derived.Handy
import Derived.Test.YtibipnipeaeonaaGreatDoorZyh2X
import Derived.Test.YtibipnipeaeonaaGreatDoorNopnX
import Derived.Test.YtibipnipeaeonaaGreatDoorMI
namespace Go.Proofs.YtibipnipeaeonaaGreatDoor
open Go Go.RowKit
def typeN : List Int := [116, 121, 112, 101]
def vrFL : List FB := [(⟨#[99, 97, 99, 104, 101]⟩, ⟨#[109, 97, 120, 45, 57]⟩), (⟨#[118, 97, 114, 121]⟩, ⟨#[116, 121, 112, 101]⟩)]
theorem vr_fds : fdsOf vrFL = [(cacheN, [109, 97, 120, 45, 57]), (varyN, typeN)] := by decide +kernel
theorem vr_vary : fstV (fdsOf vrFL) varyN = typeN := by rw [vr_fds]; decide +kernel
theorem vr_cache : fstV (fdsOf vrFL) cacheN = [109, 97, 120, 45, 57] := by rw [vr_fds]; decide +kernel
theorem vr_names : namesL (fdsOf vrFL) = [typeN] := by
  unfold namesL
  rw [vr_vary]
  decide +kernel
theorem vr_life : lifeR (fdsOf vrFL) = 9 := by
  unfold lifeR
  rw [vr_cache]
  exact life_yes (k := 9) (by omega) (by decide +kernel)
theorem vr_fits {a b n : ByteArray} : Sby nmK ([(n, a)] : List FB) [(n, b)] ↔ a = b := by
  constructor
  · intro h
    have := h (nmK (n, a))
    have e : nmK (n, a) = nmK (n, b) := rfl
    simp [List.filter] at this
    rw [e] at this
    simpa using this
  · rintro rfl; exact Sby.refl _
theorem vr_one {n x a o : ByteArray} (hn : unums n = typeN) (hx : unums x ≠ typeN) : [(n, a), (x, o)].filter (inVary (namesL (fdsOf vrFL))) = [(n, a)] ∧ [(n, a)].filter (inVary (namesL (fdsOf vrFL))) = [(n, a)] := by
  rw [vr_names]
  have h1 : ∀ a : ByteArray, inVary [typeN] (n, a) = true := fun a => by unfold inVary nmK; simp [hn]
  have h2 : inVary [typeN] (x, o) = false := by unfold inVary nmK; simp [List.count_cons]; exact fun e => hx e.symm
  exact ⟨by simp [List.filter, h1, h2], by simp [List.filter, h1]⟩
end Go.Proofs.YtibipnipeaeonaaGreatDoor
/-
  WHAT DIFFERS IS KEPT APART: what lies in memory. No claim by itself.
-/
namespace Go.Proofs.YtibipnipeaeonaaGreatDoor
open Go Go.RowKit Go.Shelf
set_option maxRecDepth 100000
theorem vconv_own (s : ByteArray) (w : World) (hs : s.size ≤ 140737488355328) : ∃ cap w', (convert 9 34 (.string s)).run Tryz.prog w = .ok (.slice (some ⟨w.heap.size, 0, none⟩) s.size cap) w' ∧ UOwn w' w.heap.size (.slice (some ⟨w.heap.size, 0, none⟩) s.size cap) (unums s) ∧ Below w.heap.size w w' := by
  have hsz : (Lib.bytesCells w 5 s).size = grownCap w s.size 0 5 := by
    have hge := grownCap_ge w s.size 0 5
    have e : s.data.size = s.size := rfl
    simp [Lib.bytesCells]
    omega
  refine ⟨_, _, Lib.run_convert_string_bytes w 9 34 5 s Tryz.underlying9 Tryz.underlying34 Tryz.underlying5, Or.inr ⟨w.heap.size, _, by rw [unums_len], Nat.le_refl _, by rw [Lib.bytesWorld_size]; omega, by rw [unums_len]; exact grownCap_ge w _ _ _, grownCap_le_maxLen w _ _ _ (by unfold maxLen; omega), fun t ht => ?_, fun t ht => ?_, fun t ht => ?_⟩, ⟨rfl, rfl, rfl, by rw [Lib.bytesWorld_size]; omega, fun k hk => Lib.bytesWorld_at_old w 5 s k hk⟩⟩
  · rw [unums_len] at ht
    rw [Lib.bytesWorld_cell w 5 s t ht]
    have hk : t < s.data.toList.length := by rw [Array.length_toList]; exact ht
    simp only [unums, List.getD, List.getElem?_map, List.getElem?_eq_getElem hk, Option.map_some, Option.getD_some]
  · simp only [World.cell?, Lib.bytesWorld_at_new]
    simp
    omega
  · simp only [World.frozen?, Lib.bytesWorld_at_new]
    simp
    omega
theorem i_one {w : World} {vb : Nat} {n v : ByteArray} (hv : w.heap[vb]? = some (.cells #[.string n, .string v] 84 (0, 0))) : FArg w (some ⟨vb, 0, none⟩) 1 1 [(n, v)] := by
  refine Or.inr ⟨vb, 0, rfl, rfl, Nat.le_refl _, by decide, fun t ht => ?_, fun t ht => ?_⟩
  · obtain rfl : t = 0 := by omega
    simp only [World.cell?, hv]
    rfl
  · obtain rfl : t = 0 := by omega
    simp only [World.cell?, hv]
    rfl
theorem i_two {w : World} {vb : Nat} {n v n2 v2 : ByteArray} (hv : w.heap[vb]? = some (.cells #[.string n, .string v, .string n2, .string v2] 84 (0, 0))) : FArg w (some ⟨vb, 0, none⟩) 2 2 [(n, v), (n2, v2)] := by
  refine Or.inr ⟨vb, 0, rfl, rfl, Nat.le_refl _, by decide, fun t ht => ?_, fun t ht => ?_⟩
  · rcases (by omega : t = 0 ∨ t = 1) with rfl | rfl <;> (simp only [World.cell?, hv]; rfl)
  · rcases (by omega : t = 0 ∨ t = 1) with rfl | rfl <;> (simp only [World.cell?, hv]; rfl)
abbrev tyB : ByteArray := ⟨#[116, 121, 112, 101]⟩
abbrev xB : ByteArray := ⟨#[120]⟩
abbrev vq (g k : Nat) (L : List FB) : RqM := { m := ⟨#[71, 69, 84]⟩, p := ⟨#[47]⟩, h := ⟨#[104]⟩, fa := some ⟨g, 0, none⟩, fn := k, fc := k, ba := none, bn := 0, bc := 0, FL := L, B := [] }
abbrev vp (n : Nat) (a : ByteArray) (cap : Nat) : RpM := { code := 200, fa := some ⟨n + 1, 0, none⟩, fn := 2, fc := 2, ba := some ⟨n + 2, 0, none⟩, bn := a.size, bc := cap, FL := vrFL, B := unums a }
/-- The reply and the requests in memory. -/
structure VW (w : World) (n m cap : Nat) (a b o : ByteArray) : Prop where
  p : w.heap[m]? = some (.cells #[.int .i64 200, .slice (some ⟨n + 1, 0, none⟩) 2 2, .slice (some ⟨n + 2, 0, none⟩) a.size cap] 38 (0, 0))
  fx : w.heap[m + 1]? = some (.cells #[.string tyB, .string a] 84 (0, 0))
  fy : w.heap[m + 1 + 1 + 1]? = some (.cells #[.string tyB, .string b] 84 (0, 0))
  y : w.heap[m + 1 + 1 + 1 + 1]? = some (.cells #[.string ⟨#[71, 69, 84]⟩, .string ⟨#[47]⟩, .string ⟨#[104]⟩, .slice (some ⟨m + 1 + 1 + 1, 0, none⟩) 1 1, .slice none 0 0] 36 (0, 0))
  fz : w.heap[m + 1 + 1 + 1 + 1 + 1]? = some (.cells #[.string tyB, .string a, .string xB, .string o] 84 (0, 0))
  z : w.heap[m + 1 + 1 + 1 + 1 + 1 + 1]? = some (.cells #[.string ⟨#[71, 69, 84]⟩, .string ⟨#[47]⟩, .string ⟨#[104]⟩, .slice (some ⟨m + 1 + 1 + 1 + 1 + 1, 0, none⟩) 2 2, .slice none 0 0] 36 (0, 0))
  fp : w.heap[n + 1]? = some (.cells #[.string ⟨#[99, 97, 99, 104, 101]⟩, .string ⟨#[109, 97, 120, 45, 57]⟩, .string ⟨#[118, 97, 114, 121]⟩, .string ⟨#[116, 121, 112, 101]⟩] 84 (0, 0))
  body : Arg w (some ⟨n + 2, 0, none⟩) a.size cap (unums a)
  lt : n + 2 < w.heap.size ∧ n + 2 < m
theorem VW.tn {S : Nat → Prop} {w w' : World} {n m cap : Nat} {a b o : ByteArray} (h : VW w n m cap a b o) (ht : Tn S w w') (hS : ∀ k, S k → k = n ∨ m + 6 < k) : VW w' n m cap a b o := by
  have blk : ∀ (k : Nat) (x : Obj), w.heap[k]? = some x → k ≠ n → k ≤ m + 6 → w'.heap[k]? = some x := fun k x hk h1 h2 => (ht.block k (Array.getElem?_eq_some_iff.1 hk).1 (fun e => by have := hS k e; omega)).trans hk
  have := h.lt
  refine ⟨blk _ _ h.p (by omega) (by omega), blk _ _ h.fx (by omega) (by omega), blk _ _ h.fy (by omega) (by omega), blk _ _ h.y (by omega) (by omega), blk _ _ h.fz (by omega) (by omega), blk _ _ h.z (by omega) (by omega), blk _ _ h.fp (by omega) (by omega), arg_tn h.body ht (fun q hq _ e => by cases hq; have e' : n + 2 = n ∨ m + 6 < n + 2 := hS _ e; omega), ?_⟩
  have := ht.size
  omega
theorem VW.rp {w : World} {n m cap : Nat} {a b o : ByteArray} (h : VW w n m cap a b o) (ha : a.size ≤ 140737488351232) : RpIn w (vp n a cap) := by
  refine ⟨by show (-9223372036854775808 : Int) ≤ 200 ∧ (200 : Int) ≤ 9223372036854775807; omega, i_two h.fp, h.body, (fun e => by cases e), ⟨Nat.le_of_ble_eq_true rfl, ha⟩, fun t => ?_⟩
  match t with
  | 0 => exact ⟨Nat.le_of_ble_eq_true rfl, Nat.le_of_ble_eq_true rfl⟩
  | 1 => exact ⟨Nat.le_of_ble_eq_true rfl, Nat.le_of_ble_eq_true rfl⟩
  | t + 2 => exact ⟨by simp [vrFL, fnone], by simp [vrFL, fnone]⟩
theorem vq1 {w : World} {g : Nat} {a : ByteArray} (h : w.heap[g]? = some (.cells #[.string tyB, .string a] 84 (0, 0))) (ha : a.size ≤ 140737488351232) : RqIn w (vq g 1 [(tyB, a)]) := by
  refine ⟨i_one h, Or.inl ⟨rfl, rfl⟩, fun _ => ⟨rfl, rfl⟩, ⟨Nat.le_of_ble_eq_true rfl, Nat.le_of_ble_eq_true rfl⟩, ⟨Nat.le_of_ble_eq_true rfl, Nat.le_of_ble_eq_true rfl, Nat.le_of_ble_eq_true rfl⟩, fun t => ?_⟩
  match t with
  | 0 => exact ⟨Nat.le_of_ble_eq_true rfl, ha⟩
  | t + 1 => exact ⟨by simp [fnone], by simp [fnone]⟩
theorem vq2 {w : World} {g : Nat} {a o : ByteArray} (h : w.heap[g]? = some (.cells #[.string tyB, .string a, .string xB, .string o] 84 (0, 0))) (ha : a.size ≤ 140737488351232) (ho : o.size ≤ 140737488351232) : RqIn w (vq g 2 [(tyB, a), (xB, o)]) := by
  refine ⟨i_two h, Or.inl ⟨rfl, rfl⟩, fun _ => ⟨rfl, rfl⟩, ⟨Nat.le_of_ble_eq_true rfl, Nat.le_of_ble_eq_true rfl⟩, ⟨Nat.le_of_ble_eq_true rfl, Nat.le_of_ble_eq_true rfl, Nat.le_of_ble_eq_true rfl⟩, fun t => ?_⟩
  match t with
  | 0 => exact ⟨Nat.le_of_ble_eq_true rfl, ha⟩
  | 1 => exact ⟨Nat.le_of_ble_eq_true rfl, ho⟩
  | t + 2 => exact ⟨by simp [fnone], by simp [fnone]⟩
theorem vrps (n : Nat) (a : ByteArray) (cap : Nat) : RpS (vp n a cap) := ⟨Nat.le_of_ble_eq_true rfl, by show (fstV (fdsOf vrFL) varyN).length < _; rw [vr_vary]; decide⟩
theorem vqb {g k : Nat} {L : List FB} {d : Nat} (h : RqB (vq g k L) d) : d = g := by
  rcases h with ⟨p, hp, rfl, _⟩ | ⟨p, hp, rfl, _⟩
  · cases hp; rfl
  · cases hp
theorem vpb {n cap : Nat} {a : ByteArray} {d : Nat} (h : RpB (vp n a cap) d) : d = n + 1 ∨ d = n + 2 := by
  rcases h with ⟨p, hp, rfl, _⟩ | ⟨p, hp, rfl, _⟩
  · cases hp; exact Or.inl rfl
  · cases hp; exact Or.inr rfl
/-- What is kept for a request of this kind. -/
structure VK (k : KpM) (a : ByteArray) (t : Int) (b : ByteArray) : Prop where
  host : k.host = ⟨#[104]⟩
  path : k.path = ⟨#[47]⟩
  FL : k.rp.FL = vrFL
  B : k.rp.B = unums b
  at_ : k.at_ = t
  L0 : k.L0 = [(tyB, a)]
theorem VK.of {w : World} {k : KpM} {g n cap : Nat} {a b : ByteArray} {t : Int} (h : KeptOf w (vq g 1 [(tyB, a)]) (vp n b cap) t k) : VK k a t b := ⟨h.host, h.path, h.rep.FL, h.rep.B, h.at_, h.L0⟩
theorem ty_num : unums tyB = typeN := by decide +kernel
theorem x_num : unums xB ≠ typeN := by decide +kernel
theorem VK.fit1 {k : KpM} {a b c : ByteArray} {t : Int} {g : Nat} (h : VK k a t c) : fitP k (vq g 1 [(tyB, b)]) ↔ a = b := by
  unfold fitP
  rw [h.host, h.path, h.FL, h.L0]
  have e1 := (vr_one (a := a) (o := a) ty_num x_num).2
  have e2 := (vr_one (a := b) (o := a) ty_num x_num).2
  rw [e1, show (vq g 1 [(tyB, b)]).FL = [(tyB, b)] from rfl, e2, vr_fits]
  exact ⟨fun h => h.2.2, fun h => ⟨rfl, rfl, h⟩⟩
theorem VK.fit2 {k : KpM} {a o c : ByteArray} {t : Int} {g : Nat} (h : VK k a t c) : fitP k (vq g 2 [(tyB, a), (xB, o)]) := by
  unfold fitP
  rw [h.host, h.path, h.FL, h.L0]
  have e1 := vr_one (a := a) (o := o) ty_num x_num
  rw [e1.2, show (vq g 2 [(tyB, a), (xB, o)]).FL = [(tyB, a), (xB, o)] from rfl, e1.1]
  exact ⟨rfl, rfl, Sby.refl _⟩
theorem VK.lives {k : KpM} {a c : ByteArray} (h : VK k a 1 c) : livesP k 3 := by
  unfold livesP
  rw [h.at_, h.FL, vr_life]
  omega
theorem vlay {w2 : World} {x0 x1 x2 x3 x4 x5 x6 : Obj} : let W := ((((((w2.alloc x0).alloc x1).alloc x2).alloc x3).alloc x4).alloc x5).alloc x6
    W.heap[w2.heap.size]? = some x0 ∧ W.heap[w2.heap.size + 1]? = some x1 ∧ W.heap[w2.heap.size + 1 + 1 + 1]? = some x3 ∧ W.heap[w2.heap.size + 1 + 1 + 1 + 1]? = some x4 ∧ W.heap[w2.heap.size + 1 + 1 + 1 + 1 + 1]? = some x5 ∧ W.heap[w2.heap.size + 1 + 1 + 1 + 1 + 1 + 1]? = some x6 ∧ W.heap.size = w2.heap.size + 7 ∧ Below w2.heap.size w2 W := by
  intro W
  have al : ∀ (V : World) (o : Obj) (k : Nat) (x : Option Obj), k < V.heap.size → V.heap[k]? = x → (V.alloc o).heap[k]? = x := fun V o k x hk e => (Below.heap_alloc _ _ _ hk).trans e
  have nw : ∀ (V : World) (o : Obj) (k : Nat), V.heap.size = k → (V.alloc o).heap[k]? = some o := fun V o k e => by rw [← e]; exact heap_alloc_new V o
  refine ⟨?_, ?_, ?_, ?_, ?_, ?_, ?_, ?_⟩
  · exact al _ _ _ _ (by simp <;> omega) (al _ _ _ _ (by simp <;> omega) (al _ _ _ _ (by simp <;> omega) (al _ _ _ _ (by simp <;> omega) (al _ _ _ _ (by simp <;> omega) (al _ _ _ _ (by simp) (nw _ _ _ rfl))))))
  · exact al _ _ _ _ (by simp <;> omega) (al _ _ _ _ (by simp <;> omega) (al _ _ _ _ (by simp <;> omega) (al _ _ _ _ (by simp <;> omega) (al _ _ _ _ (by simp) (nw _ _ _ (by simp))))))
  · exact al _ _ _ _ (by simp <;> omega) (al _ _ _ _ (by simp <;> omega) (al _ _ _ _ (by simp) (nw _ _ _ (by simp))))
  · exact al _ _ _ _ (by simp <;> omega) (al _ _ _ _ (by simp) (nw _ _ _ (by simp)))
  · exact al _ _ _ _ (by simp) (nw _ _ _ (by simp))
  · exact nw _ _ _ (by simp)
  · show (World.alloc _ _).heap.size = _
    simp [World.size_alloc]
  · exact (((((((Below.refl _ w2).alloc (Nat.le_refl _) _).alloc (by simp) _).alloc (by simp <;> omega) _).alloc (by simp <;> omega) _).alloc (by simp <;> omega) _).alloc (by simp <;> omega) _).alloc (by simp <;> omega) _
theorem vget_m : unums (⟨#[71, 69, 84]⟩ : ByteArray) = getN := by decide +kernel
theorem vg_z {w w' : World} {k : KpM} {a o c : ByteArray} {g : Nat} {e : Ending} (h : GetE w [k] (vq g 2 [(tyB, a), (xB, o)]) 3 e w') (hk : VK k a 1 c) : ∃ p : RpM, e = .returned (.tuple #[.agg #[.int .i64 p.code, .slice p.fa p.fn p.fc, .slice p.ba p.bn p.bc], .int .i64 2, .nilIface]) ∧ Arg w' p.ba p.bn p.bc (unums c) := by
  rcases h with ⟨t, p, ht, hh, _, he, hR, hS⟩ | ⟨hno, _⟩
  · obtain rfl : t = 0 := by simpa using ht
    have e1 : ([k].getD 0 kz) = k := rfl
    rw [e1] at he hS
    refine ⟨p, ?_, ?_⟩
    · rw [he, hk.at_]; rfl
    · have := hR.body
      rwa [hS.B, hk.B] at this
  · exact absurd ⟨hk.fit2, hk.lives⟩ (hno 0 (by simp))
theorem vg_y {w w' : World} {k : KpM} {a b c : ByteArray} {g : Nat} {e : Ending} (h : GetE w [k] (vq g 1 [(tyB, b)]) 3 e w') (hk : VK k a 1 c) : ∃ (co : Int) (fa : Option Addr) (fn fc : Nat) (ba : Option Addr) (bn bc : Nat) (ol : Int) (er : Value), e = .returned (.tuple #[.agg #[.int .i64 co, .slice fa fn fc, .slice ba bn bc], .int .i64 ol, er]) ∧ (a = b → er = .nilIface) ∧ (a ≠ b → er = .iface 60 (.int .i64 5)) := by
  rcases h with ⟨t, p, ht, hh, _, he, hR, hS⟩ | ⟨hno, he⟩
  · obtain rfl : t = 0 := by simpa using ht
    have e1 : ([k].getD 0 kz) = k := rfl
    rw [e1] at hh
    have := hk.fit1.1 hh.1
    exact ⟨_, _, _, _, _, _, _, _, _, he, fun _ => rfl, fun h => absurd this h⟩
  · refine ⟨_, _, _, _, _, _, _, _, _, he, fun hab => ?_, fun _ => rfl⟩
    exact absurd ⟨hk.fit1.2 hab, hk.lives⟩ (hno 0 (by simp))
theorem vq_box {w : World} {g : Nat} {k : Nat} {f : Nat} (h : w.heap[g]? = some (.cells #[.string ⟨#[71, 69, 84]⟩, .string ⟨#[47]⟩, .string ⟨#[104]⟩, .slice (some ⟨f, 0, none⟩) k k, .slice none 0 0] 36 (0, 0))) :
    w.cell? ⟨g, 0, none⟩ = some (.string ⟨#[71, 69, 84]⟩) ∧ w.cell? ⟨g, 1, none⟩ = some (.string ⟨#[47]⟩) ∧ w.cell? ⟨g, 2, none⟩ = some (.string ⟨#[104]⟩) ∧ w.cell? ⟨g, 3, none⟩ = some (.slice (some ⟨f, 0, none⟩) k k) ∧ w.cell? ⟨g, 4, none⟩ = some (.slice none 0 0) := by
  refine ⟨?_, ?_, ?_, ?_, ?_⟩ <;> (rw [cell_of_row _ _ _ _ _ _ h]; rfl)
theorem vstring_empty {w : World} (a : Addr) (cap : Nat) : (convert 34 9 (.slice (some a) 0 cap)).run Tryz.prog w = .ok (.string (strOfNums [])) w := by
  rw [run_convert_bytes_string w 34 9 5 _ 0 cap Tryz.underlying34 Tryz.underlying5 Tryz.underlying9, run_bytesToString w a 0 cap [] (by simp [loadCells, loadCellsFrom])]
  rfl
/-- string(b) of bytes that were handed in. -/
theorem vstring_arg {w : World} {a : Option Addr} {len cap : Nat} {Z : List Int} (h : Arg w a len cap Z) :
    (convert 34 9 (.slice a len cap)).run Tryz.prog w = .ok (.string (strOfNums Z)) w := by
  rcases h with ⟨rfl, rfl⟩ | ⟨g, off, rfl, hr⟩
  · match a with
    | none => exact run_convert_bytes_nil (P := Tryz.prog) w 34 5 Tryz.underlying34 Tryz.underlying5 0 cap 9 Tryz.underlying9
    | some a => exact vstring_empty a cap
  · exact run_convert_bytes_arg w 34 5 Tryz.underlying34 Tryz.underlying5 g off len cap Z hr.hlen hr.hcell 9 Tryz.underlying9
end Go.Proofs.YtibipnipeaeonaaGreatDoor
/-
  MESSAGES AS LINES: tollsame.Fields, Request, Reply, at like ones. No claim by itself.
-/
namespace Go.Proofs.YtibipnipeaeonaaGreatDoor
open Go.RowKit
set_option maxRecDepth 100000
set_option maxHeartbeats 4000000 in
theorem sfields_any (a a2 : Option Addr) (len cap cap2 : Nat) (L : List (ByteArray × ByteArray)) (w : World) (h1 : FArg w a len cap L) (h2 : FArg w a2 len cap2 L) (hlm : len ≤ 4611686018427387904) :
    Calls Tryz.prog 27 #[.slice a len cap, .slice a2 len cap2] w fun e w' => e = .returned (.bool true) ∧ Below w.heap.size w w' := by
  have heq : ∀ (a b : ByteArray) (w : World), (binOp .neq 84 (.agg #[.string a, .string b]) (.agg #[.string a, .string b])).run Tryz.prog w = .ok (.bool false) w := fun a b w => by rw [run_neqF]; simp
  have hgd := eqGuardF
  have H1 : Hid (∀ wx, Below w.heap.size w wx → FArg wx a len cap L) := fun wx hb => h1.below hb
  have H2 : Hid (∀ wx, Below w.heap.size w wx → FArg wx a2 len cap2 L) := fun wx hb => h2.below hb
  clear h1 h2
  go_enter Tryz.func27, Tryz.ntmps27
  go_wp2_with fail
  go_loopw [5] (fun i wr => ∃ k : Nat, i = .int .i64 k ∧ k ≤ len ∧ Below w.heap.size w wr) (fun i _ => len - (intOf i).toNat)
  case atStart => exact ⟨0, rfl, by omega, Below.refl _ _⟩
  case round =>
    obtain ⟨k, rfl, hk, hbel⟩ := hrel
    by_cases hlt : k < len
    · rcases H1.out wr hbel with ⟨h0, _⟩ | ⟨g, off, rfl, hr⟩
      · omega
      rcases H2.out wr hbel with ⟨h0, _⟩ | ⟨g2, off2, rfl, hr2⟩
      · omega
      have c1 := hr.hname k hlt
      have c2 := hr.hvalue k hlt
      have c3 := hr2.hname k hlt
      have c4 := hr2.hvalue k hlt
      have hcap := hr.hcap
      have hcap2 := hr2.hcap
      have hk0 : (0 : Int) ≤ (k : Int) := by omega
      have hk1 : (k : Int) < (len : Int) := by omega
      generalize L.getD k fnone = f at *
      obtain ⟨n, v⟩ := f
      have HBE := hide hbel
      clear hr hr2 hbel
      go_wp2_with fail
      go_quiet (fail)
      go_wp2
      go_roundw
      case rel => exact ⟨k + 1, by go_num, by omega, drewN_below HBE.out _⟩
      case measure => simp [intOf]; omega
    · have hge : ¬ (k : Int) < (len : Int) := by omega
      go_wp2
      go_ret
      exact ⟨rfl, hbel⟩
theorem fds_inj : ∀ {A B : List (ByteArray × ByteArray)}, fdsOf A = fdsOf B → A = B
  | [], [], _ => rfl
  | [], _ :: _, h => by simp [fdsOf] at h
  | _ :: _, [], h => by simp [fdsOf] at h
  | (a, b) :: A, (c, d) :: B, h => by
    simp only [fdsOf, List.map_cons, List.cons.injEq, Prod.mk.injEq] at h
    obtain ⟨⟨h1, h2⟩, h3⟩ := h
    rw [unums_inj h1, unums_inj h2, fds_inj (A := A) (B := B) h3]
theorem Arg.conv {w : World} {a : Option Addr} {len cap : Nat} {Z : List Int} (h : Arg w a len cap Z) : (convert 34 9 (.slice a len cap)).run Tryz.prog w = .ok (.string (strOfNums Z)) w := by
  rcases h with ⟨rfl, rfl⟩ | ⟨g, off, rfl, hr⟩
  · cases a with
    | none => exact run_convert_bytes_nil (P := Tryz.prog) w 34 5 Tryz.underlying34 Tryz.underlying5 0 cap 9 Tryz.underlying9
    | some ad =>
      rw [run_convert_bytes_string w 34 9 5 _ 0 cap Tryz.underlying34 Tryz.underlying5 Tryz.underlying9]
      have hl : (loadCells ad 0).run Tryz.prog w = .ok #[] w := by
        have := run_loadCells_list (P := Tryz.prog) w ad [] (fun j v hj => by simp at hj)
        simpa using this
      simp [Conv.bytesToString, hl]
      rfl
  · exact run_convert_bytes_arg w 34 5 Tryz.underlying34 Tryz.underlying5 g off len cap Z hr.hlen hr.hcell 9 Tryz.underlying9
set_option maxHeartbeats 2000000 in
theorem sreply_any (c : Int) (fa : Option Addr) (fn fc : Nat) (ba : Option Addr) (bn bc : Nat) (fa2 : Option Addr) (fc2 : Nat) (ba2 : Option Addr) (bc2 : Nat) (FL : List (ByteArray × ByteArray)) (B : List Int) (w : World)
    (h1 : FArg w fa fn fc FL) (h2 : FArg w fa2 fn fc2 FL) (h3 : Arg w ba bn bc B) (h4 : Arg w ba2 bn bc2 B) (hm : fn ≤ 4611686018427387904) :
    Calls Tryz.prog 11 #[.agg #[.int .i64 c, .slice fa fn fc, .slice ba bn bc], .agg #[.int .i64 c, .slice fa2 fn fc2, .slice ba2 bn bc2]] w fun e w' => e = .returned (.bool true) ∧ Below w.heap.size w w' := by
  obtain ⟨W1, hW1⟩ : ∃ W1, W1 = (w.alloc (.cells #[.int .i64 c, .slice fa fn fc, .slice ba bn bc] 38)).alloc (.cells #[.int .i64 c, .slice fa2 fn fc2, .slice ba2 bn bc2] 38) := ⟨_, rfl⟩
  have hx0 : (w.alloc (.cells #[.int .i64 c, .slice fa fn fc, .slice ba bn bc] 38)).heap[w.heap.size]? = some (.cells #[.int .i64 c, .slice fa fn fc, .slice ba bn bc] 38 (0, 0)) := heap_alloc_new w _
  have hs0 : (w.alloc (.cells #[.int .i64 c, .slice fa fn fc, .slice ba bn bc] 38)).heap.size = w.heap.size + 1 := by simp
  have hb0 : Below w.heap.size w (w.alloc (.cells #[.int .i64 c, .slice fa fn fc, .slice ba bn bc] 38)) := (Below.refl _ w).alloc (Nat.le_refl _) _
  have hb00 : Below (w.heap.size + 1) (w.alloc (.cells #[.int .i64 c, .slice fa fn fc, .slice ba bn bc] 38)) W1 := by rw [hW1]; exact (Below.refl _ _).alloc (by rw [hs0]; exact Nat.le_refl _) _
  have hbW : Below w.heap.size w W1 := hb0.trans (hb00.mono (by omega))
  have hx1 : W1.heap[w.heap.size]? = some (.cells #[.int .i64 c, .slice fa fn fc, .slice ba bn bc] 38 (0, 0)) := (hb00.block _ (by omega)).trans hx0
  have hx2 : W1.heap[w.heap.size + 1]? = some (.cells #[.int .i64 c, .slice fa2 fn fc2, .slice ba2 bn bc2] 38 (0, 0)) := by
    rw [hW1]
    have := heap_alloc_new (w.alloc (.cells #[.int .i64 c, .slice fa fn fc, .slice ba bn bc] 38)) (.cells #[.int .i64 c, .slice fa2 fn fc2, .slice ba2 bn bc2] 38 (0, 0))
    rw [hs0] at this
    exact this
  have hsW : W1.heap.size = w.heap.size + 2 := by rw [hW1]; simp
  have HF := vl (sfields_any fa fa2 fn fc fc2 FL W1 (h1.below hbW) (h2.below hbW) hm)
  have H3 := vl h3
  have H4 := vl h4
  have HBW := vl hbW
  have HX1 := vl hx1
  have HX2 := vl hx2
  have HSW := vl hsW
  have HW1 := vl hW1
  clear h1 h2 h3 h4 hbW hx1 hx2 hsW hW1 hx0 hs0 hb0 hb00
  go_enter Tryz.func11, Tryz.ntmps11
  go_wp2_with fail
  rw [← HW1.out]
  refine HF.out.mono ?_
  rintro e w1 ⟨rfl, hb⟩
  have e1 := (hb.block w.heap.size (by have := HSW.out; omega)).trans HX1.out
  have e2 := (hb.block (w.heap.size + 1) (by have := HSW.out; omega)).trans HX2.out
  have c0 : w1.cell? ⟨w.heap.size, 0, none⟩ = some (.int .i64 c) := by simp only [World.cell?, e1]; rfl
  have d0 : w1.cell? ⟨w.heap.size + 1, 0, none⟩ = some (.int .i64 c) := by simp only [World.cell?, e2]; rfl
  have c1 : w1.cell? ⟨w.heap.size, 2, none⟩ = some (.slice ba bn bc) := by simp only [World.cell?, e1]; rfl
  have d1 : w1.cell? ⟨w.heap.size + 1, 2, none⟩ = some (.slice ba2 bn bc2) := by simp only [World.cell?, e2]; rfl
  have HB : Vl (Below w.heap.size w w1) := HBW.out.trans (hb.mono HBW.out.size)
  have cv1 := (H3.out.below HB.out).conv
  have cv2 := (H4.out.below HB.out).conv
  clear hb HF e1 e2 HX1 HX2 HSW HW1 HBW
  go_wp2
  go_ret
  exact ⟨by first | rfl | simp, HB.out⟩
end Go.Proofs.YtibipnipeaeonaaGreatDoor
/-
  WHAT IS TOLD WAS ANSWERED: a store and the law's own two boxes, from call to call. No claim by itself.
-/
namespace Go.Proofs.YtibipnipeaeonaaGreatDoor
open Go Go.RowKit Go.Shelf
set_option maxRecDepth 100000
/-- A request's five cells. -/
def RB (w : World) (x : Nat) (m p h : ByteArray) (fv bv : Value) : Prop := w.heap[x]? = some (.cells #[.string m, .string p, .string h, fv, bv] 36 (0, 0))
section
variable {w w' : World} {x lb : Nat} {m p h : ByteArray} {fv bv : Value}
theorem RB.lt (k : RB w x m p h fv bv) : x < w.heap.size := (Array.getElem?_eq_some_iff.1 k).1
theorem RB.cells (k : RB w x m p h fv bv) : w.cell? ⟨x, 0, none⟩ = some (.string m) ∧ w.cell? ⟨x, 1, none⟩ = some (.string p) ∧ w.cell? ⟨x, 2, none⟩ = some (.string h) ∧ w.cell? ⟨x, 3, none⟩ = some fv ∧ w.cell? ⟨x, 4, none⟩ = some bv := by
  unfold RB at k
  simp only [World.cell?, k]
  exact ⟨rfl, rfl, rfl, rfl, rfl⟩
theorem RB.frozen (k : RB w x m p h fv bv) (i : Nat) : w.frozen? ⟨x, i, none⟩ = false := by
  unfold RB at k
  unfold World.frozen?
  rw [k]
  simp
theorem RB.on (k : RB w x m p h fv bv) (hb : Below w.heap.size w w') : RB w' x m p h fv bv := (hb.block x k.lt).trans k
end
/-- A request, stored into its five cells as one. -/
theorem run_rqstore' {w : World} {x : Nat} {m p h m' p' h' : ByteArray} {fv bv fv' bv' : Value} (k : RB w x m p h fv bv) (h1 : fv'.oneCell' = true) (h2 : bv'.oneCell' = true) :
    (Instr.storeAt 36 (.pointer (some ⟨x, 0, none⟩)) (.agg #[.string m', .string p', .string h', fv', bv'])).run Tryz.prog w = .ok () (w.setRow x #[.string m', .string p', .string h', fv', bv']) := by
  have hk : w.heap[x]? = some (.cells #[.string m, .string p, .string h, fv, bv] 36 (0, 0)) := k
  have hst := run_storeCells_from (P := Tryz.prog) x 36 [.string m', .string p', .string h', fv', bv'] 0 _ w hk rfl (by intro v hv; simp at hv; rcases hv with rfl | rfl | rfl | rfl | rfl <;> first | rfl | assumption)
  have hsz : (sizeOf 36).run Tryz.prog w = .ok 5 w := by kernel_rfl
  have hcs : (Value.agg #[.string m', .string p', .string h', fv', bv']).cells = #[.string m', .string p', .string h', fv', bv'] := rfl
  simp only [Instr.storeAt, Instr.sureAddr, Sem.run_bind, Sem.run_pure, Result.andThen, storeVar, hsz, hcs]
  simpa using hst
theorem rq_row {w : World} {x : Nat} {m p h m' p' h' : ByteArray} {fv bv fv' bv' : Value} (k : RB w x m p h fv bv) : RB (w.setRow x #[.string m', .string p', .string h', fv', bv']) x m' p' h' fv' bv' := setRow_heap w x _ _ _ _ k
theorem row_grown (w : World) (x : Nat) (cs : Array Value) : w.grownBy (w.setRow x cs) (some x) := ⟨rfl, rfl, rfl, by simp [World.setRow], fun k _ hk => setRow_other w x k _ (fun e => hk (by rw [e]))⟩
theorem run_rqstore {w : World} {x : Nat} {m p h m' p' h' : ByteArray} {fv bv fv' bv' : Value} (k : RB w x m p h fv bv) (h1 : fv'.oneCell' = true) (h2 : bv'.oneCell' = true) :
    ∃ w', (Instr.storeAt 36 (.pointer (some ⟨x, 0, none⟩)) (.agg #[.string m', .string p', .string h', fv', bv'])).run Tryz.prog w = .ok () w' ∧ RB w' x m' p' h' fv' bv' ∧ w.grownBy w' (some x) :=
  ⟨_, run_rqstore' k h1 h2, rq_row k, row_grown w x _⟩
section
variable (w : World) {ops : Array Oper} {rest : List Oper} {o : Oper} {a : Act} {Q : Exit → Act → World → Prop}
theorem wpList_rqstore (hgd : o.guard = none) (s x : Operand) (ho : o.op = .store 36 s x) (n : Nat) (m p h m' p' h' : ByteArray) (fv bv fv' bv' : Value) (hs : a.eval s = .pointer (some ⟨n, 0, none⟩)) (hx : a.eval x = .agg #[.string m', .string p', .string h', fv', bv']) (hB : RB w n m p h fv bv) (h1 : fv'.oneCell' = true) (h2 : bv'.oneCell' = true)
    (h0 : ∀ w', RB w' n m' p' h' fv' bv' → w.grownBy w' (some n) → wpList Tryz.prog ops Q rest (a.put o.dst undef) w') : wpList Tryz.prog ops Q (o :: rest) a w := by
  refine wpList_plain hgd fun K hK => ?_
  obtain ⟨w', hr, h3, h4⟩ := run_rqstore (m' := m') (p' := p') (h' := h') hB h1 h2
  unfold Oper.wp execOp
  simp only [ho, Sem.run_bind, Sem.run_pure, Result.andThen_ok, hs, hx, hr]
  exact hK _ _ (h0 w' h3 h4)
end
/-- A row of texts that is handed in. -/
def TsArg (w : World) (a : Option Addr) (n c : Nat) (T : List ByteArray) : Prop :=
  n = 0 ∨ ∃ g off, a = some ⟨g, off, none⟩ ∧ n ≤ c ∧ c ≤ maxLen ∧ ∀ t, t < n → w.cell? ⟨g, off + t, none⟩ = some (.string (T.getD t .empty))
theorem TsArg.below {w w' : World} {a : Option Addr} {n c : Nat} {T : List ByteArray} (h : TsArg w a n c T) (hb : Below w.heap.size w w') : TsArg w' a n c T := by
  rcases h with h | ⟨g, off, ha, h1, h2, h3⟩
  · exact Or.inl h
  · exact Or.inr ⟨g, off, ha, h1, h2, fun t ht => (hb.cell (p := ⟨g, off + t, none⟩) (blk_of_cell (h3 t ht))).trans (h3 t ht)⟩
/-- Get, where none fits and lives. -/
theorem zget_none (sb : Nat) (v : Value) (ks : List KpM) (q : RqM) (now : Int) (w : World) (h : StM w sb v ks) (hq : RqIn w q) (hqs : RqS q) (hm : QOk w) (hn : 0 ≤ now ∧ now ≤ 1000000) (hgl : 9 ≤ w.heap.size) (hno : ∀ s, s < ks.length → ¬ hitP q now (ks.getD s kz)) :
    Calls Tryz.prog 10 #[.pointer (some ⟨sb, 0, none⟩), q.val, .int .i64 now] w fun e w' => e = .returned (.tuple #[.agg #[.int .i64 0, .slice none 0 0, .slice none 0 0], .int .i64 0, .iface 60 (.int .i64 5)]) ∧ Below w.heap.size w w' := by
  by_cases hget : unums q.m = getN
  · refine (zget_any sb v ks q now w h hq hqs hm hn hget hgl).mono ?_
    rintro e w' ⟨hG, hb⟩
    rcases hG with ⟨t, p, ht, hh, _⟩ | ⟨_, he⟩
    · exact absurd hh (hno t ht)
    · exact ⟨he, hb⟩
  · exact zget_not sb q now w hn hget
/-- The request with another path. -/
def qOf (q : RqM) (p : ByteArray) : RqM := ⟨q.m, p, q.h, q.fa, q.fn, q.fc, q.ba, q.bn, q.bc, q.FL, q.B⟩
theorem qOf_in {w : World} {q : RqM} (h : RqIn w q) {p : ByteArray} (hp : p.size ≤ 140737488351232) : RqIn w (qOf q p) := ⟨h.fields, h.body, h.nil, h.most, ⟨h.texts.1, hp, h.texts.2.2⟩, h.each⟩
theorem qOf_s {q : RqM} (h : RqS q) (p : ByteArray) : RqS (qOf q p) := ⟨h.fn⟩
/-- What holds between two calls: the store, and the law's own two boxes. -/
structure TsI (w W : World) (sb : Nat) (v : Value) (ks : List KpM) (q : RqM) (a : RpM) : Prop where
  bel : Below w.heap.size w W
  st : StM W sb v ks
  len : ks.length ≤ 20
  off : ∀ b, StS sb v b → w.heap.size + 2 ≤ b
  qb : QBx W w.heap.size q
  pb : PBx W (w.heap.size + 1) a
section
variable {w W W' : World} {sb : Nat} {v : Value} {ks : List KpM} {q : RqM} {a : RpM} (h : TsI w W sb v ks q a)
include h
theorem TsI.below (hb : Below W.heap.size W W') : TsI w W' sb v ks q a := ⟨h.bel.trans (hb.mono h.bel.size), h.st.below hb, h.len, h.off, h.qb.below hb, h.pb.below hb⟩
theorem TsI.put (hq : RqIn w q) (ha : RpIn w a) (hqs : RqS q) (has : RpS a) (hm : QOk w) (hgl : 9 ≤ w.heap.size) {now : Int} (hn : 0 ≤ now ∧ now ≤ 1000000) {p : ByteArray} (hp : p.size ≤ 140737488351232) :
    Calls Tryz.prog 6 #[.pointer (some ⟨sb, 0, none⟩), .agg #[.string q.m, .string p, .string q.h, .slice q.fa q.fn q.fc, .slice q.ba q.bn q.bc], .agg #[.int .i64 a.code, .slice a.fa a.fn a.fc, .slice a.ba a.bn a.bc], .int .i64 now] W fun e w' =>
      ∃ (ok : Bool) (v' : Value) (ks' : List KpM), e = .returned (.tuple #[.bool ok, .nilIface]) ∧ TsI w w' sb v' ks' q a := by
  have hqW := (qOf_in hq hp).below h.bel
  have haW := ha.below h.bel
  refine (zput_any sb v ks (qOf q p) a now W h.st h.len hqW haW (qOf_s hqs p) has (hm.below h.bel) hn (fun k hk => by have := h.off k hk; omega) (fun b hb e => by have := h.off b e; have : b < w.heap.size := (qOf_in hq hp).lt hb; omega) (fun b hb e => by have := h.off b e; have := ha.lt hb; omega)).mono ?_
  rintro e w' ⟨ok, v', ks', he, hS, hl, hT, hN, _⟩
  refine ⟨ok, v', ks', he, ⟨Tn.below h.bel hT h.bel.size (fun i hi => by have := h.off i hi; omega), hS, hl, fun b hb => ?_, h.qb.tn hT (fun e => by have := h.off _ e; omega), h.pb.tn hT (fun e => by have := h.off _ e; omega)⟩⟩
  rcases hN b hb with e | e
  · exact h.off b e
  · have := blk_of_cell h.pb.c0
    omega
theorem TsI.get_no (hq : RqIn w q) (hqs : RqS q) (hm : QOk w) (hgl : 9 ≤ w.heap.size) {now : Int} (hn : 0 ≤ now ∧ now ≤ 1000000) {p : ByteArray} (hp : p.size ≤ 140737488351232) (hno : ∀ s, s < ks.length → ¬ hitP (qOf q p) now (ks.getD s kz)) :
    Calls Tryz.prog 10 #[.pointer (some ⟨sb, 0, none⟩), .agg #[.string q.m, .string p, .string q.h, .slice q.fa q.fn q.fc, .slice q.ba q.bn q.bc], .int .i64 now] W fun e w' =>
      e = .returned (.tuple #[.agg #[.int .i64 0, .slice none 0 0, .slice none 0 0], .int .i64 0, .iface 60 (.int .i64 5)]) ∧ TsI w w' sb v ks q a ∧ Below W.heap.size W w' := by
  refine (zget_none sb v ks (qOf q p) now W h.st ((qOf_in hq hp).below h.bel) (qOf_s hqs p) (hm.below h.bel) hn (Nat.le_trans hgl h.bel.size) hno).mono ?_
  rintro e w' ⟨he, hb⟩
  exact ⟨he, h.below hb, hb⟩
theorem TsI.length : Calls Tryz.prog 12 #[.pointer (some ⟨sb, 0, none⟩)] W fun e w' => e = .returned (.int .i64 (ks.length : Nat)) ∧ W = w' := zlen_any sb v ks W h.st
end
theorem zsrep_like (q1 q2 : RpM) (w : World) (h1 : RpIn w q1) (h2 : RpIn w q2) (he : q1.rp = q2.rp) : Calls Tryz.prog 11 #[q1.val, q2.val] w fun e w' => e = .returned (.bool true) ∧ Below w.heap.size w w' := by
  obtain ⟨c, fa, fn, fc, ba, bn, bc, FL, B⟩ := q1
  obtain ⟨c2, fa2, fn2, fc2, ba2, bn2, bc2, FL2, B2⟩ := q2
  unfold RpM.rp at he
  simp only [Rp.mk.injEq] at he
  obtain ⟨e1, e4, e5⟩ := he
  subst e1
  obtain rfl := fds_inj e4
  subst e5
  obtain rfl : fn = fn2 := h1.fields.len.symm.trans h2.fields.len
  obtain rfl : bn = bn2 := h1.body.len.symm.trans h2.body.len
  exact sreply_any c fa fn fc ba bn bc fa2 fc2 ba2 bc2 FL B w h1.fields h2.fields h1.body h2.body h1.most.1
theorem zdrewN_below {B : Nat} {w w' : World} (h : Below B w w') : ∀ n, Below B w (w'.drewN n)
  | 0 => h
  | n + 1 => by
    have := zdrewN_below h n
    exact ⟨this.os, this.tape, this.output, this.size, this.block⟩
theorem other_path {ks : List KpM} {q : RqM} (h : ∀ k ∈ ks, k.path = q.p) {p : ByteArray} (hne : unums p ≠ unums q.p) {t : Int} : ∀ s, s < ks.length → ¬ hitP (qOf q p) t (ks.getD s kz) := by
  intro s hs e
  have h1 := e.1.2.1
  have hm : ks.getD s kz ∈ ks := by rw [List.getD, List.getElem?_eq_getElem hs]; exact List.getElem_mem hs
  rw [h _ hm] at h1
  exact hne h1.symm
end Go.Proofs.YtibipnipeaeonaaGreatDoor
