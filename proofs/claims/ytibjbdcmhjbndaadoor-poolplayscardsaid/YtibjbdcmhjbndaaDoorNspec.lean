/-
  WHAT IS ASKED of the Go functions of package line: their contracts, as statements. No claim by itself.
-/
import Derived.Test.YtibjbdcmhjbndaaDoorNmath5
import Derived.Test.YtibjbdcmhjbndaaDoorUapp
import Derived.Test.YtibjbdcmhjbndaaDoorTbase
namespace Go.Proofs.YtibjbdcmhjbndaaDoor
open Go.RowKit
set_option maxRecDepth 100000
/- texts as bytes -/
theorem unums_inj {s t : ByteArray} (h : unums s = unums t) : s = t := by
  apply ByteArray.ext
  apply Array.ext'
  unfold unums at h
  have inj : Function.Injective (fun c : UInt8 => (c.toNat : Int)) := fun a b e => by
    apply UInt8.toNat_inj.1
    have e' : ((a.toNat : Int)) = ((b.toNat : Int)) := e
    omega
  exact (List.map_inj_right (fun a b e => inj e)).1 h
theorem unums_nil {s : ByteArray} : unums s = [] ↔ s.size = 0 := by
  rw [← List.length_eq_zero_iff, unums_len]
theorem bytes_unums (s : ByteArray) : Bytes (unums s) := by
  intro x hx
  obtain ⟨c, _, rfl⟩ := List.mem_map.1 hx
  have := c.toNat_lt
  omega
theorem str_unums (s : ByteArray) : strOfNums (unums s) = s := by
  apply ByteArray.ext
  apply Array.ext'
  rw [strOfNums_data]
  unfold unums
  rw [List.map_map]
  conv => rhs; rw [← List.map_id s.data.toList]
  apply List.map_congr_left
  intro c _
  simp [Function.comp]
theorem unums_str {L : List Int} (h : Bytes L) : unums (strOfNums L) = L := by
  unfold unums
  rw [strOfNums_data, List.map_map]
  conv => rhs; rw [← List.map_id L]
  apply List.map_congr_left
  intro x hx
  have := h x hx
  simp [Function.comp]
  omega
theorem unums_app (s t : ByteArray) : unums (s ++ t) = unums s ++ unums t := by
  unfold unums
  rw [ByteArray.data_append]
  simp
/- requests and replies in memory -/
/-- Fields that are handed in: none, or a row. -/
def FArg (w : World) (a : Option Addr) (len cap : Nat) (L : List (ByteArray × ByteArray)) : Prop :=
  (len = 0 ∧ L = []) ∨ ∃ g off, a = some ⟨g, off, none⟩ ∧ FRow w g off len cap L
theorem FArg.below {w w' : World} {a : Option Addr} {len cap : Nat} {L : List (ByteArray × ByteArray)} (h : FArg w a len cap L) (hb : Below w.heap.size w w') : FArg w' a len cap L := by
  rcases h with h | ⟨g, off, ha, hr⟩
  · exact Or.inl h
  · exact Or.inr ⟨g, off, ha, hr.below hb⟩
theorem FArg.len {w : World} {a : Option Addr} {len cap : Nat} {L : List (ByteArray × ByteArray)} (h : FArg w a len cap L) : L.length = len := by
  rcases h with ⟨rfl, rfl⟩ | ⟨g, off, _, hr⟩
  · rfl
  · exact hr.hlen
/-- A request as it lies in memory. -/
structure RqM where
  m : ByteArray
  p : ByteArray
  h : ByteArray
  fa : Option Addr
  fn : Nat
  fc : Nat
  ba : Option Addr
  bn : Nat
  bc : Nat
  FL : List (ByteArray × ByteArray)
  B : List Int
def RqM.val (q : RqM) : Value := .agg #[.string q.m, .string q.p, .string q.h, .slice q.fa q.fn q.fc, .slice q.ba q.bn q.bc]
def fdsOf (L : List (ByteArray × ByteArray)) : List Fd := L.map fun f => (unums f.1, unums f.2)
def RqM.rq (q : RqM) : Rq := ⟨unums q.m, unums q.p, unums q.h, fdsOf q.FL, q.B⟩
/-- What is known of it. -/
structure RqIn (w : World) (q : RqM) : Prop where
  fields : FArg w q.fa q.fn q.fc q.FL
  body : Arg w q.ba q.bn q.bc q.B
  nil : q.ba = none → q.bn = 0 ∧ q.bc = 0
  most : q.fn ≤ 4611686018427387904 ∧ q.bn ≤ 140737488351232
  texts : q.m.size ≤ 140737488351232 ∧ q.p.size ≤ 140737488351232 ∧ q.h.size ≤ 140737488351232
  each : ∀ t, (q.FL.getD t fnone).1.size ≤ 140737488351232 ∧ (q.FL.getD t fnone).2.size ≤ 140737488351232
theorem RqIn.below {w w' : World} {q : RqM} (h : RqIn w q) (hb : Below w.heap.size w w') : RqIn w' q := ⟨h.fields.below hb, h.body.below hb, h.nil, h.most, h.texts, h.each⟩
structure RpM where
  code : Int
  fa : Option Addr
  fn : Nat
  fc : Nat
  ba : Option Addr
  bn : Nat
  bc : Nat
  FL : List (ByteArray × ByteArray)
  B : List Int
def RpM.val (q : RpM) : Value := .agg #[.int .i64 q.code, .slice q.fa q.fn q.fc, .slice q.ba q.bn q.bc]
def RpM.rp (q : RpM) : Rp := ⟨q.code, fdsOf q.FL, q.B⟩
structure RpIn (w : World) (q : RpM) : Prop where
  code : I64 q.code
  fields : FArg w q.fa q.fn q.fc q.FL
  body : Arg w q.ba q.bn q.bc q.B
  nil : q.ba = none → q.bn = 0 ∧ q.bc = 0
  most : q.fn ≤ 4611686018427387904 ∧ q.bn ≤ 140737488351232
  each : ∀ t, (q.FL.getD t fnone).1.size ≤ 140737488351232 ∧ (q.FL.getD t fnone).2.size ≤ 140737488351232
theorem RpIn.below {w w' : World} {q : RpM} (h : RpIn w q) (hb : Below w.heap.size w w') : RpIn w' q := ⟨h.code, h.fields.below hb, h.body.below hb, h.nil, h.most, h.each⟩
/-- What is known of package-level variables, and stays. -/
structure NLd where
  P : World → Prop
  below : ∀ {w w' : World}, P w → Below w.heap.size w w' → P w'
/- what is asked -/
def askOut (r : Rq) : List Int := if askE r = 0 then askL r else []
def tellOut (a : Rp) (size : Int) : List Int := if tellE a size = 0 then tellL a size else []
def NTokSaid (D : NLd) : Prop := ∀ (s : ByteArray) (w : World), D.P w → s.size ≤ 140737488351232 → Calls Tryd.prog 19 #[.string s] w fun e w' => e = .returned (.bool (tokL (unums s))) ∧ Below w.heap.size w w'
end Go.Proofs.YtibjbdcmhjbndaaDoor
