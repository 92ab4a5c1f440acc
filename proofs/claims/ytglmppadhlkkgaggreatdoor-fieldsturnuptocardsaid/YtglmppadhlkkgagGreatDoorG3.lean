/-
  FIELDS, as texts' pairs: their sizes, their cells. No claim by itself.
-/
import Derived.WalkKit
import Derived.WalkLawsBesides
import Derived.WalkSpells
import Derived.Laws.StructEq
import Derived.Laws.Strings
import Derived.Lib.SmallJoins
import Derived.Deep.SlicePairs
import Derived.SizedLaws
import Derived.ChangeArms
import Derived.ChangeSlices
import Derived.Deep.Slices
import Derived.Deep.Matrix
import Derived.Test.YtglmppadhlkkgagGreatDoorProg
import Derived.Test.YtglmppadhlkkgagGreatDoorG1
import Derived.Test.YtglmppadhlkkgagGreatDoorG2
namespace Go.Proofs.YtglmppadhlkkgagGreatDoor
open Go.RowKit
/-- A field's size. -/
def fsize (f : ByteArray × ByteArray) : Nat := f.1.size + f.2.size + 32
/-- Fields' sizes together. -/
def weight (L : List (ByteArray × ByteArray)) : Nat := (L.map fsize).sum
/-- Fields, cell by cell. -/
def fcells (L : List (ByteArray × ByteArray)) : List Value := L.flatMap fun f => [.string f.1, .string f.2]
def fval (f : ByteArray × ByteArray) : Value := .agg #[.string f.1, .string f.2]
def fnone : ByteArray × ByteArray := (.empty, .empty)
theorem fcells_len (L : List (ByteArray × ByteArray)) : (fcells L).length = L.length * 2 := by
  induction L with
  | nil => rfl
  | cons f L ih =>
    show ([Value.string f.1, Value.string f.2] ++ fcells L).length = _
    rw [List.length_append, ih]; simp; omega
theorem fcells_append (L M : List (ByteArray × ByteArray)) : fcells (L ++ M) = fcells L ++ fcells M := by simp [fcells]
theorem fcells_at (L : List (ByteArray × ByteArray)) (t : Nat) (h : t < L.length) : (fcells L)[2 * t]? = some (.string (L.getD t fnone).1) ∧ (fcells L)[2 * t + 1]? = some (.string (L.getD t fnone).2) := by
  induction L generalizing t with
  | nil => simp at h
  | cons f L ih =>
    match t with
    | 0 => exact ⟨rfl, rfl⟩
    | t + 1 =>
      have := ih t (by simpa using h)
      exact this
theorem weight_append (L M : List (ByteArray × ByteArray)) : weight (L ++ M) = weight L + weight M := by
  unfold weight; rw [List.map_append, List.sum_append]
theorem weight_one (f : ByteArray × ByteArray) : weight [f] = fsize f := by simp [weight]
theorem weight_take (L : List (ByteArray × ByteArray)) (k : Nat) (h : k < L.length) : weight (L.take (k + 1)) = weight (L.take k) + fsize (L.getD k fnone) := by
  rw [List.take_succ_eq_append_getElem h, weight_append, weight_one]
  simp [List.getD, List.getElem?_eq_getElem h]
theorem weight_take_le (L : List (ByteArray × ByteArray)) (k : Nat) : weight (L.take k) ≤ weight L := by
  have h := congrArg weight (List.take_append_drop k L)
  rw [weight_append] at h
  omega
/-- A row of fields. -/
structure FRow (w : World) (g off len cap : Nat) (L : List (ByteArray × ByteArray)) : Prop where
  hlen : L.length = len
  hcap : len ≤ cap
  hmax : cap ≤ maxLen
  hname : ∀ t, t < len → w.cell? ⟨g, off + t * 2, none⟩ = some (.string (L.getD t fnone).1)
  hvalue : ∀ t, t < len → w.cell? ⟨g, off + t * 2 + 1, none⟩ = some (.string (L.getD t fnone).2)
theorem FRow.below {w w' : World} {g off len cap : Nat} {L : List (ByteArray × ByteArray)} (h : FRow w g off len cap L) (hb : Below w.heap.size w w') : FRow w' g off len cap L := by
  have hlt : ∀ a v, w.cell? ⟨g, a, none⟩ = some v → g < w.heap.size := by
    intro a v hc
    rcases Nat.lt_or_ge g w.heap.size with h1 | h1
    · exact h1
    · simp [World.cell?, Array.getElem?_eq_none h1] at hc
  exact ⟨h.hlen, h.hcap, h.hmax, fun t ht => (hb.cell (p := ⟨g, off + t * 2, none⟩) (hlt _ _ (h.hname t ht))).trans (h.hname t ht), fun t ht => (hb.cell (p := ⟨g, off + t * 2 + 1, none⟩) (hlt _ _ (h.hvalue t ht))).trans (h.hvalue t ht)⟩
end Go.Proofs.YtglmppadhlkkgagGreatDoor
/-
  TABLES OF FIELDS: what they hold, what is found in them. No claim by itself.
-/
namespace Go.Proofs.YtglmppadhlkkgagGreatDoor
open Go.RowKit
/-- The fields that have numbers from the beginning on. -/
def alwaysL : List (ByteArray × ByteArray) :=
  [(⟨#[58, 109, 101, 116, 104, 111, 100]⟩, ⟨#[71, 69, 84]⟩), (⟨#[58, 109, 101, 116, 104, 111, 100]⟩, ⟨#[80, 79, 83, 84]⟩), (⟨#[58, 112, 97, 116, 104]⟩, ⟨#[47]⟩), (⟨#[58, 104, 111, 115, 116]⟩, ⟨#[]⟩),
   (⟨#[58, 99, 111, 100, 101]⟩, ⟨#[50, 48, 48]⟩), (⟨#[58, 99, 111, 100, 101]⟩, ⟨#[52, 48, 52]⟩), (⟨#[108, 101, 110, 103, 116, 104]⟩, ⟨#[]⟩), (⟨#[116, 121, 112, 101]⟩, ⟨#[116, 101, 120, 116]⟩),
   (⟨#[99, 111, 111, 107, 105, 101]⟩, ⟨#[]⟩), (⟨#[97, 99, 99, 101, 112, 116]⟩, ⟨#[42]⟩), (⟨#[100, 97, 116, 101]⟩, ⟨#[]⟩), (⟨#[115, 101, 114, 118, 101, 114]⟩, ⟨#[]⟩)]
/-- How many of the newest are at most so heavy. -/
def keepN (A : List (ByteArray × ByteArray)) (most : Int) : Nat → Nat
  | 0 => 0
  | n + 1 => if most < (weight (A.take (n + 1)) : Int) then keepN A most n else n + 1
theorem keepN_le (A : List (ByteArray × ByteArray)) (most : Int) : ∀ n, keepN A most n ≤ n
  | 0 => Nat.le_refl _
  | n + 1 => by
    have := keepN_le A most n
    unfold keepN; split <;> omega
theorem eqGuardF : Tryz.prog.eqGuardType Tryz.prog.depth 51 = false := by kernel_rfl
theorem stoodF : Tryz.prog.stoodInHeld 51 = false := by kernel_rfl
/-- Two fields are alike where their texts are. -/
theorem run_eqlF (a b c d : ByteArray) (w : World) : (binOp .eql 51 (.agg #[.string a, .string b]) (.agg #[.string c, .string d])).run Tryz.prog w = .ok (.bool (a.toList == c.toList && b.toList == d.toList)) w := by
  have hu : Tryz.prog.underlying 51 = some (.struct (Tryz.prog.fieldsOf 51)) := by kernel_rfl
  have h9 := Tryz.underlying9
  rw [run_eql_struct, run_equalIn_agg w 9999 51 _ _ hu stoodF]
  simp [Program.fieldsOf, Tryz.underlying51, Op.eqFields, go_sem, h9]
  by_cases h1 : a.toList = c.toList <;> by_cases h2 : b.toList = d.toList <;> simp [h1, h2]
theorem run_neqF (a b c d : ByteArray) (w : World) : (binOp .neq 51 (.agg #[.string a, .string b]) (.agg #[.string c, .string d])).run Tryz.prog w = .ok (.bool (!(a.toList == c.toList && b.toList == d.toList))) w := by
  have hu : Tryz.prog.underlying 51 = some (.struct (Tryz.prog.fieldsOf 51)) := by kernel_rfl
  have h9 := Tryz.underlying9
  rw [run_neq_struct, run_equalIn_agg w 9999 51 _ _ hu stoodF]
  simp [Program.fieldsOf, Tryz.underlying51, Op.eqFields, go_sem, h9]
  by_cases h1 : a.toList = c.toList <;> by_cases h2 : b.toList = d.toList <;> simp [h1, h2]
theorem drewN_below {B : Nat} {w w' : World} (h : Below B w w') : ∀ n, Below B w (w'.drewN n)
  | 0 => h
  | n + 1 => by
    have := drewN_below h n
    exact ⟨this.os, this.tape, this.output, this.size, this.block⟩
theorem hide {p : Prop} (h : p) : Hid p := h
/-- The least number at which something holds; 0: there is none. -/
def fnd (p : ByteArray × ByteArray → Bool) : List (ByteArray × ByteArray) → Nat → Nat
  | [], _ => 0
  | x :: r, i => if p x then i + 1 else fnd p r (i + 1)
theorem fnd_step (p : ByteArray × ByteArray → Bool) (L : List (ByteArray × ByteArray)) (k : Nat) (h : k < L.length) : fnd p (L.drop k) k = if p (L.getD k fnone) then k + 1 else fnd p (L.drop (k + 1)) (k + 1) := by
  have e : L.drop k = L.getD k fnone :: L.drop (k + 1) := by
    rw [List.drop_eq_getElem_cons h]
    simp [List.getD, List.getElem?_eq_getElem h]
  rw [e]; rfl
theorem fnd_le (p : ByteArray × ByteArray → Bool) : ∀ (L : List (ByteArray × ByteArray)) (i : Nat), fnd p L i ≤ i + L.length
  | [], _ => Nat.zero_le _
  | x :: r, i => by
    have := fnd_le p r (i + 1)
    unfold fnd; simp; split <;> omega
def isF (n v : ByteArray) (x : ByteArray × ByteArray) : Bool := x.1.toList == n.toList && x.2.toList == v.toList
def isN (n : ByteArray) (x : ByteArray × ByteArray) : Bool := x.1.toList == n.toList
/-- What a table holds once a field was added, and whether it was. -/
def addL (A : List (ByteArray × ByteArray)) (f : ByteArray × ByteArray) (max : Int) : Bool × List (ByteArray × ByteArray) :=
  if max < (fsize f : Int) then (false, []) else (true, f :: A.take (keepN A (max - fsize f) A.length))
theorem keepN_fits (A : List (ByteArray × ByteArray)) (most : Int) (h0 : 0 ≤ most) : ∀ n, (weight (A.take (keepN A most n)) : Int) ≤ most
  | 0 => by simp [keepN, weight]; exact h0
  | n + 1 => by
    have ih := keepN_fits A most h0 n
    unfold keepN
    split
    · exact ih
    · omega
/-- What a table may hold. -/
structure Fit (max : Int) (A : List (ByteArray × ByteArray)) : Prop where
  h0 : 0 ≤ max
  h1 : max ≤ 4096
  h2 : (weight A : Int) ≤ max
theorem weight_cons (f : ByteArray × ByteArray) (A : List (ByteArray × ByteArray)) : weight (f :: A) = fsize f + weight A := by simp [weight]
theorem weight_len : ∀ (A : List (ByteArray × ByteArray)), 32 * A.length ≤ weight A
  | [] => by simp [weight]
  | f :: A => by
    have := weight_len A
    rw [weight_cons, List.length_cons]
    unfold fsize; omega
theorem Fit.len {max : Int} {A : List (ByteArray × ByteArray)} (h : Fit max A) : A.length ≤ 128 := by
  have h1 := h.h1
  have h2 := h.h2
  have h3 := weight_len A
  omega
theorem Fit.nil {max : Int} (h0 : 0 ≤ max) (h1 : max ≤ 4096) : Fit max [] := ⟨h0, h1, by simpa [weight] using h0⟩
theorem Fit.add {max : Int} {A : List (ByteArray × ByteArray)} (h : Fit max A) (f : ByteArray × ByteArray) : Fit max (addL A f max).2 := by
  unfold addL
  split
  · exact Fit.nil h.h0 h.h1
  · refine ⟨h.h0, h.h1, ?_⟩
    have := keepN_fits A (max - fsize f) (by omega) A.length
    show (weight (f :: A.take (keepN A (max - fsize f) A.length)) : Int) ≤ max
    rw [weight_cons]
    omega
theorem Fit.size {max : Int} {A : List (ByteArray × ByteArray)} (h : Fit max A) (f : ByteArray × ByteArray) (hf : f ∈ A) : f.1.size + f.2.size ≤ 4096 := by
  have h1 := h.h1
  have h2 := h.h2
  obtain ⟨i, hi, e⟩ := List.getElem_of_mem hf
  have h3 := weight_take A i hi
  have h4 := weight_take_le A (i + 1)
  have e2 : A.getD i fnone = f := by simp [List.getD, List.getElem?_eq_getElem hi, e]
  rw [e2] at h3
  have : fsize f = f.1.size + f.2.size + 32 := rfl
  omega
/-- What is found first, is there, and nothing earlier. -/
theorem fnd_hit (p : ByteArray × ByteArray → Bool) : ∀ (L : List (ByteArray × ByteArray)) (i j : Nat), j < L.length → p (L.getD j fnone) = true → i < fnd p L i ∧ fnd p L i ≤ i + j + 1 ∧ p (L.getD (fnd p L i - i - 1) fnone) = true
  | [], _, _, h, _ => by simp at h
  | x :: r, i, j, h, hp => by
    unfold fnd
    by_cases hx : p x = true
    · rw [if_pos hx]
      refine ⟨by omega, by omega, ?_⟩
      rw [show i + 1 - i - 1 = 0 from by omega]
      simpa using hx
    · rw [if_neg hx]
      match j, h, hp with
      | 0, _, hp => simp at hp; exact absurd hp hx
      | j + 1, h, hp =>
        have ih := fnd_hit p r (i + 1) j (by simpa using h) (by simpa using hp)
        obtain ⟨h1, h2, h3⟩ := ih
        refine ⟨by omega, by omega, ?_⟩
        rw [show fnd p r (i + 1) - i - 1 = (fnd p r (i + 1) - (i + 1) - 1) + 1 from by omega, List.getD_cons_succ]
        exact h3
theorem fnd_zero (p : ByteArray × ByteArray → Bool) : ∀ (L : List (ByteArray × ByteArray)) (i : Nat), fnd p L i ≠ 0 → i < fnd p L i ∧ fnd p L i ≤ i + L.length ∧ p (L.getD (fnd p L i - i - 1) fnone) = true
  | [], _, h => absurd rfl h
  | x :: r, i, h => by
    unfold fnd at h ⊢
    by_cases hx : p x = true
    · rw [if_pos hx]
      refine ⟨by omega, by simp, ?_⟩
      rw [show i + 1 - i - 1 = 0 from by omega]
      simpa using hx
    · rw [if_neg hx] at h ⊢
      obtain ⟨h1, h2, h3⟩ := fnd_zero p r (i + 1) h
      refine ⟨by omega, by simp; omega, ?_⟩
      rw [show fnd p r (i + 1) - i - 1 = (fnd p r (i + 1) - (i + 1) - 1) + 1 from by omega, List.getD_cons_succ]
      exact h3
theorem fnd_append (p : ByteArray × ByteArray → Bool) (M : List (ByteArray × ByteArray)) : ∀ (L : List (ByteArray × ByteArray)) (i : Nat), fnd p L i ≠ 0 → fnd p (L ++ M) i = fnd p L i
  | [], _, h => absurd rfl h
  | x :: r, i, h => by
    rw [List.cons_append]
    unfold fnd at h ⊢
    by_cases hx : p x = true
    · rw [if_pos hx, if_pos hx]
    · rw [if_neg hx] at h ⊢
      rw [if_neg hx]
      exact fnd_append p M r (i + 1) h
theorem isF_self (f : ByteArray × ByteArray) : isF f.1 f.2 f = true := by simp [isF]
theorem isN_of_isF {n v : ByteArray} {x : ByteArray × ByteArray} (h : isF n v x = true) : isN n x = true := by
  unfold isF at h; unfold isN
  simp only [Bool.and_eq_true] at h
  exact h.1
theorem always_len : alwaysL.length = 12 := by decide
theorem always_fin : ∀ j : Fin 12, fnd (isF (alwaysL.getD j.val fnone).1 (alwaysL.getD j.val fnone).2) alwaysL 0 = j.val + 1 := by decide +kernel
theorem toList_eq {a b : ByteArray} (h : (a.toList == b.toList) = true) : a = b := by
  have h1 : a.toList = b.toList := by simpa using h
  rw [ByteArray.toList_eq, ByteArray.toList_eq] at h1
  cases a; cases b
  simp at h1
  rw [h1]
theorem isF_eq {n v : ByteArray} {x : ByteArray × ByteArray} (h : isF n v x = true) : x = (n, v) := by
  unfold isF at h
  simp only [Bool.and_eq_true] at h
  exact Prod.ext (toList_eq h.1) (toList_eq h.2)
theorem isN_eq {n : ByteArray} {x : ByteArray × ByteArray} (h : isN n x = true) : x.1 = n := toList_eq h
/-- What stands at a number is found by a number no greater, where the same stands, and its name by one no greater than that. -/
theorem finds_at (A : List (ByteArray × ByteArray)) (i : Nat) (h : i < 12 + A.length) :
    let f := (alwaysL ++ A).getD i fnone
    1 ≤ fnd (isF f.1 f.2) (alwaysL ++ A) 0 ∧ fnd (isF f.1 f.2) (alwaysL ++ A) 0 ≤ i + 1 ∧ (alwaysL ++ A).getD (fnd (isF f.1 f.2) (alwaysL ++ A) 0 - 1) fnone = f ∧
    fnd (isN f.1) (alwaysL ++ A) 0 ≤ fnd (isF f.1 f.2) (alwaysL ++ A) 0 ∧ (i < 12 → fnd (isF f.1 f.2) (alwaysL ++ A) 0 = i + 1) := by
  intro f
  have hl : i < (alwaysL ++ A).length := by rw [List.length_append, always_len]; exact h
  obtain ⟨h1, h2, h3⟩ := fnd_hit (isF f.1 f.2) (alwaysL ++ A) 0 i hl (isF_self f)
  have e3 := isF_eq h3
  rw [Nat.sub_zero] at h3 e3
  have hl2 : fnd (isF f.1 f.2) (alwaysL ++ A) 0 - 1 < (alwaysL ++ A).length := by omega
  obtain ⟨k1, k2, k3⟩ := fnd_hit (isN f.1) (alwaysL ++ A) 0 _ hl2 (isN_of_isF h3)
  refine ⟨by omega, by omega, e3, by omega, fun hi => ?_⟩
  have hf : f = alwaysL.getD i fnone := by
    show (alwaysL ++ A).getD i fnone = _
    simp only [List.getD]
    rw [List.getElem?_append_left (by rw [always_len]; exact hi)]
  have ha := always_fin ⟨i, hi⟩
  rw [hf]
  rw [fnd_append _ _ _ _ (by rw [ha]; simp), ha]
end Go.Proofs.YtglmppadhlkkgagGreatDoor
/-
  WHAT IS ASKED of the Go functions of package line: their contracts, as statements. No claim by itself.
-/
namespace Go.Proofs.YtglmppadhlkkgagGreatDoor
open Go.RowKit
set_option maxRecDepth 100000
/- texts as bytes -/
theorem unums_inj {s t : ByteArray} (h : unums s = unums t) : s = t := by
  apply ByteArray.ext
  apply Array.ext'
  unfold unums at h
  have inj : Function.Injective (fun c : UInt8 => (c.toNat : Int)) := fun a b e => by
    apply UInt8.toNat_inj.1
    have e' : ((a.toNat : Int)) = ((b.toNat : Int)) := e
    omega
  exact (List.map_inj_right (fun a b e => inj e)).1 h
theorem unums_nil {s : ByteArray} : unums s = [] ↔ s.size = 0 := by
  rw [← List.length_eq_zero_iff, unums_len]
theorem bytes_unums (s : ByteArray) : Bytes (unums s) := by
  intro x hx
  obtain ⟨c, _, rfl⟩ := List.mem_map.1 hx
  have := c.toNat_lt
  omega
theorem str_unums (s : ByteArray) : strOfNums (unums s) = s := by
  apply ByteArray.ext
  apply Array.ext'
  rw [strOfNums_data]
  unfold unums
  rw [List.map_map]
  conv => rhs; rw [← List.map_id s.data.toList]
  apply List.map_congr_left
  intro c _
  simp [Function.comp]
theorem unums_str {L : List Int} (h : Bytes L) : unums (strOfNums L) = L := by
  unfold unums
  rw [strOfNums_data, List.map_map]
  conv => rhs; rw [← List.map_id L]
  apply List.map_congr_left
  intro x hx
  have := h x hx
  simp [Function.comp]
  omega
theorem unums_app (s t : ByteArray) : unums (s ++ t) = unums s ++ unums t := by
  unfold unums
  rw [ByteArray.data_append]
  simp
/- requests and replies in memory -/
/-- Fields that are handed in: none, or a row. -/
def FArg (w : World) (a : Option Addr) (len cap : Nat) (L : List (ByteArray × ByteArray)) : Prop :=
  (len = 0 ∧ L = []) ∨ ∃ g off, a = some ⟨g, off, none⟩ ∧ FRow w g off len cap L
theorem FArg.below {w w' : World} {a : Option Addr} {len cap : Nat} {L : List (ByteArray × ByteArray)} (h : FArg w a len cap L) (hb : Below w.heap.size w w') : FArg w' a len cap L := by
  rcases h with h | ⟨g, off, ha, hr⟩
  · exact Or.inl h
  · exact Or.inr ⟨g, off, ha, hr.below hb⟩
theorem FArg.len {w : World} {a : Option Addr} {len cap : Nat} {L : List (ByteArray × ByteArray)} (h : FArg w a len cap L) : L.length = len := by
  rcases h with ⟨rfl, rfl⟩ | ⟨g, off, _, hr⟩
  · rfl
  · exact hr.hlen
/-- A request as it lies in memory. -/
structure RqM where
  m : ByteArray
  p : ByteArray
  h : ByteArray
  fa : Option Addr
  fn : Nat
  fc : Nat
  ba : Option Addr
  bn : Nat
  bc : Nat
  FL : List (ByteArray × ByteArray)
  B : List Int
def RqM.val (q : RqM) : Value := .agg #[.string q.m, .string q.p, .string q.h, .slice q.fa q.fn q.fc, .slice q.ba q.bn q.bc]
def fdsOf (L : List (ByteArray × ByteArray)) : List Fd := L.map fun f => (unums f.1, unums f.2)
def RqM.rq (q : RqM) : Rq := ⟨unums q.m, unums q.p, unums q.h, fdsOf q.FL, q.B⟩
/-- What is known of it. -/
structure RqIn (w : World) (q : RqM) : Prop where
  fields : FArg w q.fa q.fn q.fc q.FL
  body : Arg w q.ba q.bn q.bc q.B
  nil : q.ba = none → q.bn = 0 ∧ q.bc = 0
  most : q.fn ≤ 4611686018427387904 ∧ q.bn ≤ 140737488351232
  texts : q.m.size ≤ 140737488351232 ∧ q.p.size ≤ 140737488351232 ∧ q.h.size ≤ 140737488351232
  each : ∀ t, (q.FL.getD t fnone).1.size ≤ 140737488351232 ∧ (q.FL.getD t fnone).2.size ≤ 140737488351232
theorem RqIn.below {w w' : World} {q : RqM} (h : RqIn w q) (hb : Below w.heap.size w w') : RqIn w' q := ⟨h.fields.below hb, h.body.below hb, h.nil, h.most, h.texts, h.each⟩
structure RpM where
  code : Int
  fa : Option Addr
  fn : Nat
  fc : Nat
  ba : Option Addr
  bn : Nat
  bc : Nat
  FL : List (ByteArray × ByteArray)
  B : List Int
def RpM.val (q : RpM) : Value := .agg #[.int .i64 q.code, .slice q.fa q.fn q.fc, .slice q.ba q.bn q.bc]
def RpM.rp (q : RpM) : Rp := ⟨q.code, fdsOf q.FL, q.B⟩
structure RpIn (w : World) (q : RpM) : Prop where
  code : I64 q.code
  fields : FArg w q.fa q.fn q.fc q.FL
  body : Arg w q.ba q.bn q.bc q.B
  nil : q.ba = none → q.bn = 0 ∧ q.bc = 0
  most : q.fn ≤ 4611686018427387904 ∧ q.bn ≤ 140737488351232
  each : ∀ t, (q.FL.getD t fnone).1.size ≤ 140737488351232 ∧ (q.FL.getD t fnone).2.size ≤ 140737488351232
theorem RpIn.below {w w' : World} {q : RpM} (h : RpIn w q) (hb : Below w.heap.size w w') : RpIn w' q := ⟨h.code, h.fields.below hb, h.body.below hb, h.nil, h.most, h.each⟩
/-- What is known of package-level variables, and stays. -/
structure NLd where
  P : World → Prop
  below : ∀ {w w' : World}, P w → Below w.heap.size w w' → P w'
/- what is asked -/
def askOut (r : Rq) : List Int := if askE r = 0 then askL r else []
def tellOut (a : Rp) (size : Int) : List Int := if tellE a size = 0 then tellL a size else []
def NTokSaid (D : NLd) : Prop := ∀ (s : ByteArray) (w : World), D.P w → s.size ≤ 140737488351232 → Calls Tryz.prog 100 #[.string s] w fun e w' => e = .returned (.bool (tokL (unums s))) ∧ Below w.heap.size w w'
def NPlainSaid (D : NLd) : Prop := ∀ (s : ByteArray) (w : World), D.P w → s.size ≤ 140737488351232 → Calls Tryz.prog 167 #[.string s] w fun e w' => e = .returned (.bool (plainL (unums s))) ∧ Below w.heap.size w w'
def NAskSaid (D : NLd) : Prop := ∀ (q : RqM) (w : World), D.P w → RqIn w q → Calls Tryz.prog 42 #[q.val] w fun e w' => ∃ v, e = .returned (.tuple #[v, errW (askE q.rq)]) ∧ UOwn w' w.heap.size v (askOut q.rq) ∧ Below w.heap.size w w'
def NTellSaid (D : NLd) : Prop := ∀ (q : RpM) (size : Int) (w : World), D.P w → RpIn w q → I64 size → Calls Tryz.prog 54 #[q.val, .int .i64 size] w fun e w' => ∃ v, e = .returned (.tuple #[v, errW (tellE q.rp size)]) ∧ UOwn w' w.heap.size v (tellOut q.rp size) ∧ Below w.heap.size w w'
end Go.Proofs.YtglmppadhlkkgagGreatDoor
/-
  REQUESTS AND REPLIES THAT ARE HANDED IN: what a call may know of them. No claim by itself.
-/
namespace Go.Proofs.YtglmppadhlkkgagGreatDoor
open Go.RowKit
open Go.Deep
open Go Go.Lib Go.ChangeShapes
set_option maxRecDepth 100000
theorem n_weightsAll {H : Type} {P : Program} {e : TypeId} {d : DataW H} {n : Nat} (hn : n ∈ d.weights P e) : ∀ {l : List (DataW H)}, d ∈ l → n ∈ DataW.weightsAll P e l
  | [], h => by cases h
  | x :: r, h => by
    simp only [DataW.weightsAll, List.mem_append]
    rcases List.mem_cons.1 h with rfl | h
    · exact Or.inl hn
    · exact Or.inr (n_weightsAll hn h)
theorem n_add (g off q : Nat) : (⟨g, off, none⟩ : Addr).add q = ⟨g, off + q, none⟩ := by unfold Addr.add; split <;> simp_all
def strOf : Value → ByteArray
  | .string s => s
  | _ => .empty
theorem n_body {H : Type} {enc : TypeId × Value → H} {W : World} {fuel : Nat} {v : Value} {y : DataW H × List MemPlace}
    (hf : DataW.trod enc Tryz.prog W 0 (fun _ => true) true fuel 23 [v] = some y) (hw : ∀ q, q ∈ y.1.weights Tryz.prog 23 → q ≤ reachBytes) :
    ∃ a len cap Z, v = .slice a len cap ∧ Arg W a len cap Z ∧ len ≤ 140737488351232 ∧ (a = none → len = 0 ∧ cap = 0) := by
  rcases Go.ChangeShapes.open_ints Tryz.underlying23 Tryz.underlying5 (by kernel_rfl) hf with ⟨hcs, _⟩ | ⟨x, l, c, zs, hcs, _, hl, hm, hz, hx, hcell, hwz⟩
  · simp at hcs
    exact ⟨none, 0, 0, [], hcs, Or.inl ⟨rfl, rfl⟩, by decide, fun _ => ⟨rfl, rfl⟩⟩
  · simp at hcs
    have hd : y.1 = .slice (Go.ChangeShapes.lits .u8 (zs.take l)) (Go.ChangeShapes.lits .u8 (zs.drop l)) := congrArg Prod.fst hx
    have hzl : zs.length = c := by simpa using hz
    have hb : (Tryz.prog.bytesOf 5) = 1 := by kernel_rfl
    have hs := hw ((zs.take l).length + (zs.drop l).length) (by rw [hd]; simp [DataW.weights, Tryz.underlying23, hb, Go.ChangeShapes.lits])
    simp only [List.length_take, List.length_drop, reachBytes] at hs
    exact ⟨some x, l, c, zs.take l, hcs, arg_of hzl hl hm hcell hwz, by omega, fun h => by cases h⟩
theorem n_text {H : Type} {enc : TypeId × Value → H} {W : World} {fuel : Nat} {v : Value} {y : DataW H × List MemPlace}
    (hf : DataW.trod enc Tryz.prog W 0 (fun _ => true) true fuel 9 [v] = some y) (hw : ∀ q, q ∈ y.1.weights Tryz.prog 9 → q ≤ reachBytes) : ∃ s : ByteArray, v = .string s ∧ s.size ≤ 140737488351232 := by
  obtain ⟨s, e, x, _⟩ := DataW.trod_string Tryz.underlying9 hf
  have d : y.1 = .lit (.string s.data.toList) := congrArg Prod.fst x
  have l : s.data.toList.length = s.size := by rw [Array.length_toList]; rfl
  refine ⟨s, by simpa using e, ?_⟩
  have := hw s.data.toList.length (by rw [d]; simp [DataW.weights])
  rw [l] at this
  simpa [reachBytes] using this
theorem n_fields {H : Type} {enc : TypeId × Value → H} {W : World} {fuel : Nat} {v : Value} {y : DataW H × List MemPlace}
    (hf : DataW.trod enc Tryz.prog W 0 (fun _ => true) true fuel 22 [v] = some y) (hw : ∀ q, q ∈ y.1.weights Tryz.prog 22 → q ≤ reachBytes) :
    ∃ a len cap L, v = .slice a len cap ∧ FArg W a len cap L ∧ len ≤ 4611686018427387904 ∧ ∀ t, (L.getD t fnone).1.size ≤ 140737488351232 ∧ (L.getD t fnone).2.size ≤ 140737488351232 := by
  rcases open_slice_pairs Tryz.underlying22 Tryz.underlying51 (by kernel_rfl) rfl rfl (by kernel_rfl) (by kernel_rfl) hf with ⟨hcs, _⟩ | ⟨x, len, cap, m, n, V0, V1, D0, D1, P0, P1, hcs, _, hl, hm, hmm, hx, hel⟩
  · simp at hcs
    exact ⟨none, 0, 0, [], hcs, Or.inl ⟨rfl, rfl⟩, by decide, fun t => by simp [fnone]⟩
  · simp at hcs
    simp only [if_true] at hmm
    subst hmm
    have hdd : y.1 = .slice ((List.range len).map fun i => .agg [D0 i, D1 i]) ((List.range (m - len)).map fun j => .agg [D0 (len + j), D1 (len + j)]) := congrArg Prod.fst hx
    have hstr : ∀ i, i < len → V0 i = .string (strOf (V0 i)) ∧ V1 i = .string (strOf (V1 i)) ∧ (strOf (V0 i)).size ≤ reachBytes ∧ (strOf (V1 i)).size ≤ reachBytes := by
      intro i hi
      obtain ⟨_, _, t0, t1⟩ := hel i (by omega)
      obtain ⟨s0, e0, x0, _⟩ := DataW.trod_string Tryz.underlying9 t0
      obtain ⟨s1, e1, x1, _⟩ := DataW.trod_string Tryz.underlying9 t1
      have v0 : V0 i = .string s0 := by simpa using e0
      have v1 : V1 i = .string s1 := by simpa using e1
      have d0 : D0 i = .lit (.string s0.data.toList) := congrArg Prod.fst x0
      have d1 : D1 i = .lit (.string s1.data.toList) := congrArg Prod.fst x1
      have hmem : DataW.agg [D0 i, D1 i] ∈ (List.range len).map fun i => DataW.agg [D0 i, D1 i] := List.mem_map.2 ⟨i, List.mem_range.2 hi, rfl⟩
      have hw' : ∀ q, q ∈ (DataW.agg [D0 i, D1 i]).weights Tryz.prog 51 → q ≤ reachBytes := by
        intro q hq
        refine hw q ?_
        rw [hdd]
        simp only [DataW.weights, Tryz.underlying22, List.mem_cons, List.mem_append]
        exact Or.inr (Or.inl (n_weightsAll hq hmem))
      have l0 : s0.data.toList.length = s0.size := by rw [Array.length_toList]; rfl
      have l1 : s1.data.toList.length = s1.size := by rw [Array.length_toList]; rfl
      refine ⟨by rw [v0]; rfl, by rw [v1]; rfl, ?_, ?_⟩
      · rw [v0]
        show s0.size ≤ reachBytes
        rw [← l0]
        exact hw' _ (by rw [d0, d1]; simp [DataW.weights, Tryz.underlying51, DataW.weightsEach])
      · rw [v1]
        show s1.size ≤ reachBytes
        rw [← l1]
        exact hw' _ (by rw [d0, d1]; simp [DataW.weights, Tryz.underlying51, DataW.weightsEach])
    have hget : ∀ t, t < len → ((List.range len).map fun i => (strOf (V0 i), strOf (V1 i))).getD t fnone = (strOf (V0 t), strOf (V1 t)) := by
      intro t ht
      simp [List.getD, ht]
    have hby : Tryz.prog.bytesOf 51 = 32 := by kernel_rfl
    have hsl := hw ((len + (m - len)) * 32) (by rw [hdd]; simp [DataW.weights, Tryz.underlying22, hby])
    simp only [reachBytes] at hsl
    refine ⟨some x, len, m, (List.range len).map fun i => (strOf (V0 i), strOf (V1 i)), hcs, ?_, by omega, fun t => ?_⟩
    · by_cases h0 : len = 0
      · subst h0; exact Or.inl ⟨rfl, rfl⟩
      · obtain ⟨hc, _⟩ := hel 0 (by omega)
        obtain ⟨g, off, spot⟩ := x
        have hspot : spot = none := by simpa [Addr.add] using World.cell?_spot hc
        subst hspot
        have hplain := n_add g off
        refine Or.inr ⟨g, off, rfl, by simp, hl, hm, fun t ht => ?_, fun t ht => ?_⟩
        · have h1 := (hel t (by omega)).1
          rw [hplain] at h1
          rw [h1, hget t ht]
          exact congrArg some (hstr t ht).1
        · have h1 := (hel t (by omega)).2.1
          rw [hplain] at h1
          rw [show off + t * 2 + 1 = off + (t * 2 + 1) from by omega, h1, hget t ht]
          exact congrArg some (hstr t ht).2.1
    · by_cases ht : t < len
      · rw [hget t ht]
        have h2 := (hstr t ht).2.2
        simpa [reachBytes] using h2
      · have : ((List.range len).map fun i => (strOf (V0 i), strOf (V1 i))).getD t fnone = fnone := by
          rw [List.getD, List.getElem?_eq_none (by simp; omega)]; rfl
        rw [this]
        simp [fnone]
theorem array5 {α : Type} {cs : Array α} (h : cs.size = 5) : ∃ c0 c1 c2 c3 c4, cs = #[c0, c1, c2, c3, c4] := by
  obtain ⟨l⟩ := cs
  match l, h with
  | [c0, c1, c2, c3, c4], _ => exact ⟨c0, c1, c2, c3, c4, rfl⟩
theorem open_agg5 {H : Type} {enc : TypeId × Value → H} {P : Program} {w : World} {base : Nat} {spare : Nat → Bool} {held : Bool} {r : Reach} {b0 : Nat} {t : TypeId} {f0 f1 f2 f3 f4 : Field} {v : Value} {d : DataW H} {p : List MemPlace} (hs : P.underlying t = some (.struct #[f0, f1, f2, f3, f4])) (hone : oneCellFields P #[f0, f1, f2, f3, f4] = true) (hC : P.cellsOf t = 5)
    (hv : Value.okWide P w r b0 t v) (h : DataW.Trod enc P w base spare held t v d p) :
    ∃ (v0 v1 v2 v3 v4 : Value) (y0 y1 y2 y3 y4 : DataW H × List MemPlace) (n : Nat), v = .agg #[v0, v1, v2, v3, v4] ∧ d = .agg [y0.1, y1.1, y2.1, y3.1, y4.1] ∧
      DataW.trod enc P w base spare held n f0.type [v0] = some y0 ∧ DataW.trod enc P w base spare held n f1.type [v1] = some y1 ∧ DataW.trod enc P w base spare held n f2.type [v2] = some y2 ∧ DataW.trod enc P w base spare held n f3.type [v3] = some y3 ∧ DataW.trod enc P w base spare held n f4.type [v4] = some y4 := by
  obtain ⟨cs, rfl, hsz⟩ := Go.WideShapes.okWide_struct hs hv
  obtain ⟨c0, c1, c2, c3, c4, rfl⟩ := array5 (hsz.trans hC)
  obtain ⟨fuel, hf⟩ := h
  obtain ⟨xs, n, _, hx, hl, hlen, hff⟩ := DataW.trod_struct hs hf
  match xs, hlen with
  | [y0, y1, y2, y3, y4], _ =>
    obtain ⟨o0, k0⟩ := hone_of hone 0 f0 rfl
    obtain ⟨o1, k1⟩ := hone_of hone 1 f1 rfl
    obtain ⟨o2, k2⟩ := hone_of hone 2 f2 rfl
    obtain ⟨o3, k3⟩ := hone_of hone 3 f3 rfl
    obtain ⟨o4, k4⟩ := hone_of hone 4 f4 rfl
    have g0 := hff 0 f0 rfl
    have g1 := hff 1 f1 rfl
    have g2 := hff 2 f2 rfl
    have g3 := hff 3 f3 rfl
    have g4 := hff 4 f4 rfl
    refine ⟨c0, c1, c2, c3, c4, y0, y1, y2, y3, y4, n, rfl, ?_, ?_, ?_, ?_, ?_, ?_⟩
    · have := congrArg Prod.fst hx
      simpa using this
    · simpa [Value.cells, o0, k0] using g0
    · simpa [Value.cells, o1, k1] using g1
    · simpa [Value.cells, o2, k2] using g2
    · simpa [Value.cells, o3, k3] using g3
    · simpa [Value.cells, o4, k4] using g4
theorem request_open {H : Type} {enc : TypeId × Value → H} {W : World} {ts : List TypeId} {ds : List (DataW H)} {j base : Nat} {v : Value} {d : DataW H} {p : List MemPlace}
    (hsz : (DataW.weightsEach Tryz.prog ts ds).all (· ≤ reachBytes) = true) (hj : ts[j]? = some 25) (hd : ds[j]? = some d) (hv : Value.okWide Tryz.prog W .any base 25 v)
    (h : DataW.Trod enc Tryz.prog W 0 (fun _ => true) true 25 v d p) : ∃ q : RqM, v = q.val ∧ RqIn W q := by
  obtain ⟨v0, v1, v2, v3, v4, y0, y1, y2, y3, y4, n, rfl, hdd, h0, h1, h2, h3, h4⟩ := open_agg5 Tryz.underlying25 (by kernel_rfl) (by kernel_rfl) hv h
  have hw : ∀ q, q ∈ (DataW.agg [y0.1, y1.1, y2.1, y3.1, y4.1]).weights Tryz.prog 25 → q ≤ reachBytes := fun q hq => of_decide_eq_true (List.all_eq_true.1 hsz _ (DataW.weights_mem_each hj hd _ (by rw [hdd]; exact hq)))
  simp only [DataW.weights, Tryz.underlying25] at hw
  obtain ⟨s0, rfl, l0⟩ := n_text h0 (fun q hq => hw q (by simp [DataW.weightsEach, hq]))
  obtain ⟨s1, rfl, l1⟩ := n_text h1 (fun q hq => hw q (by simp [DataW.weightsEach, hq]))
  obtain ⟨s2, rfl, l2⟩ := n_text h2 (fun q hq => hw q (by simp [DataW.weightsEach, hq]))
  obtain ⟨fa, fn, fc, L, rfl, f1, f2, f3⟩ := n_fields h3 (fun q hq => hw q (by simp [DataW.weightsEach, hq]))
  obtain ⟨ba, bn, bc, Z, rfl, b1, b2, b3⟩ := n_body h4 (fun q hq => hw q (by simp [DataW.weightsEach, hq]))
  exact ⟨⟨s0, s1, s2, fa, fn, fc, ba, bn, bc, L, Z⟩, rfl, f1, b1, b3, ⟨f2, b2⟩, ⟨l0, l1, l2⟩, f3⟩
theorem reply_open {H : Type} {enc : TypeId × Value → H} {W : World} {ts : List TypeId} {ds : List (DataW H)} {j base : Nat} {v : Value} {d : DataW H} {p : List MemPlace}
    (hsz : (DataW.weightsEach Tryz.prog ts ds).all (· ≤ reachBytes) = true) (hj : ts[j]? = some 27) (hd : ds[j]? = some d) (hv : Value.okWide Tryz.prog W .any base 27 v)
    (h : DataW.Trod enc Tryz.prog W 0 (fun _ => true) true 27 v d p) : ∃ q : RpM, v = q.val ∧ RpIn W q := by
  obtain ⟨v0, v1, v2, y0, y1, y2, n, rfl, hdd, _, h0, h1, h2⟩ := Go.Joins.open_agg3 Tryz.underlying27 (by kernel_rfl) (by kernel_rfl) hv h
  have hw : ∀ q, q ∈ (DataW.agg [y0.1, y1.1, y2.1]).weights Tryz.prog 27 → q ≤ reachBytes := fun q hq => of_decide_eq_true (List.all_eq_true.1 hsz _ (DataW.weights_mem_each hj hd _ (by rw [hdd]; exact hq)))
  simp only [DataW.weights, Tryz.underlying27] at hw
  obtain ⟨k, e0, x0, w0⟩ := DataW.trod_int Tryz.underlying3 h0
  simp only [List.cons.injEq, and_true] at e0
  subst e0
  obtain ⟨fa, fn, fc, L, rfl, f1, f2, f3⟩ := n_fields h1 (fun q hq => hw q (by simp [DataW.weightsEach, hq]))
  obtain ⟨ba, bn, bc, Z, rfl, b1, b2, b3⟩ := n_body h2 (fun q hq => hw q (by simp [DataW.weightsEach, hq]))
  exact ⟨⟨k, fa, fn, fc, ba, bn, bc, L, Z⟩, rfl, i64_wf w0, f1, b1, b3, ⟨f2, b2⟩, f3⟩
end Go.Proofs.YtglmppadhlkkgagGreatDoor
