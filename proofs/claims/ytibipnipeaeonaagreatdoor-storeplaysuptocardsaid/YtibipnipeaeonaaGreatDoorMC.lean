/-
  FIELDS, as texts' pairs: their sizes, their cells. No claim by itself.
-/
import Derived.WalkKit
import Derived.WalkLawsBesides
import Derived.WalkSpells
import Derived.Laws.StructEq
import Derived.Laws.Strings
import Derived.Test.YtibipnipeaeonaaGreatDoorProg
import Derived.Test.YtibipnipeaeonaaGreatDoorMA
import Derived.Test.YtibipnipeaeonaaGreatDoorMB
namespace Go.Proofs.YtibipnipeaeonaaGreatDoor
open Go.RowKit
/-- A field's size. -/
def fsize (f : ByteArray × ByteArray) : Nat := f.1.size + f.2.size + 32
/-- Fields' sizes together. -/
def weight (L : List (ByteArray × ByteArray)) : Nat := (L.map fsize).sum
/-- Fields, cell by cell. -/
def fcells (L : List (ByteArray × ByteArray)) : List Value := L.flatMap fun f => [.string f.1, .string f.2]
def fval (f : ByteArray × ByteArray) : Value := .agg #[.string f.1, .string f.2]
def fnone : ByteArray × ByteArray := (.empty, .empty)
theorem fcells_len (L : List (ByteArray × ByteArray)) : (fcells L).length = L.length * 2 := by
  induction L with
  | nil => rfl
  | cons f L ih =>
    show ([Value.string f.1, Value.string f.2] ++ fcells L).length = _
    rw [List.length_append, ih]; simp; omega
theorem fcells_append (L M : List (ByteArray × ByteArray)) : fcells (L ++ M) = fcells L ++ fcells M := by simp [fcells]
theorem fcells_at (L : List (ByteArray × ByteArray)) (t : Nat) (h : t < L.length) : (fcells L)[2 * t]? = some (.string (L.getD t fnone).1) ∧ (fcells L)[2 * t + 1]? = some (.string (L.getD t fnone).2) := by
  induction L generalizing t with
  | nil => simp at h
  | cons f L ih =>
    match t with
    | 0 => exact ⟨rfl, rfl⟩
    | t + 1 =>
      have := ih t (by simpa using h)
      exact this
theorem weight_append (L M : List (ByteArray × ByteArray)) : weight (L ++ M) = weight L + weight M := by
  unfold weight; rw [List.map_append, List.sum_append]
theorem weight_one (f : ByteArray × ByteArray) : weight [f] = fsize f := by simp [weight]
theorem weight_take (L : List (ByteArray × ByteArray)) (k : Nat) (h : k < L.length) : weight (L.take (k + 1)) = weight (L.take k) + fsize (L.getD k fnone) := by
  rw [List.take_succ_eq_append_getElem h, weight_append, weight_one]
  simp [List.getD, List.getElem?_eq_getElem h]
theorem weight_take_le (L : List (ByteArray × ByteArray)) (k : Nat) : weight (L.take k) ≤ weight L := by
  have h := congrArg weight (List.take_append_drop k L)
  rw [weight_append] at h
  omega
/-- A row of fields. -/
structure FRow (w : World) (g off len cap : Nat) (L : List (ByteArray × ByteArray)) : Prop where
  hlen : L.length = len
  hcap : len ≤ cap
  hmax : cap ≤ maxLen
  hname : ∀ t, t < len → w.cell? ⟨g, off + t * 2, none⟩ = some (.string (L.getD t fnone).1)
  hvalue : ∀ t, t < len → w.cell? ⟨g, off + t * 2 + 1, none⟩ = some (.string (L.getD t fnone).2)
theorem FRow.below {w w' : World} {g off len cap : Nat} {L : List (ByteArray × ByteArray)} (h : FRow w g off len cap L) (hb : Below w.heap.size w w') : FRow w' g off len cap L := by
  have hlt : ∀ a v, w.cell? ⟨g, a, none⟩ = some v → g < w.heap.size := by
    intro a v hc
    rcases Nat.lt_or_ge g w.heap.size with h1 | h1
    · exact h1
    · simp [World.cell?, Array.getElem?_eq_none h1] at hc
  exact ⟨h.hlen, h.hcap, h.hmax, fun t ht => (hb.cell (p := ⟨g, off + t * 2, none⟩) (hlt _ _ (h.hname t ht))).trans (h.hname t ht), fun t ht => (hb.cell (p := ⟨g, off + t * 2 + 1, none⟩) (hlt _ _ (h.hvalue t ht))).trans (h.hvalue t ht)⟩
end Go.Proofs.YtibipnipeaeonaaGreatDoor
/-
  TABLES OF FIELDS: what they hold, what is found in them. No claim by itself.
-/
namespace Go.Proofs.YtibipnipeaeonaaGreatDoor
open Go.RowKit
/-- The fields that have numbers from the beginning on. -/
def alwaysL : List (ByteArray × ByteArray) :=
  [(⟨#[58, 109, 101, 116, 104, 111, 100]⟩, ⟨#[71, 69, 84]⟩), (⟨#[58, 109, 101, 116, 104, 111, 100]⟩, ⟨#[80, 79, 83, 84]⟩), (⟨#[58, 112, 97, 116, 104]⟩, ⟨#[47]⟩), (⟨#[58, 104, 111, 115, 116]⟩, ⟨#[]⟩),
   (⟨#[58, 99, 111, 100, 101]⟩, ⟨#[50, 48, 48]⟩), (⟨#[58, 99, 111, 100, 101]⟩, ⟨#[52, 48, 52]⟩), (⟨#[108, 101, 110, 103, 116, 104]⟩, ⟨#[]⟩), (⟨#[116, 121, 112, 101]⟩, ⟨#[116, 101, 120, 116]⟩),
   (⟨#[99, 111, 111, 107, 105, 101]⟩, ⟨#[]⟩), (⟨#[97, 99, 99, 101, 112, 116]⟩, ⟨#[42]⟩), (⟨#[100, 97, 116, 101]⟩, ⟨#[]⟩), (⟨#[115, 101, 114, 118, 101, 114]⟩, ⟨#[]⟩)]
/-- How many of the newest are at most so heavy. -/
def keepN (A : List (ByteArray × ByteArray)) (most : Int) : Nat → Nat
  | 0 => 0
  | n + 1 => if most < (weight (A.take (n + 1)) : Int) then keepN A most n else n + 1
theorem keepN_le (A : List (ByteArray × ByteArray)) (most : Int) : ∀ n, keepN A most n ≤ n
  | 0 => Nat.le_refl _
  | n + 1 => by
    have := keepN_le A most n
    unfold keepN; split <;> omega
theorem eqGuardF : Tryz.prog.eqGuardType Tryz.prog.depth 84 = false := by kernel_rfl
theorem stoodF : Tryz.prog.stoodInHeld 84 = false := by kernel_rfl
/-- Two fields are alike where their texts are. -/
theorem run_eqlF (a b c d : ByteArray) (w : World) : (binOp .eql 84 (.agg #[.string a, .string b]) (.agg #[.string c, .string d])).run Tryz.prog w = .ok (.bool (a.toList == c.toList && b.toList == d.toList)) w := by
  have hu : Tryz.prog.underlying 84 = some (.struct (Tryz.prog.fieldsOf 84)) := by kernel_rfl
  have h9 := Tryz.underlying9
  rw [run_eql_struct, run_equalIn_agg w 9999 84 _ _ hu stoodF]
  simp [Program.fieldsOf, Tryz.underlying84, Op.eqFields, go_sem, h9]
  by_cases h1 : a.toList = c.toList <;> by_cases h2 : b.toList = d.toList <;> simp [h1, h2]
theorem run_neqF (a b c d : ByteArray) (w : World) : (binOp .neq 84 (.agg #[.string a, .string b]) (.agg #[.string c, .string d])).run Tryz.prog w = .ok (.bool (!(a.toList == c.toList && b.toList == d.toList))) w := by
  have hu : Tryz.prog.underlying 84 = some (.struct (Tryz.prog.fieldsOf 84)) := by kernel_rfl
  have h9 := Tryz.underlying9
  rw [run_neq_struct, run_equalIn_agg w 9999 84 _ _ hu stoodF]
  simp [Program.fieldsOf, Tryz.underlying84, Op.eqFields, go_sem, h9]
  by_cases h1 : a.toList = c.toList <;> by_cases h2 : b.toList = d.toList <;> simp [h1, h2]
theorem drewN_below {B : Nat} {w w' : World} (h : Below B w w') : ∀ n, Below B w (w'.drewN n)
  | 0 => h
  | n + 1 => by
    have := drewN_below h n
    exact ⟨this.os, this.tape, this.output, this.size, this.block⟩
theorem hide {p : Prop} (h : p) : Hid p := h
/-- The least number at which something holds; 0: there is none. -/
def fnd (p : ByteArray × ByteArray → Bool) : List (ByteArray × ByteArray) → Nat → Nat
  | [], _ => 0
  | x :: r, i => if p x then i + 1 else fnd p r (i + 1)
theorem fnd_step (p : ByteArray × ByteArray → Bool) (L : List (ByteArray × ByteArray)) (k : Nat) (h : k < L.length) : fnd p (L.drop k) k = if p (L.getD k fnone) then k + 1 else fnd p (L.drop (k + 1)) (k + 1) := by
  have e : L.drop k = L.getD k fnone :: L.drop (k + 1) := by
    rw [List.drop_eq_getElem_cons h]
    simp [List.getD, List.getElem?_eq_getElem h]
  rw [e]; rfl
theorem fnd_le (p : ByteArray × ByteArray → Bool) : ∀ (L : List (ByteArray × ByteArray)) (i : Nat), fnd p L i ≤ i + L.length
  | [], _ => Nat.zero_le _
  | x :: r, i => by
    have := fnd_le p r (i + 1)
    unfold fnd; simp; split <;> omega
def isF (n v : ByteArray) (x : ByteArray × ByteArray) : Bool := x.1.toList == n.toList && x.2.toList == v.toList
def isN (n : ByteArray) (x : ByteArray × ByteArray) : Bool := x.1.toList == n.toList
/-- What a table holds once a field was added, and whether it was. -/
def addL (A : List (ByteArray × ByteArray)) (f : ByteArray × ByteArray) (max : Int) : Bool × List (ByteArray × ByteArray) :=
  if max < (fsize f : Int) then (false, []) else (true, f :: A.take (keepN A (max - fsize f) A.length))
theorem keepN_fits (A : List (ByteArray × ByteArray)) (most : Int) (h0 : 0 ≤ most) : ∀ n, (weight (A.take (keepN A most n)) : Int) ≤ most
  | 0 => by simp [keepN, weight]; exact h0
  | n + 1 => by
    have ih := keepN_fits A most h0 n
    unfold keepN
    split
    · exact ih
    · omega
/-- What a table may hold. -/
structure Fit (max : Int) (A : List (ByteArray × ByteArray)) : Prop where
  h0 : 0 ≤ max
  h1 : max ≤ 4096
  h2 : (weight A : Int) ≤ max
theorem weight_cons (f : ByteArray × ByteArray) (A : List (ByteArray × ByteArray)) : weight (f :: A) = fsize f + weight A := by simp [weight]
theorem weight_len : ∀ (A : List (ByteArray × ByteArray)), 32 * A.length ≤ weight A
  | [] => by simp [weight]
  | f :: A => by
    have := weight_len A
    rw [weight_cons, List.length_cons]
    unfold fsize; omega
theorem Fit.len {max : Int} {A : List (ByteArray × ByteArray)} (h : Fit max A) : A.length ≤ 128 := by
  have h1 := h.h1
  have h2 := h.h2
  have h3 := weight_len A
  omega
theorem Fit.nil {max : Int} (h0 : 0 ≤ max) (h1 : max ≤ 4096) : Fit max [] := ⟨h0, h1, by simpa [weight] using h0⟩
theorem Fit.add {max : Int} {A : List (ByteArray × ByteArray)} (h : Fit max A) (f : ByteArray × ByteArray) : Fit max (addL A f max).2 := by
  unfold addL
  split
  · exact Fit.nil h.h0 h.h1
  · refine ⟨h.h0, h.h1, ?_⟩
    have := keepN_fits A (max - fsize f) (by omega) A.length
    show (weight (f :: A.take (keepN A (max - fsize f) A.length)) : Int) ≤ max
    rw [weight_cons]
    omega
theorem Fit.size {max : Int} {A : List (ByteArray × ByteArray)} (h : Fit max A) (f : ByteArray × ByteArray) (hf : f ∈ A) : f.1.size + f.2.size ≤ 4096 := by
  have h1 := h.h1
  have h2 := h.h2
  obtain ⟨i, hi, e⟩ := List.getElem_of_mem hf
  have h3 := weight_take A i hi
  have h4 := weight_take_le A (i + 1)
  have e2 : A.getD i fnone = f := by simp [List.getD, List.getElem?_eq_getElem hi, e]
  rw [e2] at h3
  have : fsize f = f.1.size + f.2.size + 32 := rfl
  omega
/-- What is found first, is there, and nothing earlier. -/
theorem fnd_hit (p : ByteArray × ByteArray → Bool) : ∀ (L : List (ByteArray × ByteArray)) (i j : Nat), j < L.length → p (L.getD j fnone) = true → i < fnd p L i ∧ fnd p L i ≤ i + j + 1 ∧ p (L.getD (fnd p L i - i - 1) fnone) = true
  | [], _, _, h, _ => by simp at h
  | x :: r, i, j, h, hp => by
    unfold fnd
    by_cases hx : p x = true
    · rw [if_pos hx]
      refine ⟨by omega, by omega, ?_⟩
      rw [show i + 1 - i - 1 = 0 from by omega]
      simpa using hx
    · rw [if_neg hx]
      match j, h, hp with
      | 0, _, hp => simp at hp; exact absurd hp hx
      | j + 1, h, hp =>
        have ih := fnd_hit p r (i + 1) j (by simpa using h) (by simpa using hp)
        obtain ⟨h1, h2, h3⟩ := ih
        refine ⟨by omega, by omega, ?_⟩
        rw [show fnd p r (i + 1) - i - 1 = (fnd p r (i + 1) - (i + 1) - 1) + 1 from by omega, List.getD_cons_succ]
        exact h3
theorem fnd_zero (p : ByteArray × ByteArray → Bool) : ∀ (L : List (ByteArray × ByteArray)) (i : Nat), fnd p L i ≠ 0 → i < fnd p L i ∧ fnd p L i ≤ i + L.length ∧ p (L.getD (fnd p L i - i - 1) fnone) = true
  | [], _, h => absurd rfl h
  | x :: r, i, h => by
    unfold fnd at h ⊢
    by_cases hx : p x = true
    · rw [if_pos hx]
      refine ⟨by omega, by simp, ?_⟩
      rw [show i + 1 - i - 1 = 0 from by omega]
      simpa using hx
    · rw [if_neg hx] at h ⊢
      obtain ⟨h1, h2, h3⟩ := fnd_zero p r (i + 1) h
      refine ⟨by omega, by simp; omega, ?_⟩
      rw [show fnd p r (i + 1) - i - 1 = (fnd p r (i + 1) - (i + 1) - 1) + 1 from by omega, List.getD_cons_succ]
      exact h3
theorem fnd_append (p : ByteArray × ByteArray → Bool) (M : List (ByteArray × ByteArray)) : ∀ (L : List (ByteArray × ByteArray)) (i : Nat), fnd p L i ≠ 0 → fnd p (L ++ M) i = fnd p L i
  | [], _, h => absurd rfl h
  | x :: r, i, h => by
    rw [List.cons_append]
    unfold fnd at h ⊢
    by_cases hx : p x = true
    · rw [if_pos hx, if_pos hx]
    · rw [if_neg hx] at h ⊢
      rw [if_neg hx]
      exact fnd_append p M r (i + 1) h
theorem isF_self (f : ByteArray × ByteArray) : isF f.1 f.2 f = true := by simp [isF]
theorem isN_of_isF {n v : ByteArray} {x : ByteArray × ByteArray} (h : isF n v x = true) : isN n x = true := by
  unfold isF at h; unfold isN
  simp only [Bool.and_eq_true] at h
  exact h.1
theorem always_len : alwaysL.length = 12 := by decide
theorem always_fin : ∀ j : Fin 12, fnd (isF (alwaysL.getD j.val fnone).1 (alwaysL.getD j.val fnone).2) alwaysL 0 = j.val + 1 := by decide +kernel
theorem toList_eq {a b : ByteArray} (h : (a.toList == b.toList) = true) : a = b := by
  have h1 : a.toList = b.toList := by simpa using h
  rw [ByteArray.toList_eq, ByteArray.toList_eq] at h1
  cases a; cases b
  simp at h1
  rw [h1]
theorem isF_eq {n v : ByteArray} {x : ByteArray × ByteArray} (h : isF n v x = true) : x = (n, v) := by
  unfold isF at h
  simp only [Bool.and_eq_true] at h
  exact Prod.ext (toList_eq h.1) (toList_eq h.2)
theorem isN_eq {n : ByteArray} {x : ByteArray × ByteArray} (h : isN n x = true) : x.1 = n := toList_eq h
/-- What stands at a number is found by a number no greater, where the same stands, and its name by one no greater than that. -/
theorem finds_at (A : List (ByteArray × ByteArray)) (i : Nat) (h : i < 12 + A.length) :
    let f := (alwaysL ++ A).getD i fnone
    1 ≤ fnd (isF f.1 f.2) (alwaysL ++ A) 0 ∧ fnd (isF f.1 f.2) (alwaysL ++ A) 0 ≤ i + 1 ∧ (alwaysL ++ A).getD (fnd (isF f.1 f.2) (alwaysL ++ A) 0 - 1) fnone = f ∧
    fnd (isN f.1) (alwaysL ++ A) 0 ≤ fnd (isF f.1 f.2) (alwaysL ++ A) 0 ∧ (i < 12 → fnd (isF f.1 f.2) (alwaysL ++ A) 0 = i + 1) := by
  intro f
  have hl : i < (alwaysL ++ A).length := by rw [List.length_append, always_len]; exact h
  obtain ⟨h1, h2, h3⟩ := fnd_hit (isF f.1 f.2) (alwaysL ++ A) 0 i hl (isF_self f)
  have e3 := isF_eq h3
  rw [Nat.sub_zero] at h3 e3
  have hl2 : fnd (isF f.1 f.2) (alwaysL ++ A) 0 - 1 < (alwaysL ++ A).length := by omega
  obtain ⟨k1, k2, k3⟩ := fnd_hit (isN f.1) (alwaysL ++ A) 0 _ hl2 (isN_of_isF h3)
  refine ⟨by omega, by omega, e3, by omega, fun hi => ?_⟩
  have hf : f = alwaysL.getD i fnone := by
    show (alwaysL ++ A).getD i fnone = _
    simp only [List.getD]
    rw [List.getElem?_append_left (by rw [always_len]; exact hi)]
  have ha := always_fin ⟨i, hi⟩
  rw [hf]
  rw [fnd_append _ _ _ _ (by rw [ha]; simp), ha]
end Go.Proofs.YtibipnipeaeonaaGreatDoor
/-
  WHAT IS ASKED of the Go functions of package line: their contracts, as statements. No claim by itself.
-/
namespace Go.Proofs.YtibipnipeaeonaaGreatDoor
open Go.RowKit
set_option maxRecDepth 100000
/- texts as bytes -/
theorem unums_inj {s t : ByteArray} (h : unums s = unums t) : s = t := by
  apply ByteArray.ext
  apply Array.ext'
  unfold unums at h
  have inj : Function.Injective (fun c : UInt8 => (c.toNat : Int)) := fun a b e => by
    apply UInt8.toNat_inj.1
    have e' : ((a.toNat : Int)) = ((b.toNat : Int)) := e
    omega
  exact (List.map_inj_right (fun a b e => inj e)).1 h
theorem unums_nil {s : ByteArray} : unums s = [] ↔ s.size = 0 := by
  rw [← List.length_eq_zero_iff, unums_len]
theorem bytes_unums (s : ByteArray) : Bytes (unums s) := by
  intro x hx
  obtain ⟨c, _, rfl⟩ := List.mem_map.1 hx
  have := c.toNat_lt
  omega
theorem str_unums (s : ByteArray) : strOfNums (unums s) = s := by
  apply ByteArray.ext
  apply Array.ext'
  rw [strOfNums_data]
  unfold unums
  rw [List.map_map]
  conv => rhs; rw [← List.map_id s.data.toList]
  apply List.map_congr_left
  intro c _
  simp [Function.comp]
theorem unums_str {L : List Int} (h : Bytes L) : unums (strOfNums L) = L := by
  unfold unums
  rw [strOfNums_data, List.map_map]
  conv => rhs; rw [← List.map_id L]
  apply List.map_congr_left
  intro x hx
  have := h x hx
  simp [Function.comp]
  omega
theorem unums_app (s t : ByteArray) : unums (s ++ t) = unums s ++ unums t := by
  unfold unums
  rw [ByteArray.data_append]
  simp
/- requests and replies in memory -/
/-- Fields that are handed in: none, or a row. -/
def FArg (w : World) (a : Option Addr) (len cap : Nat) (L : List (ByteArray × ByteArray)) : Prop :=
  (len = 0 ∧ L = []) ∨ ∃ g off, a = some ⟨g, off, none⟩ ∧ FRow w g off len cap L
theorem FArg.below {w w' : World} {a : Option Addr} {len cap : Nat} {L : List (ByteArray × ByteArray)} (h : FArg w a len cap L) (hb : Below w.heap.size w w') : FArg w' a len cap L := by
  rcases h with h | ⟨g, off, ha, hr⟩
  · exact Or.inl h
  · exact Or.inr ⟨g, off, ha, hr.below hb⟩
theorem FArg.len {w : World} {a : Option Addr} {len cap : Nat} {L : List (ByteArray × ByteArray)} (h : FArg w a len cap L) : L.length = len := by
  rcases h with ⟨rfl, rfl⟩ | ⟨g, off, _, hr⟩
  · rfl
  · exact hr.hlen
/-- A request as it lies in memory. -/
structure RqM where
  m : ByteArray
  p : ByteArray
  h : ByteArray
  fa : Option Addr
  fn : Nat
  fc : Nat
  ba : Option Addr
  bn : Nat
  bc : Nat
  FL : List (ByteArray × ByteArray)
  B : List Int
def RqM.val (q : RqM) : Value := .agg #[.string q.m, .string q.p, .string q.h, .slice q.fa q.fn q.fc, .slice q.ba q.bn q.bc]
def fdsOf (L : List (ByteArray × ByteArray)) : List Fd := L.map fun f => (unums f.1, unums f.2)
def RqM.rq (q : RqM) : Rq := ⟨unums q.m, unums q.p, unums q.h, fdsOf q.FL, q.B⟩
/-- What is known of it. -/
structure RqIn (w : World) (q : RqM) : Prop where
  fields : FArg w q.fa q.fn q.fc q.FL
  body : Arg w q.ba q.bn q.bc q.B
  nil : q.ba = none → q.bn = 0 ∧ q.bc = 0
  most : q.fn ≤ 4611686018427387904 ∧ q.bn ≤ 140737488351232
  texts : q.m.size ≤ 140737488351232 ∧ q.p.size ≤ 140737488351232 ∧ q.h.size ≤ 140737488351232
  each : ∀ t, (q.FL.getD t fnone).1.size ≤ 140737488351232 ∧ (q.FL.getD t fnone).2.size ≤ 140737488351232
theorem RqIn.below {w w' : World} {q : RqM} (h : RqIn w q) (hb : Below w.heap.size w w') : RqIn w' q := ⟨h.fields.below hb, h.body.below hb, h.nil, h.most, h.texts, h.each⟩
structure RpM where
  code : Int
  fa : Option Addr
  fn : Nat
  fc : Nat
  ba : Option Addr
  bn : Nat
  bc : Nat
  FL : List (ByteArray × ByteArray)
  B : List Int
def RpM.val (q : RpM) : Value := .agg #[.int .i64 q.code, .slice q.fa q.fn q.fc, .slice q.ba q.bn q.bc]
def RpM.rp (q : RpM) : Rp := ⟨q.code, fdsOf q.FL, q.B⟩
structure RpIn (w : World) (q : RpM) : Prop where
  code : I64 q.code
  fields : FArg w q.fa q.fn q.fc q.FL
  body : Arg w q.ba q.bn q.bc q.B
  nil : q.ba = none → q.bn = 0 ∧ q.bc = 0
  most : q.fn ≤ 4611686018427387904 ∧ q.bn ≤ 140737488351232
  each : ∀ t, (q.FL.getD t fnone).1.size ≤ 140737488351232 ∧ (q.FL.getD t fnone).2.size ≤ 140737488351232
theorem RpIn.below {w w' : World} {q : RpM} (h : RpIn w q) (hb : Below w.heap.size w w') : RpIn w' q := ⟨h.code, h.fields.below hb, h.body.below hb, h.nil, h.most, h.each⟩
/-- What is known of package-level variables, and stays. -/
structure NLd where
  P : World → Prop
  below : ∀ {w w' : World}, P w → Below w.heap.size w w' → P w'
/- what is asked -/
def askOut (r : Rq) : List Int := if askE r = 0 then askL r else []
def tellOut (a : Rp) (size : Int) : List Int := if tellE a size = 0 then tellL a size else []
def NTokSaid (D : NLd) : Prop := ∀ (s : ByteArray) (w : World), D.P w → s.size ≤ 140737488351232 → Calls Tryz.prog 65 #[.string s] w fun e w' => e = .returned (.bool (tokL (unums s))) ∧ Below w.heap.size w w'
end Go.Proofs.YtibipnipeaeonaaGreatDoor
