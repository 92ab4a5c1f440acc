/-
  WHERETO: the developers' leads, what fits, isCloser. No claim by itself.
-/
import Derived.Test.YtmjdfbbhlbecdaaDoorWh4
namespace Go.Proofs.YtmjdfbbhlbecdaaDoor
open Go Go.RowKit
set_option maxRecDepth 100000
attribute [local go_sem] run_store_func run_store_nilFunc
theorem getD_drop (l : List Int) (n : Nat) : l.getD n 0 = (l.drop n).headD 0 := by
  rw [List.getD, List.headD_eq_head?_getD, List.head?_drop]
theorem leads_is (p path : List Int) : leadsL p path = (p.isPrefixOf path && (decide (path.drop p.length = []) || begins 47 (path.drop p.length) || endsC 47 p)) := by
  unfold leadsL
  cases hp : p.isPrefixOf path with
  | false => rfl
  | true =>
    have hle := (pre_iff.1 hp).1
    rw [Bool.true_and, Bool.true_and]
    have e1 : decide (path.length = p.length) = decide (path.drop p.length = []) := by
      rw [Bool.eq_iff_iff]
      simp only [decide_eq_true_eq, List.drop_eq_nil_iff]
      omega
    have e2 : decide (path.getD p.length 0 = 47) = begins 47 (path.drop p.length) := by
      rw [getD_drop]
      unfold begins
      cases path.drop p.length with
      | nil => rfl
      | cons x r => simp
    have e3 : decide (p.getLastD 0 = 47) = endsC 47 p := by
      unfold endsC
      cases p with
      | nil => rfl
      | cons x r => simp
    rw [e1, e2, e3]
theorem un_trimP {s p : ByteArray} (h : (unums p).isPrefixOf (unums s) = true) : unums (trimP s p) = (unums s).drop (unums p).length := by
  unfold trimP
  rw [if_pos h, un_drop, unums_len]
theorem wleads_any (p path : ByteArray) (w : World) (hp : p.size ≤ 140737488351232) :
    Calls Tryd.prog 25 #[.string p, .string path] w fun e w' => e = .returned (.bool (leadsL (unums p) (unums path))) ∧ w = w' := by
  have H1 := vl (scutp_any path p w)
  have H3 := vl (fun W => shass_any p 47 W hp)
  have HU := vl (fun h => un_trimP (s := path) (p := p) h)
  rw [leads_is]
  rw [show (((47 : UInt8).toNat : Nat) : Int) = 47 from rfl] at H3
  generalize (unums p).isPrefixOf (unums path) = b1 at *
  generalize endsC 47 (unums p) = b3 at *
  cases b1 with
  | false =>
    generalize trimP path p = t at *
    go_enter Tryd.func25, Tryd.ntmps25
    go_wp2_with fail
    refine H1.out.mono ?_
    rintro e w' ⟨rfl, rfl⟩
    go_wp2_with fail
    go_ret
    exact ⟨rfl, rfl⟩
  | true =>
    have HV := vl (HU.out rfl)
    generalize trimP path p = t at *
    have H2 := vl (fun W => slash_any t W)
    rw [← HV.out]
    have e0 : decide (unums t = []) = (t.toList == []) := by rw [un_beqlit]; rfl
    rw [e0]
    clear e0
    generalize begins 47 (unums t) = b2 at *
    clear HU HV
    by_cases q : t.toList = []
    · have q' : (t.toList == []) = true := by simpa using q
      rw [q']
      go_enter Tryd.func25, Tryd.ntmps25
      go_wp2_with fail
      refine H1.out.mono ?_
      rintro e w' ⟨rfl, rfl⟩
      go_wp2_with fail
      go_ret
      exact ⟨rfl, rfl⟩
    · have q' : (t.toList == []) = false := by simpa using q
      rw [q']
      cases b2 with
      | true =>
        go_enter Tryd.func25, Tryd.ntmps25
        go_wp2_with fail
        refine H1.out.mono ?_
        rintro e w' ⟨rfl, rfl⟩
        go_wp2_with fail
        refine (H2.out _).mono ?_
        rintro e w' ⟨rfl, rfl⟩
        go_wp2_with fail
        go_ret
        exact ⟨rfl, rfl⟩
      | false =>
        go_enter Tryd.func25, Tryd.ntmps25
        go_wp2_with fail
        refine H1.out.mono ?_
        rintro e w' ⟨rfl, rfl⟩
        go_wp2_with fail
        refine (H2.out _).mono ?_
        rintro e w' ⟨rfl, rfl⟩
        go_wp2_with fail
        refine (H3.out _).mono ?_
        rintro e w' ⟨rfl, rfl⟩
        go_wp2_with fail
        go_ret
        exact ⟨rfl, rfl⟩
theorem wfc_any (host path : ByteArray) (hg pg : Nat) (r : Rb) (w : World) (hr : Sz3 r) (ch : w.cell? ⟨hg, 0, none⟩ = some (.string host)) (cp : w.cell? ⟨pg, 0, none⟩ = some (.string path)) :
    Calls Tryd.prog 24 #[.agg #[.string r.1, .string r.2.1, .string r.2.2], .pointer (some ⟨hg, 0, none⟩), .pointer (some ⟨pg, 0, none⟩)] w fun e w' => e = .returned (.bool (fitsR (unums host) (unums path) (rtO r))) ∧ Below w.heap.size w w' := by
  obtain ⟨x, y, z⟩ := r
  obtain ⟨s1, s2, s3⟩ := hr
  have hgl := blk_of_cell ch
  have pgl := blk_of_cell cp
  have e : fitsR (unums host) (unums path) (rtO (x, y, z)) = (((x.toList == host.toList) || (x.toList == [])) && leadsL (unums y) (unums path)) := by rw [un_beq, un_beqlit]; rfl
  rw [e]
  clear e
  have d0 : (w.alloc (.cells #[.string x, .string y, .string z] 33)).cell? ⟨hg, 0, none⟩ = some (.string host) := (((Below.refl _ w).alloc (Nat.le_refl _) _).cell (p := ⟨hg, 0, none⟩) hgl).trans ch
  have d1 : (w.alloc (.cells #[.string x, .string y, .string z] 33)).cell? ⟨pg, 0, none⟩ = some (.string path) := (((Below.refl _ w).alloc (Nat.le_refl _) _).cell (p := ⟨pg, 0, none⟩) pgl).trans cp
  have H := vl (fun W => wleads_any y path W s2)
  generalize leadsL (unums y) (unums path) = b at *
  have HB : Vl (Below w.heap.size w (w.alloc (.cells #[.string x, .string y, .string z] 33))) := (Below.refl _ w).alloc (Nat.le_refl _) _
  obtain ⟨u, hu⟩ : ∃ u, (x.toList == host.toList) = u := ⟨_, rfl⟩
  obtain ⟨v, hv⟩ : ∃ v, (x.toList == []) = v := ⟨_, rfl⟩
  rw [hu, hv]
  cases u with
  | true =>
    go_enter Tryd.func24, Tryd.ntmps24
    go_wp2_with fail
    refine (H.out _).mono ?_
    rintro e w' ⟨rfl, rfl⟩
    go_wp2_with fail
    go_ret
    exact ⟨rfl, HB.out⟩
  | false =>
    cases v with
    | true =>
      go_enter Tryd.func24, Tryd.ntmps24
      go_wp2_with fail
      refine (H.out _).mono ?_
      rintro e w' ⟨rfl, rfl⟩
      go_wp2_with fail
      go_ret
      exact ⟨rfl, HB.out⟩
    | false =>
      go_enter Tryd.func24, Tryd.ntmps24
      go_wp2_with fail
      go_ret
      exact ⟨rfl, HB.out⟩
theorem prd_fits {w : World} {host path : ByteArray} {hg pg : Nat} (ch : w.cell? ⟨hg, 0, none⟩ = some (.string host)) (cp : w.cell? ⟨pg, 0, none⟩ = some (.string path)) :
    PrdR w (.func (.func 24) #[] #[.pointer (some ⟨hg, 0, none⟩), .pointer (some ⟨pg, 0, none⟩)]) (fitsR (unums host) (unums path)) :=
  ⟨24, _, rfl, enters_of Tryd.func24 (by kernel_rfl) rfl, fun W q hq hb => wfc_any host path hg pg q W hq ((hb.cell (p := ⟨hg, 0, none⟩) (blk_of_cell ch)).trans ch) ((hb.cell (p := ⟨pg, 0, none⟩) (blk_of_cell cp)).trans cp)⟩
/-- Is a route closer than another one? -/
def closerB (r t : Rt) : Bool := if r.2.1.length = t.2.1.length then !decide (r.1 = []) && decide (t.1 = []) else decide (t.2.1.length < r.2.1.length)
theorem wisc_any (r t : Rb) (w : World) :
    Calls Tryd.prog 40 #[.agg #[.string r.1, .string r.2.1, .string r.2.2], .agg #[.string t.1, .string t.2.1, .string t.2.2]] w fun e w' => e = .returned (.bool (closerB (rtO r) (rtO t))) ∧ Below w.heap.size w w' := by
  obtain ⟨x, y, z⟩ := r
  obtain ⟨a, b, c⟩ := t
  have e : closerB (rtO (x, y, z)) (rtO (a, b, c)) = if y.size = b.size then !(x.toList == []) && (a.toList == []) else decide (b.size < y.size) := by
    rw [un_beqlit, un_beqlit]
    unfold closerB rtO
    simp only [unums_len]
    rfl
  rw [e]
  clear e
  have HB : Vl (Below w.heap.size w ((w.alloc (.cells #[.string x, .string y, .string z] 33)).alloc (.cells #[.string a, .string b, .string c] 33))) := ((Below.refl _ w).alloc (Nat.le_refl _) _).alloc (by simp) _
  by_cases h : y.size = b.size
  · rw [if_pos h]
    have h' : (y.size : Int) = (b.size : Int) := by omega
    have h2 : ((y.size : Int) != (b.size : Int)) = false := by simpa using h'
    have h3 : ((y.size : Int) == (b.size : Int)) = true := by simpa using h'
    by_cases q : x.toList = []
    · have q' : (x.toList == []) = true := by simpa using q
      have q2 : (x.toList != []) = false := by simpa using q
      rw [q']
      clear h
      go_enter Tryd.func40, Tryd.ntmps40
      go_wp2
      go_ret
      exact ⟨rfl, HB.out⟩
    · have q' : (x.toList == []) = false := by simpa using q
      have q2 : (x.toList != []) = true := by simpa using q
      rw [q']
      clear h
      go_enter Tryd.func40, Tryd.ntmps40
      go_wp2
      go_ret
      refine ⟨?_, HB.out⟩
      first | rfl | simp
  · rw [if_neg h]
    have h' : ¬ (y.size : Int) = (b.size : Int) := by omega
    have h2 : ((y.size : Int) != (b.size : Int)) = true := by simpa using h'
    have h3 : ((y.size : Int) == (b.size : Int)) = false := by simpa using h'
    have h4 : decide (b.size < y.size) = decide ((b.size : Int) < (y.size : Int)) := by rw [Bool.eq_iff_iff]; simp
    rw [h4]
    go_enter Tryd.func40, Tryd.ntmps40
    go_wp2
    go_ret
    refine ⟨?_, HB.out⟩
    first | rfl | simp
end Go.Proofs.YtmjdfbbhlbecdaaDoor
