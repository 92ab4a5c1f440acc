/-
  FROM THE ONE TO THE OTHER: the document's FieldsAsk. No claim by itself.
-/
import Derived.Test.YtglmppadhlkkgagGreatDoorRak3X
namespace Go.Proofs.YtglmppadhlkkgagGreatDoor
open Go Go.RowKit
set_option maxRecDepth 100000
theorem rL_host {n : ByteArray} : n.toList = [104, 111, 115, 116] ↔ unums n = hostN := toL_lit
theorem rL_method {n : ByteArray} : n.toList = [58, 109, 101, 116, 104, 111, 100] ↔ unums n = methodP := toL_lit
theorem rL_path {n : ByteArray} : n.toList = [58, 112, 97, 116, 104] ↔ unums n = pathP := toL_lit
theorem rL_hostp {n : ByteArray} : n.toList = [58, 104, 111, 115, 116] ↔ unums n = hostP := toL_lit
theorem lt_cell' {w : World} {g o : Nat} {v : Value} (h : w.cell? ⟨g, o, none⟩ = some v) : g < w.heap.size := by
  rcases Nat.lt_or_ge g w.heap.size with h1 | h1
  · exact h1
  · simp [World.cell?, Array.getElem?_eq_none h1] at h
/-- Which of the three names it is, of the first j. -/
def idxJ (n : List Int) (j : Nat) : Int := if 3 ≤ j ∧ n = hostP then 2 else if 2 ≤ j ∧ n = pathP then 1 else if 1 ≤ j ∧ n = methodP then 0 else -1
theorem idx_zero (n : List Int) : idxJ n 0 = -1 := by unfold idxJ; simp
theorem idx_one (n : List Int) : idxJ n 1 = if n = methodP then 0 else -1 := by unfold idxJ; simp
theorem idx_two (n : List Int) : idxJ n 2 = if n = pathP then 1 else idxJ n 1 := by unfold idxJ; simp
theorem idx_three (n : List Int) : idxJ n 3 = if n = hostP then 2 else idxJ n 2 := by unfold idxJ; simp
section
variable {w wr : World} {ba : Option Addr} {bn bc : Nat} {tm tp th : ByteArray} {sm sp sh : Bool} {rv : Value} {RL : List (ByteArray × ByteArray)} (h : AS w wr ba bn bc tm tp th sm sp sh rv RL)
include h
theorem AS.oth (i : Nat) (v : ByteArray) : FOwn ((wr.setCell ⟨w.heap.size + 2, i, none⟩ (.bool true)).setCell ⟨w.heap.size + 1, i, none⟩ (.string v)) (w.heap.size + 4) rv RL := fown_set (fown_set h.own (by omega)) (by omega)
theorem AS.set0 (v : ByteArray) : AS w ((wr.setCell ⟨w.heap.size + 2, 0, none⟩ (.bool true)).setCell ⟨w.heap.size + 1, 0, none⟩ (.string v)) ba bn bc v tp th true sp sh rv RL := by
  obtain ⟨b, o⟩ := h.sets 0 v
  have k1 := h.sn
  have k2 : wr.heap[w.heap.size + 1]? = some (.cells #[.string tm, .string tp, .string th, .slice none 0 0, .slice ba bn bc] 25 (0, 0)) := h.rb
  refine ⟨b, (o _ (by omega) (by omega)).trans h.zb, ?_, ?_, (o _ (by omega) (by omega)).trans h.nm, h.oth 0 v⟩
  · unfold RB World.setCell
    rw [Array.getElem?_modify, Array.getElem?_modify]
    simp [k2]
  · unfold World.setCell
    rw [Array.getElem?_modify, Array.getElem?_modify]
    simp [k1]
theorem AS.set1 (v : ByteArray) : AS w ((wr.setCell ⟨w.heap.size + 2, 1, none⟩ (.bool true)).setCell ⟨w.heap.size + 1, 1, none⟩ (.string v)) ba bn bc tm v th sm true sh rv RL := by
  obtain ⟨b, o⟩ := h.sets 1 v
  have k1 := h.sn
  have k2 : wr.heap[w.heap.size + 1]? = some (.cells #[.string tm, .string tp, .string th, .slice none 0 0, .slice ba bn bc] 25 (0, 0)) := h.rb
  refine ⟨b, (o _ (by omega) (by omega)).trans h.zb, ?_, ?_, (o _ (by omega) (by omega)).trans h.nm, h.oth 1 v⟩
  · unfold RB World.setCell
    rw [Array.getElem?_modify, Array.getElem?_modify]
    simp [k2]
  · unfold World.setCell
    rw [Array.getElem?_modify, Array.getElem?_modify]
    simp [k1]
theorem AS.set2 (v : ByteArray) : AS w ((wr.setCell ⟨w.heap.size + 2, 2, none⟩ (.bool true)).setCell ⟨w.heap.size + 1, 2, none⟩ (.string v)) ba bn bc tm tp v sm sp true rv RL := by
  obtain ⟨b, o⟩ := h.sets 2 v
  have k1 := h.sn
  have k2 : wr.heap[w.heap.size + 1]? = some (.cells #[.string tm, .string tp, .string th, .slice none 0 0, .slice ba bn bc] 25 (0, 0)) := h.rb
  refine ⟨b, (o _ (by omega) (by omega)).trans h.zb, ?_, ?_, (o _ (by omega) (by omega)).trans h.nm, h.oth 2 v⟩
  · unfold RB World.setCell
    rw [Array.getElem?_modify, Array.getElem?_modify]
    simp [k2]
  · unfold World.setCell
    rw [Array.getElem?_modify, Array.getElem?_modify]
    simp [k1]
end
def AskIn (w wr : World) (ba : Option Addr) (bn bc : Nat) (L : List (ByteArray × ByteArray)) (k : Nat) (rv : Value) : Prop :=
  ∃ tm tp th sm sp sh RL, AS w wr ba bn bc tm tp th sm sp sh rv RL ∧ PsI L k tm tp th sm sp sh RL ∧ RL.length ≤ k ∧ (∀ p ∈ RL, p ∈ L) ∧ tm.size ≤ 1048576 ∧ tp.size ≤ 1048576 ∧ th.size ≤ 1048576
set_option maxHeartbeats 40000000 in
theorem raskf_any (a : Option Addr) (len cap : Nat) (L : List (ByteArray × ByteArray)) (ba : Option Addr) (bn bc : Nat) (B : List Int) (w : World) (hA : FArg w a len cap L) (hl : len ≤ 1048576) (hs : ∀ t, (L.getD t fnone).1.size ≤ 140737488351232 ∧ (L.getD t fnone).2.size ≤ 1048576)
    (hB : Arg w ba bn bc B) (hnil : ba = none → bn = 0 ∧ bc = 0) (hbn : bn ≤ 1048576) : Calls Tryz.prog 12 #[.slice a len cap, .slice ba bn bc] w (RAskE L B w) := by
  have HS := vl hs
  have HBB := vl hB
  have HNI := vl hnil
  have HLn := vl hA.len
  have HA : Vl (∀ wx, Below w.heap.size w wx → FArg wx a len cap L) := fun wx hb => hA.below hb
  clear hs hB hnil hA
  obtain ⟨W0, hW0⟩ : ∃ x, x = (((w.alloc (.cells #[.string ⟨#[]⟩, .string ⟨#[]⟩, .string ⟨#[]⟩, .slice none 0 0, .slice none 0 0] 25)).alloc (.cells #[.string ⟨#[]⟩, .string ⟨#[]⟩, .string ⟨#[]⟩, .slice none 0 0, .slice ba bn bc] 25)).alloc (.cells #[.bool false, .bool false, .bool false] 90)).alloc (.cells #[.string ⟨#[58, 109, 101, 116, 104, 111, 100]⟩, .string ⟨#[58, 112, 97, 116, 104]⟩, .string ⟨#[58, 104, 111, 115, 116]⟩] 9) := ⟨_, rfl⟩
  have HAS0 : Vl (AS w W0 ba bn bc ⟨#[]⟩ ⟨#[]⟩ ⟨#[]⟩ false false false (.slice none 0 0) []) := vl (by
    obtain ⟨w1, h1⟩ : ∃ w1, w1 = w.alloc (.cells #[.string ⟨#[]⟩, .string ⟨#[]⟩, .string ⟨#[]⟩, .slice none 0 0, .slice none 0 0] 25) := ⟨_, rfl⟩
    obtain ⟨w2, h2⟩ : ∃ w2, w2 = w1.alloc (.cells #[.string ⟨#[]⟩, .string ⟨#[]⟩, .string ⟨#[]⟩, .slice none 0 0, .slice ba bn bc] 25) := ⟨_, rfl⟩
    obtain ⟨w3, h3⟩ : ∃ w3, w3 = w2.alloc (.cells #[.bool false, .bool false, .bool false] 90) := ⟨_, rfl⟩
    rw [← h1, ← h2, ← h3] at hW0
    have s1 : w1.heap.size = w.heap.size + 1 := by rw [h1]; simp
    have s2 : w2.heap.size = w.heap.size + 2 := by rw [h2]; simp [s1]
    have s3 : w3.heap.size = w.heap.size + 3 := by rw [h3]; simp [s2]
    have b1 : Below w.heap.size w w1 := by rw [h1]; exact (Below.refl _ w).alloc (Nat.le_refl _) _
    have b2 : Below w1.heap.size w1 w2 := by rw [h2]; exact (Below.refl _ w1).alloc (Nat.le_refl _) _
    have b3 : Below w2.heap.size w2 w3 := by rw [h3]; exact (Below.refl _ w2).alloc (Nat.le_refl _) _
    have b4 : Below w3.heap.size w3 W0 := by rw [hW0]; exact (Below.refl _ w3).alloc (Nat.le_refl _) _
    have e1 : RB w1 w.heap.size ⟨#[]⟩ ⟨#[]⟩ ⟨#[]⟩ (.slice none 0 0) (.slice none 0 0) := by rw [h1]; exact heap_alloc_new w _
    have e2 : RB w2 (w.heap.size + 1) ⟨#[]⟩ ⟨#[]⟩ ⟨#[]⟩ (.slice none 0 0) (.slice ba bn bc) := by rw [h2, ← s1]; exact heap_alloc_new w1 _
    have e3 : w3.heap[w.heap.size + 2]? = some (.cells #[.bool false, .bool false, .bool false] 90 (0, 0)) := by rw [h3, ← s2]; exact heap_alloc_new w2 _
    have e4 : W0.heap[w.heap.size + 3]? = some (.cells #[.string ⟨#[58, 109, 101, 116, 104, 111, 100]⟩, .string ⟨#[58, 112, 97, 116, 104]⟩, .string ⟨#[58, 104, 111, 115, 116]⟩] 9 (0, 0)) := by rw [hW0, ← s3]; exact heap_alloc_new w3 _
    exact ⟨((b1.trans (b2.mono (by omega))).trans (b3.mono (by omega))).trans (b4.mono (by omega)), ((e1.on b2).on b3).on b4, (e2.on b3).on b4, (b4.block _ (by omega)).trans e3, e4, fown_nil _ _⟩)
  go_enter Tryz.func12, Tryz.ntmps12
  go_wp2_with fail
  rw [← hW0]
  clear hW0
  go_loopw [8, 10, 11, 12, 81, 89, 97] (fun rv i _ _ _ _ _ wr => ∃ (k : Nat), i = .int .i64 k ∧ k ≤ len ∧ Vl (AskIn w wr ba bn bc L k rv)) (fun _ i _ _ _ _ _ _ => len - (intOf i).toNat)
  case atStart => exact ⟨0, rfl, Nat.zero_le _, vl ⟨_, _, _, _, _, _, [], HAS0.out, psI_begin L _, Nat.le_refl _, (fun p hp => by cases hp), by decide, by decide, by decide⟩⟩
  case round =>
    obtain ⟨k, rfl, hk, HIn⟩ := hrel
    clear HAS0
    obtain ⟨tm, tp, th, sm, sp, sh, RL, hAS, hPS, hRL, hMem, hT1, hT2, hT3⟩ := HIn.out
    have HAS := vl hAS
    have HPS := vl hPS
    have HMem := vl hMem
    clear hAS hPS hMem HIn
    have HBX := vl HAS.out.old
    have HPX := vl HAS.out.zb
    by_cases h1 : k < len
    case pos =>
      have p1 : (k : Int) < (len : Int) := by omega
      obtain ⟨g, off, rfl, hrow⟩ : ∃ g off, a = some ⟨g, off, none⟩ ∧ FRow wr g off len cap L := by
        rcases HA.out wr HBX.out with ⟨h0, _⟩ | ⟨g, off, ha, hr⟩
        · omega
        · exact ⟨g, off, ha, hr⟩
      have cn := hrow.hname k h1
      have cv := hrow.hvalue k h1
      have hcap := hrow.hcap
      have hmax := hrow.hmax
      obtain ⟨n, hn⟩ : ∃ n, n = (L.getD k fnone).1 := ⟨_, rfl⟩
      obtain ⟨v, hv⟩ : ∃ v, v = (L.getD k fnone).2 := ⟨_, rfl⟩
      rw [← hn] at cn
      rw [← hv] at cv
      have HNn := vl hn
      have HNv := vl hv
      have hgl : g < w.heap.size := by
        rcases HA.out w (Below.refl _ _) with ⟨h0, _⟩ | ⟨g', off', ha, hr⟩
        · omega
        · injection ha with ha
          injection ha with e1 e2
          rw [e1]
          exact lt_cell' (hr.hname k h1)
      have hVS : v.size ≤ 1048576 := by rw [hv]; exact (HS.out k).2
      have HKL : Vl (k < L.length) := vl (by rw [HLn.out]; exact h1)
      have HIM : Vl ((n, v) ∈ L) := vl (by
        rw [hn, hv]
        have : L.getD k fnone = L[k]'HKL.out := by simp [List.getD, List.getElem?_eq_getElem HKL.out]
        rw [this]
        exact List.getElem_mem _)
      clear hrow hn hv
      have AREST : Vl (psdL (unums n) = false → ∀ rv' wx, FOwn wx (w.heap.size + 4) rv' (RL ++ [(n, v)]) → (wr.alloc (.cells #[.string n, .string v] 51)).grownBy wx u8.ownBlock → AskIn w wx ba bn bc L (k + 1) rv') := vl (fun hp rv' wx ho hg => ⟨tm, tp, th, sm, sp, sh, RL ++ [(n, v)], HAS.out.app ho hg, HPS.out.rest HKL.out HNn.out HNv.out hp, by simp; omega, (fun p hp => by
        rcases List.mem_append.1 hp with hp | hp
        · exact HMem.out p hp
        · rw [List.mem_singleton.1 hp]; exact HIM.out), hT1, hT2, hT3⟩)
      have LL : Vl (RL.length < 4398046511104) := vl (by omega)
      have SZ : Vl (w.heap.size + 4 ≤ wr.heap.size) := vl HAS.out.lt
      by_cases e1 : n.toList = []
      · have e2 : (n.toList == []) = true := by simpa using e1
        have HP0 := vl (rpsd_nil e1)
        have HOA := vl (fown_below HAS.out.own ((Below.refl _ _).alloc (Nat.le_refl _) (.cells #[.string n, .string v] 51)))
        have HHB : Vl ((wr.alloc (.cells #[.string n, .string v] 51)).heap[wr.heap.size]? = some (.cells #[.string n, .string v] 51 (0, 0))) := vl (heap_alloc_new wr _)
        go_wp2_with (at_builtin; refine wpList_fappA _ rfl _ _ rfl (w.heap.size + 4) u8 RL n v rfl HOA.out wr.heap.size rfl HHB.out LL.out (by rw [World.size_alloc]; exact Nat.le_succ_of_le SZ.out) ?_)
        intro lv5 w5 ho5 hg5 _
        have HN := vl (AREST.out HP0.out lv5 w5 ho5 hg5)
        clear ho5 hg5
        go_wp2
        go_roundw
        case rel => exact ⟨k + 1, by go_num, by omega, HN⟩
        case measure => first | (simp [intOf]; done) | (simp [intOf]; omega)
      have e2 : (n.toList == []) = false := by simpa using e1
      have hsz := nil_size e1
      have hsz' : (0 : Int) < (n.size : Int) := by omega
      have ix := unums_at n 0 hsz
      have HPG := vl (psd_get e1)
      by_cases c1 : (unums n).getD 0 0 = 58
      case neg =>
        have HP0 : Vl (psdL (unums n) = false) := vl (by rw [HPG.out]; exact decide_eq_false c1)
        clear HPG
        generalize (unums n).getD 0 0 = c0 at *
        have c2 : (c0 == 58) = false := by simpa using c1
        have c3 : (c0 != 58) = true := by simpa using c1
        have HOA := vl (fown_below HAS.out.own ((Below.refl _ _).alloc (Nat.le_refl _) (.cells #[.string n, .string v] 51)))
        have HHB : Vl ((wr.alloc (.cells #[.string n, .string v] 51)).heap[wr.heap.size]? = some (.cells #[.string n, .string v] 51 (0, 0))) := vl (heap_alloc_new wr _)
        go_wp2_with (at_builtin; refine wpList_fappA _ rfl _ _ rfl (w.heap.size + 4) u8 RL n v rfl HOA.out wr.heap.size rfl HHB.out LL.out (by rw [World.size_alloc]; exact Nat.le_succ_of_le SZ.out) ?_)
        intro lv5 w5 ho5 hg5 _
        have HN := vl (AREST.out HP0.out lv5 w5 ho5 hg5)
        clear ho5 hg5
        go_wp2
        go_roundw
        case rel => exact ⟨k + 1, by go_num, by omega, HN⟩
        case measure => first | (simp [intOf]; done) | (simp [intOf]; omega)
      rw [c1] at ix
      have HPT : Vl (psdL (unums n) = true) := vl (by rw [HPG.out, c1]; rfl)
      clear c1 HPG
      obtain ⟨wB, hwB⟩ : ∃ wB, wB = wr := ⟨_, rfl⟩
      subst hwB
      go_wp2_with fail
      go_loopw [11, 12] (fun kv jv wq => ∃ (j : Nat), jv = .int .i64 j ∧ kv = .int .i64 (idxJ (unums n) j) ∧ j ≤ 3 ∧ Vl (Below wB.heap.size wB wq)) (fun _ jv _ => 3 - (intOf jv).toNat)
      case atStart => exact ⟨0, rfl, by rw [idx_zero], by omega, vl (Below.refl _ _)⟩
      case round =>
        obtain ⟨j, rfl, rfl, hj, HBQ⟩ := hrel
        have HASQ := vl (HAS.out.below HBQ.out)
        have hfq := HA.out wr HASQ.out.old
        have cnq : wr.cell? ⟨g, off + k * 2, none⟩ = some (.string n) := (HBQ.out.cell (p := ⟨g, off + k * 2, none⟩) (lt_cell' cn)).trans cn
        have cvq : wr.cell? ⟨g, off + k * 2 + 1, none⟩ = some (.string v) := (HBQ.out.cell (p := ⟨g, off + k * 2 + 1, none⟩) (lt_cell' cv)).trans cv
        obtain ⟨m0, m1, m2⟩ := HASQ.out.names
        clear hfq
        by_cases j0 : j = 0
        · subst j0
          rw [idx_zero]
          by_cases q : n.toList = [58, 109, 101, 116, 104, 111, 100]
          · have q' : (n.toList == [58, 109, 101, 116, 104, 111, 100]) = true := by simpa using q
            have HIX : Vl (idxJ (unums n) 1 = 0) := vl (by rw [idx_one, if_pos (rL_method.1 q)])
            go_wp2_with fail
            go_quiet (fail)
            go_wp2
            go_roundw
            case rel => exact ⟨1, by go_num, by first | (rw [HIX.out]; done) | (rw [HIX.out]; rfl), by omega, vl (bdN HBQ.out _)⟩
            case measure => first | (simp [intOf]; done) | (simp [intOf]; omega)
          · have q' : (n.toList == [58, 109, 101, 116, 104, 111, 100]) = false := by simpa using q
            have HIX : Vl (idxJ (unums n) 1 = -1) := vl (by rw [idx_one, if_neg (fun e => q (rL_method.2 e))])
            go_wp2_with fail
            go_quiet (fail)
            go_wp2
            go_roundw
            case rel => exact ⟨1, by go_num, by first | (rw [HIX.out]; done) | (rw [HIX.out]; rfl), by omega, vl (bdN HBQ.out _)⟩
            case measure => first | (simp [intOf]; done) | (simp [intOf]; omega)
        by_cases j1 : j = 1
        · subst j1
          obtain ⟨x, hx⟩ : ∃ x, x = idxJ (unums n) 1 := ⟨_, rfl⟩
          have HX := vl hx
          rw [← hx]
          clear hx
          by_cases q : n.toList = [58, 112, 97, 116, 104]
          · have q' : (n.toList == [58, 112, 97, 116, 104]) = true := by simpa using q
            have HIX : Vl (idxJ (unums n) 2 = 1) := vl (by rw [idx_two, if_pos (rL_path.1 q)])
            go_wp2_with fail
            go_quiet (fail)
            go_wp2
            go_roundw
            case rel => exact ⟨2, by go_num, by first | (rw [HIX.out]; done) | (rw [HIX.out]; rfl), by omega, vl (bdN HBQ.out _)⟩
            case measure => first | (simp [intOf]; done) | (simp [intOf]; omega)
          · have q' : (n.toList == [58, 112, 97, 116, 104]) = false := by simpa using q
            have HIX : Vl (idxJ (unums n) 2 = x) := vl (by rw [idx_two, if_neg (fun e => q (rL_path.2 e)), HX.out])
            go_wp2_with fail
            go_quiet (fail)
            go_wp2
            go_roundw
            case rel => exact ⟨2, by go_num, by first | (rw [HIX.out]; done) | (rw [HIX.out]; rfl), by omega, vl (bdN HBQ.out _)⟩
            case measure => first | (simp [intOf]; done) | (simp [intOf]; omega)
        by_cases j2 : j = 2
        · subst j2
          obtain ⟨x, hx⟩ : ∃ x, x = idxJ (unums n) 2 := ⟨_, rfl⟩
          have HX := vl hx
          rw [← hx]
          clear hx
          by_cases q : n.toList = [58, 104, 111, 115, 116]
          · have q' : (n.toList == [58, 104, 111, 115, 116]) = true := by simpa using q
            have HIX : Vl (idxJ (unums n) 3 = 2) := vl (by rw [idx_three, if_pos (rL_hostp.1 q)])
            go_wp2_with fail
            go_quiet (fail)
            go_wp2
            go_roundw
            case rel => exact ⟨3, by go_num, by first | (rw [HIX.out]; done) | (rw [HIX.out]; rfl), by omega, vl (bdN HBQ.out _)⟩
            case measure => first | (simp [intOf]; done) | (simp [intOf]; omega)
          · have q' : (n.toList == [58, 104, 111, 115, 116]) = false := by simpa using q
            have HIX : Vl (idxJ (unums n) 3 = x) := vl (by rw [idx_three, if_neg (fun e => q (rL_hostp.2 e)), HX.out])
            go_wp2_with fail
            go_quiet (fail)
            go_wp2
            go_roundw
            case rel => exact ⟨3, by go_num, by first | (rw [HIX.out]; done) | (rw [HIX.out]; rfl), by omega, vl (bdN HBQ.out _)⟩
            case measure => first | (simp [intOf]; done) | (simp [intOf]; omega)
        obtain rfl : j = 3 := by omega
        clear j0 j1 j2 hj m0 m1 m2
        have HBX := vl HASQ.out.old
        have HPX := vl HASQ.out.zb
        obtain ⟨ra, rc, hu⟩ := fown_shape HASQ.out.own
        subst hu
        obtain ⟨⟨s0, s1, s2⟩, sf⟩ := HASQ.out.seen
        have f0 := sf 0
        have f1 := sf 1
        have f2 := sf 2
        have k0 := HASQ.out.rb.cells
        have y0 := HASQ.out.rb.frozen 0
        have y1 := HASQ.out.rb.frozen 1
        have y2 := HASQ.out.rb.frozen 2
        obtain ⟨k0, k1, k2, _, _⟩ := k0
        clear sf
        have HNone : Vl (0 < RL.length ∨ (unums n ≠ methodP ∧ unums n ≠ pathP ∧ unums n ≠ hostP) ∨ (unums n = methodP ∧ sm = true) ∨ (unums n = pathP ∧ sp = true) ∨ (unums n = hostP ∧ sh = true) → askW (fdsOf L) B = (3, default)) := vl (fun h => askW_none (HPS.out.none_ HKL.out HNn.out HPT.out h))
        by_cases x2 : unums n = hostP
        · have hix : idxJ (unums n) 3 = 2 := by rw [idx_three, if_pos x2]
          rw [hix]
          by_cases r0 : 0 < RL.length
          · have r1 : (0 : Int) < (RL.length : Int) := by omega
            have HY := vl (HNone.out (Or.inl r0))
            clear hix x2
            have HZ := vl (fun w' hb => rask_bad (w' := w') (w := w) (L := L) (B := B) HY.out hb)
            go_wp2_with (refine wpList_rqstore _ rfl _ _ rfl w.heap.size ⟨#[]⟩ ⟨#[]⟩ ⟨#[]⟩ ⟨#[]⟩ ⟨#[]⟩ ⟨#[]⟩ (.slice none 0 0) (.slice none 0 0) (.slice none 0 0) (.slice none 0 0) rfl rfl HPX.out rfl rfl ?_)
            intro w8 hR hg8
            have HB8 : Vl (Below w.heap.size w w8) := vl (below_grown HBX.out hg8 HBX.out.size (fun k hk => by cases hk; exact Nat.le_refl _))
            obtain ⟨z0, z1, z2, z3, z4⟩ := hR.cells
            clear hR hg8
            go_wp2_with fail
            refine bodyPost_ret (v := .tuple #[.agg #[.string ⟨#[]⟩, .string ⟨#[]⟩, .string ⟨#[]⟩, .slice none 0 0, .slice none 0 0], .int .i64 3]) (by simp [results, Tryz.results12, go_sem, z0, z1, z2, z3, z4]; try rfl) rfl ?_
            exact HZ.out _ HB8.out
          have r1 : ¬ (0 : Int) < (RL.length : Int) := by omega
          cases sh with
          | true =>
            have HY := vl (HNone.out (Or.inr (Or.inr (Or.inr (Or.inr ⟨x2, rfl⟩)))))
            clear hix x2
            have HZ := vl (fun w' hb => rask_bad (w' := w') (w := w) (L := L) (B := B) HY.out hb)
            go_wp2_with (refine wpList_rqstore _ rfl _ _ rfl w.heap.size ⟨#[]⟩ ⟨#[]⟩ ⟨#[]⟩ ⟨#[]⟩ ⟨#[]⟩ ⟨#[]⟩ (.slice none 0 0) (.slice none 0 0) (.slice none 0 0) (.slice none 0 0) rfl rfl HPX.out rfl rfl ?_)
            intro w8 hR hg8
            have HB8 : Vl (Below w.heap.size w w8) := vl (below_grown HBX.out hg8 HBX.out.size (fun k hk => by cases hk; exact Nat.le_refl _))
            obtain ⟨z0, z1, z2, z3, z4⟩ := hR.cells
            clear hR hg8
            go_wp2_with fail
            refine bodyPost_ret (v := .tuple #[.agg #[.string ⟨#[]⟩, .string ⟨#[]⟩, .string ⟨#[]⟩, .slice none 0 0, .slice none 0 0], .int .i64 3]) (by simp [results, Tryz.results12, go_sem, z0, z1, z2, z3, z4]; try rfl) rfl ?_
            exact HZ.out _ HB8.out
          | false =>
            have HN : Vl (AskIn w ((wr.setCell ⟨w.heap.size + 2, 2, none⟩ (.bool true)).setCell ⟨w.heap.size + 1, 2, none⟩ (.string v)) ba bn bc L (k + 1) (.slice ra RL.length rc)) := vl ⟨_, _, _, _, _, _, RL, HASQ.out.set2 v, (HPS.out.took HKL.out HNn.out HNv.out HPT.out r0).2.2 x2 rfl, by omega, HMem.out, hT1, hT2, hVS⟩
            have cvs : (wr.setCell ⟨w.heap.size + 1 + 1, 2, none⟩ (.bool true)).cell? ⟨g, off + k * 2 + 1, none⟩ = some (.string v) := (World.cell?_setCell_other _ _ _ _ (by intro e; injection e; omega)).trans cvq
            clear hix x2 HNone
            go_wp2
            go_roundw
            case rel => exact ⟨k + 1, by go_num, by omega, HN⟩
            case measure => first | (simp [intOf]; done) | (simp [intOf]; omega)
        by_cases x1 : unums n = pathP
        · have hix : idxJ (unums n) 3 = 1 := by rw [idx_three, if_neg x2, idx_two, if_pos x1]
          rw [hix]
          by_cases r0 : 0 < RL.length
          · have r1 : (0 : Int) < (RL.length : Int) := by omega
            have HY := vl (HNone.out (Or.inl r0))
            clear hix x1
            have HZ := vl (fun w' hb => rask_bad (w' := w') (w := w) (L := L) (B := B) HY.out hb)
            go_wp2_with (refine wpList_rqstore _ rfl _ _ rfl w.heap.size ⟨#[]⟩ ⟨#[]⟩ ⟨#[]⟩ ⟨#[]⟩ ⟨#[]⟩ ⟨#[]⟩ (.slice none 0 0) (.slice none 0 0) (.slice none 0 0) (.slice none 0 0) rfl rfl HPX.out rfl rfl ?_)
            intro w8 hR hg8
            have HB8 : Vl (Below w.heap.size w w8) := vl (below_grown HBX.out hg8 HBX.out.size (fun k hk => by cases hk; exact Nat.le_refl _))
            obtain ⟨z0, z1, z2, z3, z4⟩ := hR.cells
            clear hR hg8
            go_wp2_with fail
            refine bodyPost_ret (v := .tuple #[.agg #[.string ⟨#[]⟩, .string ⟨#[]⟩, .string ⟨#[]⟩, .slice none 0 0, .slice none 0 0], .int .i64 3]) (by simp [results, Tryz.results12, go_sem, z0, z1, z2, z3, z4]; try rfl) rfl ?_
            exact HZ.out _ HB8.out
          have r1 : ¬ (0 : Int) < (RL.length : Int) := by omega
          cases sp with
          | true =>
            have HY := vl (HNone.out (Or.inr (Or.inr (Or.inr (Or.inl ⟨x1, rfl⟩)))))
            clear hix x1
            have HZ := vl (fun w' hb => rask_bad (w' := w') (w := w) (L := L) (B := B) HY.out hb)
            go_wp2_with (refine wpList_rqstore _ rfl _ _ rfl w.heap.size ⟨#[]⟩ ⟨#[]⟩ ⟨#[]⟩ ⟨#[]⟩ ⟨#[]⟩ ⟨#[]⟩ (.slice none 0 0) (.slice none 0 0) (.slice none 0 0) (.slice none 0 0) rfl rfl HPX.out rfl rfl ?_)
            intro w8 hR hg8
            have HB8 : Vl (Below w.heap.size w w8) := vl (below_grown HBX.out hg8 HBX.out.size (fun k hk => by cases hk; exact Nat.le_refl _))
            obtain ⟨z0, z1, z2, z3, z4⟩ := hR.cells
            clear hR hg8
            go_wp2_with fail
            refine bodyPost_ret (v := .tuple #[.agg #[.string ⟨#[]⟩, .string ⟨#[]⟩, .string ⟨#[]⟩, .slice none 0 0, .slice none 0 0], .int .i64 3]) (by simp [results, Tryz.results12, go_sem, z0, z1, z2, z3, z4]; try rfl) rfl ?_
            exact HZ.out _ HB8.out
          | false =>
            have HN : Vl (AskIn w ((wr.setCell ⟨w.heap.size + 2, 1, none⟩ (.bool true)).setCell ⟨w.heap.size + 1, 1, none⟩ (.string v)) ba bn bc L (k + 1) (.slice ra RL.length rc)) := vl ⟨_, _, _, _, _, _, RL, HASQ.out.set1 v, (HPS.out.took HKL.out HNn.out HNv.out HPT.out r0).2.1 x1 rfl, by omega, HMem.out, hT1, hVS, hT3⟩
            have cvs : (wr.setCell ⟨w.heap.size + 1 + 1, 1, none⟩ (.bool true)).cell? ⟨g, off + k * 2 + 1, none⟩ = some (.string v) := (World.cell?_setCell_other _ _ _ _ (by intro e; injection e; omega)).trans cvq
            clear hix x1 HNone
            go_wp2
            go_roundw
            case rel => exact ⟨k + 1, by go_num, by omega, HN⟩
            case measure => first | (simp [intOf]; done) | (simp [intOf]; omega)
        by_cases x0 : unums n = methodP
        · have hix : idxJ (unums n) 3 = 0 := by rw [idx_three, if_neg x2, idx_two, if_neg x1, idx_one, if_pos x0]
          rw [hix]
          by_cases r0 : 0 < RL.length
          · have r1 : (0 : Int) < (RL.length : Int) := by omega
            have HY := vl (HNone.out (Or.inl r0))
            clear hix x0
            have HZ := vl (fun w' hb => rask_bad (w' := w') (w := w) (L := L) (B := B) HY.out hb)
            go_wp2_with (refine wpList_rqstore _ rfl _ _ rfl w.heap.size ⟨#[]⟩ ⟨#[]⟩ ⟨#[]⟩ ⟨#[]⟩ ⟨#[]⟩ ⟨#[]⟩ (.slice none 0 0) (.slice none 0 0) (.slice none 0 0) (.slice none 0 0) rfl rfl HPX.out rfl rfl ?_)
            intro w8 hR hg8
            have HB8 : Vl (Below w.heap.size w w8) := vl (below_grown HBX.out hg8 HBX.out.size (fun k hk => by cases hk; exact Nat.le_refl _))
            obtain ⟨z0, z1, z2, z3, z4⟩ := hR.cells
            clear hR hg8
            go_wp2_with fail
            refine bodyPost_ret (v := .tuple #[.agg #[.string ⟨#[]⟩, .string ⟨#[]⟩, .string ⟨#[]⟩, .slice none 0 0, .slice none 0 0], .int .i64 3]) (by simp [results, Tryz.results12, go_sem, z0, z1, z2, z3, z4]; try rfl) rfl ?_
            exact HZ.out _ HB8.out
          have r1 : ¬ (0 : Int) < (RL.length : Int) := by omega
          cases sm with
          | true =>
            have HY := vl (HNone.out (Or.inr (Or.inr (Or.inl ⟨x0, rfl⟩))))
            clear hix x0
            have HZ := vl (fun w' hb => rask_bad (w' := w') (w := w) (L := L) (B := B) HY.out hb)
            go_wp2_with (refine wpList_rqstore _ rfl _ _ rfl w.heap.size ⟨#[]⟩ ⟨#[]⟩ ⟨#[]⟩ ⟨#[]⟩ ⟨#[]⟩ ⟨#[]⟩ (.slice none 0 0) (.slice none 0 0) (.slice none 0 0) (.slice none 0 0) rfl rfl HPX.out rfl rfl ?_)
            intro w8 hR hg8
            have HB8 : Vl (Below w.heap.size w w8) := vl (below_grown HBX.out hg8 HBX.out.size (fun k hk => by cases hk; exact Nat.le_refl _))
            obtain ⟨z0, z1, z2, z3, z4⟩ := hR.cells
            clear hR hg8
            go_wp2_with fail
            refine bodyPost_ret (v := .tuple #[.agg #[.string ⟨#[]⟩, .string ⟨#[]⟩, .string ⟨#[]⟩, .slice none 0 0, .slice none 0 0], .int .i64 3]) (by simp [results, Tryz.results12, go_sem, z0, z1, z2, z3, z4]; try rfl) rfl ?_
            exact HZ.out _ HB8.out
          | false =>
            have HN : Vl (AskIn w ((wr.setCell ⟨w.heap.size + 2, 0, none⟩ (.bool true)).setCell ⟨w.heap.size + 1, 0, none⟩ (.string v)) ba bn bc L (k + 1) (.slice ra RL.length rc)) := vl ⟨_, _, _, _, _, _, RL, HASQ.out.set0 v, (HPS.out.took HKL.out HNn.out HNv.out HPT.out r0).1 x0 rfl, by omega, HMem.out, hVS, hT2, hT3⟩
            have cvs : (wr.setCell ⟨w.heap.size + 1 + 1, 0, none⟩ (.bool true)).cell? ⟨g, off + k * 2 + 1, none⟩ = some (.string v) := (World.cell?_setCell_other _ _ _ _ (by intro e; injection e; omega)).trans cvq
            clear hix x0 HNone
            go_wp2
            go_roundw
            case rel => exact ⟨k + 1, by go_num, by omega, HN⟩
            case measure => first | (simp [intOf]; done) | (simp [intOf]; omega)
        have hix : idxJ (unums n) 3 = -1 := by rw [idx_three, if_neg x2, idx_two, if_neg x1, idx_one, if_neg x0]
        rw [hix]
        have HY := vl (HNone.out (Or.inr (Or.inl ⟨x0, x1, x2⟩)))
        clear hix x0 x1 x2
        have HZ := vl (fun w' hb => rask_bad (w' := w') (w := w) (L := L) (B := B) HY.out hb)
        go_wp2_with (refine wpList_rqstore _ rfl _ _ rfl w.heap.size ⟨#[]⟩ ⟨#[]⟩ ⟨#[]⟩ ⟨#[]⟩ ⟨#[]⟩ ⟨#[]⟩ (.slice none 0 0) (.slice none 0 0) (.slice none 0 0) (.slice none 0 0) rfl rfl HPX.out rfl rfl ?_)
        intro w8 hR hg8
        have HB8 : Vl (Below w.heap.size w w8) := vl (below_grown HBX.out hg8 HBX.out.size (fun k hk => by cases hk; exact Nat.le_refl _))
        obtain ⟨z0, z1, z2, z3, z4⟩ := hR.cells
        clear hR hg8
        go_wp2_with fail
        refine bodyPost_ret (v := .tuple #[.agg #[.string ⟨#[]⟩, .string ⟨#[]⟩, .string ⟨#[]⟩, .slice none 0 0, .slice none 0 0], .int .i64 3]) (by simp [results, Tryz.results12, go_sem, z0, z1, z2, z3, z4]; try rfl) rfl ?_
        exact HZ.out _ HB8.out
    have p1 : ¬ ((k : Int) < (len : Int)) := by omega
    have hke : L.length ≤ k := by rw [HLn.out]; omega
    obtain ⟨hRF, hPF⟩ := HPS.out.last hke
    have HRF := vl hRF
    have HPF := vl hPF
    have HRB : Vl (RL.length ≤ 1048576) := vl (by omega)
    clear hRF hPF hke
    obtain ⟨ra, rc, hu⟩ := fown_shape HAS.out.own
    subst hu
    obtain ⟨⟨s0, s1, s2⟩, _⟩ := HAS.out.seen
    cases sm with
    | false =>
      have HY := vl (askW_none (B := B) (by rw [HPF.out]; rfl))
      have HZ := vl (fun w' hb => rask_bad (w' := w') (w := w) (L := L) (B := B) HY.out hb)
      go_wp2_with (refine wpList_rqstore _ rfl _ _ rfl w.heap.size ⟨#[]⟩ ⟨#[]⟩ ⟨#[]⟩ ⟨#[]⟩ ⟨#[]⟩ ⟨#[]⟩ (.slice none 0 0) (.slice none 0 0) (.slice none 0 0) (.slice none 0 0) rfl rfl HPX.out rfl rfl ?_)
      intro w8 hR hg8
      have HB8 : Vl (Below w.heap.size w w8) := vl (below_grown HBX.out hg8 HBX.out.size (fun k hk => by cases hk; exact Nat.le_refl _))
      obtain ⟨z0, z1, z2, z3, z4⟩ := hR.cells
      clear hR hg8
      go_wp2_with fail
      refine bodyPost_ret (v := .tuple #[.agg #[.string ⟨#[]⟩, .string ⟨#[]⟩, .string ⟨#[]⟩, .slice none 0 0, .slice none 0 0], .int .i64 3]) (by simp [results, Tryz.results12, go_sem, z0, z1, z2, z3, z4]; try rfl) rfl ?_
      exact HZ.out _ HB8.out
    | true =>
    cases sp with
    | false =>
      have HY := vl (askW_none (B := B) (by rw [HPF.out]; rfl))
      have HZ := vl (fun w' hb => rask_bad (w' := w') (w := w) (L := L) (B := B) HY.out hb)
      go_wp2_with (refine wpList_rqstore _ rfl _ _ rfl w.heap.size ⟨#[]⟩ ⟨#[]⟩ ⟨#[]⟩ ⟨#[]⟩ ⟨#[]⟩ ⟨#[]⟩ (.slice none 0 0) (.slice none 0 0) (.slice none 0 0) (.slice none 0 0) rfl rfl HPX.out rfl rfl ?_)
      intro w8 hR hg8
      have HB8 : Vl (Below w.heap.size w w8) := vl (below_grown HBX.out hg8 HBX.out.size (fun k hk => by cases hk; exact Nat.le_refl _))
      obtain ⟨z0, z1, z2, z3, z4⟩ := hR.cells
      clear hR hg8
      go_wp2_with fail
      refine bodyPost_ret (v := .tuple #[.agg #[.string ⟨#[]⟩, .string ⟨#[]⟩, .string ⟨#[]⟩, .slice none 0 0, .slice none 0 0], .int .i64 3]) (by simp [results, Tryz.results12, go_sem, z0, z1, z2, z3, z4]; try rfl) rfl ?_
      exact HZ.out _ HB8.out
    | true =>
    cases sh with
    | false =>
      have HY := vl (askW_none (B := B) (by rw [HPF.out]; rfl))
      have HZ := vl (fun w' hb => rask_bad (w' := w') (w := w) (L := L) (B := B) HY.out hb)
      go_wp2_with (refine wpList_rqstore _ rfl _ _ rfl w.heap.size ⟨#[]⟩ ⟨#[]⟩ ⟨#[]⟩ ⟨#[]⟩ ⟨#[]⟩ ⟨#[]⟩ (.slice none 0 0) (.slice none 0 0) (.slice none 0 0) (.slice none 0 0) rfl rfl HPX.out rfl rfl ?_)
      intro w8 hR hg8
      have HB8 : Vl (Below w.heap.size w w8) := vl (below_grown HBX.out hg8 HBX.out.size (fun k hk => by cases hk; exact Nat.le_refl _))
      obtain ⟨z0, z1, z2, z3, z4⟩ := hR.cells
      clear hR hg8
      go_wp2_with fail
      refine bodyPost_ret (v := .tuple #[.agg #[.string ⟨#[]⟩, .string ⟨#[]⟩, .string ⟨#[]⟩, .slice none 0 0, .slice none 0 0], .int .i64 3]) (by simp [results, Tryz.results12, go_sem, z0, z1, z2, z3, z4]; try rfl) rfl ?_
      exact HZ.out _ HB8.out
    | true =>
    have HP3 : Vl (psdF (fdsOf L) false none none none = some (unums tm, unums tp, unums th)) := vl (by rw [HPF.out]; rfl)
    have HBL : Vl (B.length = bn) := vl HBB.out.len
    have HRN : Vl (rstF bn (fdsOf RL) [] none = none → askW (fdsOf L) B = (3, default)) := vl (fun h => by
      unfold askW
      simp only [HP3.out, ← HRF.out, HBL.out, h])
    have HRS : Vl (∀ fs, rstF bn (fdsOf RL) [] none = some fs → askW (fdsOf L) B = if askE ⟨unums tm, unums tp, unums th, fs, B⟩ = 0 then (0, ⟨unums tm, unums tp, unums th, fs, B⟩) else (askE ⟨unums tm, unums tp, unums th, fs, B⟩, default)) := vl (fun fs h => by
      unfold askW
      simp only [HP3.out, ← HRF.out, HBL.out, h])
    have HRSz : Vl (∀ t, t < RL.length → (RL.getD t fnone).1.size ≤ 140737488351232 ∧ (RL.getD t fnone).2.size ≤ 1048576) := vl (fun t ht => by
      have hm : RL.getD t fnone ∈ L := HMem.out _ (by rw [List.getD, List.getElem?_eq_getElem ht]; exact List.getElem_mem _)
      obtain ⟨i, hi, he⟩ := List.getElem_of_mem hm
      have := HS.out i
      rw [show L.getD i fnone = L[i] by simp [List.getD, List.getElem?_eq_getElem hi], he] at this
      exact this)
    clear HPF HPS
    obtain ⟨wX, hwX⟩ : ∃ wX, wX = wr := ⟨_, rfl⟩
    subst hwX
    have hlX : w.heap.size + 1 < wX.heap.size := by have := HAS.out.lt; omega
    have HL0 : Vl (L3 w wX wX ba bn bc tm tp th RL 0 (-1) (.slice none 0 0) []) := vl ⟨Tn.refl _ _, HAS.out.rb, fown_nil _ _, rsI_begin _ _, Nat.le_refl _, fun p hp => by cases hp⟩
    go_wp2_with fail
    clear s0 s1 s2
    go_loopw [13, 14, 15, 16, 17] (fun cv i _ _ _ wr => ∃ (m : Nat) (ck : Int) (fv : Value) (FL : List (ByteArray × ByteArray)), i = .int .i64 m ∧ cv = .int .i64 ck ∧ m ≤ RL.length ∧ Vl (L3 w wX wr ba bn bc tm tp th RL m ck fv FL)) (fun _ i _ _ _ _ => RL.length - (intOf i).toNat)
    case atStart => exact ⟨0, -1, _, [], rfl, rfl, Nat.zero_le _, HL0⟩
    case round =>
      obtain ⟨m, ck, fv, FL, rfl, rfl, hm, HL⟩ := hrel
      clear HL0
      have HBX := vl (HL.out.old HAS.out.old)
      have HPX := vl (HL.out.zb HAS.out.zb)
      by_cases h2 : m < RL.length
      case neg =>
        have p2 : ¬ ((m : Int) < (RL.length : Int)) := by omega
        have HSm := vl (HRS.out _ (HL.out.rs.last (by omega)))
        obtain ⟨fa, fc, hfv⟩ := fown_shape HL.out.own
        subst hfv
        have hFl : FL.length ≤ 1048576 := by have h1 := HL.out.many; have h3 := HRB.out; omega
        have HIN : Vl (RqIn wr ⟨tm, tp, th, fa, FL.length, fc, ba, bn, bc, FL, B⟩) := vl ⟨(nfrow_of HL.out.own).2, HBB.out.below HBX.out, HNI.out, ⟨by show FL.length ≤ _; omega, by show bn ≤ _; omega⟩, ⟨by show tm.size ≤ _; omega, by show tp.size ≤ _; omega, by show th.size ≤ _; omega⟩, each_of (fun p hp => ⟨(HL.out.szs p hp).1, by
          have h1 := (HL.out.szs p hp).2
          have h3 : 1048578 * m ≤ 1048578 * 1048576 := Nat.mul_le_mul_left _ (by have := HRB.out; omega)
          omega⟩)⟩
        have HTE := vl (rask_any ⟨tm, tp, th, fa, FL.length, fc, ba, bn, bc, FL, B⟩ wr HIN.out)
        obtain ⟨te, hte⟩ : ∃ x, askE ⟨unums tm, unums tp, unums th, fdsOf FL, B⟩ = x := ⟨_, rfl⟩
        have HTE' : Vl (Calls Tryz.prog 41 #[.agg #[.string tm, .string tp, .string th, .slice fa FL.length fc, .slice ba bn bc]] wr fun e w' => e = .returned (.int .i64 te) ∧ Below wr.heap.size wr w') := vl (by rw [← hte]; exact HTE.out)
        rw [hte] at HSm
        have HFN : Vl (∀ g off, fa = some ⟨g, off, none⟩ → g ≠ w.heap.size) := vl (fun g off e => by
          have h1 := (HL.out.own.lt g (by rw [e]; rfl)).1
          omega)
        have HFA := vl (nfrow_of HL.out.own).2
        obtain ⟨x0, x1, x2, x3, x4⟩ := HL.out.rb.cells
        clear HTE hte hm h2
        go_wp2_with fail
        refine HTE'.out.mono ?_
        rintro e w7 ⟨rfl, hb7⟩
        have HPX := vl (HPX.out.on hb7)
        have HQ7 := vl (HL.out.rb.on hb7)
        have HFA7 := vl (HFA.out.below hb7)
        have HBX := vl (HBX.out.trans (hb7.mono HBX.out.size))
        clear HTE' hb7 x0 x1 x2 x3 x4
        by_cases ht0 : te = 0
        case neg =>
          rw [if_neg ht0] at HSm
          have ht1 : (te != 0) = true := by simpa using ht0
          have HZ := vl (fun w' hb => rask_bad (w' := w') (w := w) (L := L) (B := B) HSm.out hb)
          go_wp2_with (refine wpList_rqstore _ rfl _ _ rfl w.heap.size ⟨#[]⟩ ⟨#[]⟩ ⟨#[]⟩ ⟨#[]⟩ ⟨#[]⟩ ⟨#[]⟩ (.slice none 0 0) (.slice none 0 0) (.slice none 0 0) (.slice none 0 0) rfl rfl HPX.out rfl rfl ?_)
          intro w8 hR hg8
          have HB8 : Vl (Below w.heap.size w w8) := vl (below_grown HBX.out hg8 HBX.out.size (fun k hk => by cases hk; exact Nat.le_refl _))
          obtain ⟨z0, z1, z2, z3, z4⟩ := hR.cells
          clear hR hg8
          go_wp2_with fail
          refine bodyPost_ret (v := .tuple #[.agg #[.string ⟨#[]⟩, .string ⟨#[]⟩, .string ⟨#[]⟩, .slice none 0 0, .slice none 0 0], .int .i64 te]) (by simp [results, Tryz.results12, go_sem, z0, z1, z2, z3, z4]; try rfl) rfl ?_
          exact HZ.out _ HB8.out
        subst ht0
        rw [if_pos rfl] at HSm
        obtain ⟨y0, y1, y2, y3, y4⟩ := HQ7.out.cells
        go_wp2_with (refine wpList_rqstore _ rfl _ _ rfl w.heap.size _ _ _ tm tp th _ _ (.slice fa FL.length fc) (.slice ba bn bc) rfl rfl HPX.out rfl rfl ?_)
        intro w8 hR hg8
        have HB8 : Vl (Below w.heap.size w w8) := vl (below_grown HBX.out hg8 HBX.out.size (fun k hk => by cases hk; exact Nat.le_refl _))
        obtain ⟨z0, z1, z2, z3, z4⟩ := hR.cells
        have HIN8 : Vl (RqIn w8 ⟨tm, tp, th, fa, FL.length, fc, ba, bn, bc, FL, B⟩) := vl ⟨farg_grown HFA7.out hg8 HFN.out, HBB.out.below HB8.out, HIN.out.nil, HIN.out.most, HIN.out.texts, HIN.out.each⟩
        clear hR hg8
        go_wp2_with fail
        refine bodyPost_ret (v := .tuple #[.agg #[.string tm, .string tp, .string th, .slice fa FL.length fc, .slice ba bn bc], .int .i64 0]) (by simp [results, Tryz.results12, go_sem, z0, z1, z2, z3, z4]; try rfl) rfl ?_
        unfold RAskE
        rw [HSm.out]
        exact ⟨⟨tm, tp, th, fa, FL.length, fc, ba, bn, bc, FL, B⟩, rfl, HIN8.out, rfl, HB8.out⟩
      have p2 : (m : Int) < (RL.length : Int) := by omega
      obtain ⟨g, off, rfl, hrow⟩ : ∃ g off, ra = some ⟨g, off, none⟩ ∧ FRow wr g off RL.length rc RL := by
        rcases (nfrow_of (HL.out.rest HAS.out.own)).2 with ⟨h0, _⟩ | ⟨g, off, ha, hr⟩
        · omega
        · exact ⟨g, off, ha, hr⟩
      have cn := hrow.hname m h2
      have cv := hrow.hvalue m h2
      have hcap := hrow.hcap
      have hmax := hrow.hmax
      have hss := HRSz.out m h2
      obtain ⟨n, hn⟩ : ∃ n, n = (RL.getD m fnone).1 := ⟨_, rfl⟩
      obtain ⟨v, hv⟩ : ∃ v, v = (RL.getD m fnone).2 := ⟨_, rfl⟩
      rw [← hn] at cn hss
      rw [← hv] at cv hss
      obtain ⟨hn1, hv1⟩ := hss
      have HNn := vl hn
      have HNv := vl hv
      clear hrow hn hv
      obtain ⟨fa, fc, hfv⟩ := fown_shape HL.out.own
      subst hfv
      have hFl : FL.length ≤ 1048576 := by have h1 := HL.out.many; have h3 := HRB.out; omega
      obtain ⟨WF, hWF⟩ : ∃ WF, WF = wr.alloc (.cells #[.string n, .string v] 51) := ⟨_, rfl⟩
      have hkF : WF.heap[wr.heap.size]? = some (.cells #[.string n, .string v] 51 (0, 0)) := by rw [hWF]; exact heap_alloc_new wr _
      have f0 : WF.cell? ⟨wr.heap.size, 0, none⟩ = some (.string n) := by simp only [World.cell?, hkF]; rfl
      have f1 : WF.cell? ⟨wr.heap.size, 1, none⟩ = some (.string v) := by simp only [World.cell?, hkF]; rfl
      have HBF : Vl (Below wr.heap.size wr WF) := vl (by rw [hWF]; exact (Below.refl _ _).alloc (Nat.le_refl _) _)
      have hlF : wr.heap.size < WF.heap.size := by rw [hWF]; simp
      have HLF := vl (HL.out.below HBF.out)
      have HBX := vl (HBX.out.trans (HBF.out.mono HBX.out.size))
      have HPX := vl (HPX.out.on HBF.out)
      obtain ⟨_, _, _, x3, _⟩ := HLF.out.rb.cells
      have RB0 := vl (rbtw_any n WF)
      clear hkF
      cases hb : btwL (unums n) with
      | true =>
        rw [hb] at RB0
        have HY := vl (HRN.out (HL.out.rs.bad h2 HNn.out (Or.inl hb)))
        clear hb
        go_wp2_with fail
        rw [← hWF]
        clear hWF cn cv
        refine RB0.out.mono ?_
        rintro e w' ⟨rfl, rfl⟩
        have HZ := vl (fun w' hb => rask_bad (w' := w') (w := w) (L := L) (B := B) HY.out hb)
        go_wp2_with (refine wpList_rqstore _ rfl _ _ rfl w.heap.size ⟨#[]⟩ ⟨#[]⟩ ⟨#[]⟩ ⟨#[]⟩ ⟨#[]⟩ ⟨#[]⟩ (.slice none 0 0) (.slice none 0 0) (.slice none 0 0) (.slice none 0 0) rfl rfl HPX.out rfl rfl ?_)
        intro w8 hR hg8
        have HB8 : Vl (Below w.heap.size w w8) := vl (below_grown HBX.out hg8 HBX.out.size (fun k hk => by cases hk; exact Nat.le_refl _))
        obtain ⟨z0, z1, z2, z3, z4⟩ := hR.cells
        clear hR hg8
        go_wp2_with fail
        refine bodyPost_ret (v := .tuple #[.agg #[.string ⟨#[]⟩, .string ⟨#[]⟩, .string ⟨#[]⟩, .slice none 0 0, .slice none 0 0], .int .i64 3]) (by simp [results, Tryz.results12, go_sem, z0, z1, z2, z3, z4]; try rfl) rfl ?_
        exact HZ.out _ HB8.out
      | false =>
      rw [hb] at RB0
      by_cases hho : n.toList = [104, 111, 115, 116]
      · have hh2 : (n.toList == [104, 111, 115, 116]) = true := by simpa using hho
        have HY := vl (HRN.out (HL.out.rs.bad h2 HNn.out (Or.inr (rL_host.1 hho))))
        clear hb
        go_wp2_with fail
        rw [← hWF]
        clear hWF cn cv
        refine RB0.out.mono ?_
        rintro e w' ⟨rfl, rfl⟩
        have HZ := vl (fun w' hb => rask_bad (w' := w') (w := w) (L := L) (B := B) HY.out hb)
        go_wp2_with (refine wpList_rqstore _ rfl _ _ rfl w.heap.size ⟨#[]⟩ ⟨#[]⟩ ⟨#[]⟩ ⟨#[]⟩ ⟨#[]⟩ ⟨#[]⟩ (.slice none 0 0) (.slice none 0 0) (.slice none 0 0) (.slice none 0 0) rfl rfl HPX.out rfl rfl ?_)
        intro w8 hR hg8
        have HB8 : Vl (Below w.heap.size w w8) := vl (below_grown HBX.out hg8 HBX.out.size (fun k hk => by cases hk; exact Nat.le_refl _))
        obtain ⟨z0, z1, z2, z3, z4⟩ := hR.cells
        clear hR hg8
        go_wp2_with fail
        refine bodyPost_ret (v := .tuple #[.agg #[.string ⟨#[]⟩, .string ⟨#[]⟩, .string ⟨#[]⟩, .slice none 0 0, .slice none 0 0], .int .i64 3]) (by simp [results, Tryz.results12, go_sem, z0, z1, z2, z3, z4]; try rfl) rfl ?_
        exact HZ.out _ HB8.out
      have hh2 : (n.toList == [104, 111, 115, 116]) = false := by simpa using hho
      have H0 : Vl (¬ (btwL (unums n) = true ∨ unums n = hostN)) := vl (fun h => by
        rcases h with h | h
        · rw [hb] at h; cases h
        · exact hho (rL_host.2 h))
      clear hb
      by_cases hln : n.toList = [108, 101, 110, 103, 116, 104]
      · have hl2 : (n.toList == [108, 101, 110, 103, 116, 104]) = true := by simpa using hln
        have RD := vl (rdigw_any bn WF (by omega))
        have HDS := vl (dec_str bn)
        generalize strOfNums (decL bn) = ds at *
        by_cases hd : unums v = decL bn
        · have hd2 : (v.toList == ds.toList) = true := by rw [toL_beq, HDS.out]; exact decide_eq_true hd
          have hd3 : (v.toList != ds.toList) = false := by rw [bne, hd2]; rfl
          have HN := vl (HLF.out.same (Nat.le_succ m) (HL.out.rs.len_yes h2 HNn.out HNv.out H0.out (toL_length.1 hln) hd))
          clear hd
          go_wp2_with fail
          rw [← hWF]
          clear hWF cn cv
          refine RB0.out.mono ?_
          rintro e w' ⟨rfl, rfl⟩
          go_wp2_with fail
          refine RD.out.mono ?_
          rintro e w' ⟨rfl, rfl⟩
          go_wp2
          go_roundw
          case rel => exact ⟨m + 1, ck, _, FL, by go_num, rfl, by omega, HN⟩
          case measure => first | (simp [intOf]; done) | (simp [intOf]; omega)
        · have hd2 : (v.toList == ds.toList) = false := by rw [toL_beq, HDS.out]; exact decide_eq_false hd
          have hd3 : (v.toList != ds.toList) = true := by rw [bne, hd2]; rfl
          have HY := vl (HRN.out (HL.out.rs.len_no h2 HNn.out HNv.out H0.out (toL_length.1 hln) hd))
          clear hd
          go_wp2_with fail
          rw [← hWF]
          clear hWF cn cv
          refine RB0.out.mono ?_
          rintro e w' ⟨rfl, rfl⟩
          go_wp2_with fail
          refine RD.out.mono ?_
          rintro e w' ⟨rfl, rfl⟩
          have HZ := vl (fun w' hb => rask_bad (w' := w') (w := w) (L := L) (B := B) HY.out hb)
          go_wp2_with (refine wpList_rqstore _ rfl _ _ rfl w.heap.size ⟨#[]⟩ ⟨#[]⟩ ⟨#[]⟩ ⟨#[]⟩ ⟨#[]⟩ ⟨#[]⟩ (.slice none 0 0) (.slice none 0 0) (.slice none 0 0) (.slice none 0 0) rfl rfl HPX.out rfl rfl ?_)
          intro w8 hR hg8
          have HB8 : Vl (Below w.heap.size w w8) := vl (below_grown HBX.out hg8 HBX.out.size (fun k hk => by cases hk; exact Nat.le_refl _))
          obtain ⟨z0, z1, z2, z3, z4⟩ := hR.cells
          clear hR hg8
          go_wp2_with fail
          refine bodyPost_ret (v := .tuple #[.agg #[.string ⟨#[]⟩, .string ⟨#[]⟩, .string ⟨#[]⟩, .slice none 0 0, .slice none 0 0], .int .i64 3]) (by simp [results, Tryz.results12, go_sem, z0, z1, z2, z3, z4]; try rfl) rfl ?_
          exact HZ.out _ HB8.out
      have hl2 : (n.toList == [108, 101, 110, 103, 116, 104]) = false := by simpa using hln
      have HLN : Vl (unums n ≠ lengthN) := vl (fun e => hln (toL_length.2 e))
      have LL : Vl (FL.length < 4398046511104) := vl (by omega)
      have SZ : Vl (wX.heap.size ≤ WF.heap.size) := vl HLF.out.tn.size
      have HOA := vl (fown_below HLF.out.own ((Below.refl _ _).alloc (Nat.le_refl _) (.cells #[.string n, .string v] 51)))
      have HHB : Vl ((WF.alloc (.cells #[.string n, .string v] 51)).heap[WF.heap.size]? = some (.cells #[.string n, .string v] 51 (0, 0))) := vl (heap_alloc_new WF _)
      by_cases hck : n.toList = [99, 111, 111, 107, 105, 101]
      · have hc2 : (n.toList == [99, 111, 111, 107, 105, 101]) = true := by simpa using hck
        by_cases hc0 : 0 ≤ ck
        · have hRS := HL.out.rs.more h2 HNn.out HNv.out H0.out HLN.out (rL_cookie.1 hck) hc0
          obtain ⟨c, rfl⟩ := Int.eq_ofNat_of_zero_le hc0
          have hcl : c < FL.length := by rcases HL.out.rs.2 with e | e <;> omega
          rw [Int.toNat_natCast] at hRS
          have HRSM := vl hRS
          obtain ⟨g3, c3, hv3, _⟩ := World.ownsRow.form HLF.out.own (show 0 < FL.length by omega)
          injection hv3 with e1 e2 e3
          subst e1 e3
          have HM := vl (HLF.out.more hv1 rfl hcl HRSM.out)
          have vc : WF.cell? ⟨g3, c * 2 + 1, none⟩ = some (.string (FL.getD c fnone).2) := by
            rcases (nfrow_of HLF.out.own).2 with ⟨h0, _⟩ | ⟨g4, o4, ha, hr4⟩
            · omega
            · have h5 := hr4.hvalue c hcl
              injection ha with ha
              injection ha with e4 e5
              subst e4 e5
              simpa using h5
          have vf : WF.frozen? ⟨g3, c * 2 + 1, none⟩ = false := by
            obtain ⟨_, ⟨hv4, _⟩ | ⟨g4, cap4, cur4, hv4, _, hc4, _⟩⟩ := id HLF.out.own
            · cases hv4
            · injection hv4 with e4
              injection e4 with e4
              injection e4 with e4
              subst e4
              unfold World.frozen?
              rw [hc4]
              simp
          have hz1 : (FL.getD c fnone).2.size ≤ 1048578 * 1048576 := by
            have hmem : FL.getD c fnone ∈ FL := by rw [List.getD, List.getElem?_eq_getElem hcl]; exact List.getElem_mem _
            have h6 := (HLF.out.szs _ hmem).2
            have h7 : 1048578 * m ≤ 1048578 * 1048576 := Nat.mul_le_mul_left _ (by have := HRB.out; omega)
            omega
          have hb1 : (c : Int) < (FL.length : Int) := by omega
          have hb2 : (0 : Int) ≤ (c : Int) := by omega
          rw [Nat.mul_comm 2 c] at HM
          clear hRS hcl
          generalize (FL.getD c fnone).2 = old at *
          go_wp2_with fail
          rw [← hWF]
          clear hWF cn cv
          refine RB0.out.mono ?_
          rintro e w' ⟨rfl, rfl⟩
          go_wp2_with fail
          go_region
          go_wp2
          go_roundw
          case rel => exact ⟨m + 1, c, _, _, by go_num, rfl, by omega, HM⟩
          case measure => first | (simp [intOf]; done) | (simp [intOf]; omega)
        · have hc1 : ¬ (0 : Int) ≤ ck := hc0
          have HRSM := vl (HL.out.rs.first h2 HNn.out HNv.out H0.out HLN.out (rL_cookie.1 hck) (by omega))
          go_wp2_with fail
          rw [← hWF]
          clear hWF cn cv
          refine RB0.out.mono ?_
          rintro e w' ⟨rfl, rfl⟩
          go_wp2_with (at_builtin; refine wpList_fappA _ rfl _ _ rfl wX.heap.size (.slice fa FL.length fc) FL n v rfl HOA.out WF.heap.size rfl HHB.out LL.out (by rw [World.size_alloc]; exact Nat.le_succ_of_le SZ.out) ?_)
          intro lv5 w5 ho5 hg5 _
          have ho6 : w5.ownsRow wX.heap.size 51 2 lv5 (FL.length + 1) (fcells (FL ++ [(n, v)])) := by
            rw [← show (FL ++ [(n, v)]).length = FL.length + 1 by simp]
            exact ho5
          obtain ⟨g5, c5, rfl, _⟩ := World.ownsRow.form ho6 (by omega)
          obtain ⟨hrb5, hL5⟩ := HLF.out.app hlX hn1 hv1 ho5 hg5 HRSM.out
          obtain ⟨_, _, _, k3, _⟩ := hrb5.cells
          have z3 := hrb5.frozen 3
          have HL5 := vl hL5
          clear ho5 hg5 ho6 hL5 hrb5
          go_wp2
          go_roundw
          case rel => exact ⟨m + 1, (FL.length : Int), _, _, by go_num, rfl, by omega, HL5⟩
          case measure => first | (simp [intOf]; done) | (simp [intOf]; omega)
      · have hc2 : (n.toList == [99, 111, 111, 107, 105, 101]) = false := by simpa using hck
        have HRSM := vl (HL.out.rs.other h2 HNn.out HNv.out H0.out HLN.out (fun e => hck (rL_cookie.2 e)))
        go_wp2_with fail
        rw [← hWF]
        clear hWF cn cv
        refine RB0.out.mono ?_
        rintro e w' ⟨rfl, rfl⟩
        go_wp2_with (at_builtin; refine wpList_fappA _ rfl _ _ rfl wX.heap.size (.slice fa FL.length fc) FL n v rfl HOA.out WF.heap.size rfl HHB.out LL.out (by rw [World.size_alloc]; exact Nat.le_succ_of_le SZ.out) ?_)
        intro lv5 w5 ho5 hg5 _
        have ho6 : w5.ownsRow wX.heap.size 51 2 lv5 (FL.length + 1) (fcells (FL ++ [(n, v)])) := by
          rw [← show (FL ++ [(n, v)]).length = FL.length + 1 by simp]
          exact ho5
        obtain ⟨g5, c5, rfl, _⟩ := World.ownsRow.form ho6 (by omega)
        obtain ⟨hrb5, hL5⟩ := HLF.out.app hlX hn1 hv1 ho5 hg5 HRSM.out
        obtain ⟨_, _, _, k3, _⟩ := hrb5.cells
        have z3 := hrb5.frozen 3
        have HL5 := vl hL5
        clear ho5 hg5 ho6 hL5 hrb5
        go_wp2
        go_roundw
        case rel => exact ⟨m + 1, ck, _, _, by go_num, rfl, by omega, HL5⟩
        case measure => first | (simp [intOf]; done) | (simp [intOf]; omega)
end Go.Proofs.YtglmppadhlkkgagGreatDoor
