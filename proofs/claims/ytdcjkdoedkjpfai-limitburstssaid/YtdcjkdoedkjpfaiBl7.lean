/-
  THE WALK of the law LimitBursts. No claim by itself.
-/
import Derived.Test.YtdcjkdoedkjpfaiBiter
namespace Go.Proofs.Ytdcjkdoedkjpfai
open Go.RowKit Go.Maps
set_option maxRecDepth 100000
def abF (oa ob : Option (Int × Int)) : BSt := fun t => if t = [97] then oa else if t = [98] then ob else none
def abN (oa ob : Option (Int × Int)) : Nat := (if oa.isSome then 1 else 0) + (if ob.isSome then 1 else 0)
theorem abF_a (oa ob : Option (Int × Int)) : abF oa ob [97] = oa := by unfold abF; rw [if_pos rfl]
theorem abF_b (oa ob : Option (Int × Int)) : abF oa ob [98] = ob := by unfold abF; rw [if_neg (by decide), if_pos rfl]
theorem abF_pa (oa ob : Option (Int × Int)) (p : Int × Int) : blPut (abF oa ob) [97] p = abF (some p) ob := by
  funext t
  unfold blPut abF
  by_cases h : t = [97] <;> simp [h]
theorem abF_pb (oa ob : Option (Int × Int)) (p : Int × Int) : blPut (abF oa ob) [98] p = abF oa (some p) := by
  funext t
  unfold blPut abF
  by_cases h : t = [97]
  · subst h; simp
  · by_cases h2 : t = [98] <;> simp [h, h2]
theorem abF_none : (fun _ => none : BSt) = abF none none := by
  funext t
  unfold abF
  simp
theorem ab_sa (oa ob : Option (Int × Int)) (p : Int × Int) : blSz (abF oa ob) [97] (abN oa ob) = abN (some p) ob := by
  unfold blSz abN
  rw [abF_a]
  cases oa <;> simp <;> omega
theorem ab_sb (oa ob : Option (Int × Int)) (p : Int × Int) : blSz (abF oa ob) [98] (abN oa ob) = abN oa (some p) := by
  unfold blSz abN
  rw [abF_b]
  cases ob <;> simp
/-- What is known of a bucket. -/
def BkOk (b now : Int) (o : Option (Int × Int)) : Prop := ∀ l a, o = some (l, a) → 0 ≤ l ∧ l ≤ b ∧ a = now
theorem bk_none (b now : Int) : BkOk b now none := fun _ _ e => by cases e
theorem bk_some {b now l : Int} (h0 : 0 ≤ l) (h1 : l ≤ b) : BkOk b now (some (l, now)) := fun _ _ e => by cases e; exact ⟨h0, h1, rfl⟩
structure LB (w0 w : World) (lb mb : Nat) (r b now : Int) (oa ob : Option (Int × Int)) : Prop where
  old : Below w0.heap.size w0 w
  lim : ∃ D, LimM w lb mb r b D (abF oa ob) (abN oa ob)
  hS : ∀ k, Bl2 lb mb k → w0.heap.size ≤ k
  ka : BkOk b now oa
  kb : BkOk b now ob
  r0 : 1 ≤ r
  r1 : r ≤ 1000000
  b0 : 1 ≤ b
  b1 : b ≤ 1000000
  n0 : 0 ≤ now
  n1 : now ≤ 1000000
theorem abN_le (oa ob : Option (Int × Int)) : abN oa ob ≤ 2 := by
  unfold abN
  split <;> split <;> omega
theorem LB.bi {w0 w : World} {lb mb : Nat} {r b now : Int} {oa ob : Option (Int × Int)} (h : LB w0 w lb mb r b now oa ob) : BlI r b (abF oa ob) (abN oa ob) :=
  ⟨h.r0, h.r1, h.b0, h.b1, by have := abN_le oa ob; omega, fun s l a e => by
    have := h.n0
    have := h.n1
    unfold abF at e
    split at e
    · have := h.ka l a e; omega
    · split at e
      · have := h.kb l a e; omega
      · cases e⟩
/-- What is left. -/
def curL (b : Int) (o : Option (Int × Int)) : Int := match o with
  | some q => q.1
  | none => b
theorem cur_look {r b now k : Int} {f : BSt} {n : Nat} {s : List UInt8} {o : Option (Int × Int)} (hf : f s = o) (ho : BkOk b now o) (hn : n ≤ 2) (hk : 1 ≤ k ∧ k ≤ b) (h2 : 0 ≤ now ∧ now ≤ 1000000) : lookF r b f n s now k = (0, curL b o, now) := by
  cases o with
  | none => rw [lookF_none hk h2 hf, if_neg (by omega)]; rfl
  | some q =>
    obtain ⟨l, a⟩ := q
    obtain ⟨l0, l1, rfl⟩ := ho l a rfl
    rw [lookF_some hk h2 hf, if_neg (by omega)]
    unfold curL
    simp only [Int.sub_self, Int.zero_mul, Int.add_zero]
    rw [show min l b = l by omega]
section
variable {w0 w : World} {lb mb : Nat} {r b now : Int} {oa ob : Option (Int × Int)} (h : LB w0 w lb mb r b now oa ob)
include h
theorem curA : 0 ≤ curL b oa ∧ curL b oa ≤ b := by
  have hb := h.b0
  cases oa with
  | none => unfold curL; simp; omega
  | some q => have := h.ka q.1 q.2 rfl; unfold curL; simp; omega
theorem curB : 0 ≤ curL b ob ∧ curL b ob ≤ b := by
  have hb := h.b0
  cases ob with
  | none => unfold curL; simp; omega
  | some q => have := h.kb q.1 q.2 rfl; unfold curL; simp; omega
theorem LB.go {w' : World} {oa' ob' : Option (Int × Int)} (ht : Tn (Bl2 lb mb) w w') (hl : ∃ D, LimM w' lb mb r b D (abF oa' ob') (abN oa' ob')) (ka : BkOk b now oa') (kb : BkOk b now ob') : LB w0 w' lb mb r b now oa' ob' :=
  ⟨Tn.below h.old ht h.old.size h.hS, hl, h.hS, ka, kb, h.r0, h.r1, h.b0, h.b1, h.n0, h.n1⟩
theorem askA (k : Int) (hk : 1 ≤ k ∧ k ≤ b) : Calls Try.prog 7 #[lptr lb, .string ⟨#[97]⟩, .int .i64 now, .int .i64 k] w fun e w' => e = .returned (.tuple #[.bool (decide (k ≤ curL b oa)), .nilIface]) ∧ LB w0 w' lb mb r b now (some (if k ≤ curL b oa then curL b oa - k else curL b oa, now)) ob := by
  obtain ⟨D, hl⟩ := h.lim
  have hc := curA h
  refine (ask_any hl h.bi (s := ⟨#[97]⟩) (by decide) now k).mono ?_
  rintro e w' ⟨rfl, hk'⟩
  rw [show (⟨#[97]⟩ : ByteArray).data.toList = [97] from rfl, cur_look (abF_a oa ob) h.ka (abN_le oa ob) hk ⟨h.n0, h.n1⟩] at *
  refine ⟨by unfold askOk errW; simp, h.go hk'.tn ?_ (by split <;> exact bk_some (by omega) (by omega)) h.kb⟩
  have := hk'.lim
  unfold askSt askN at this
  simp only [if_true] at this
  rw [abF_pa, ab_sa oa ob (if k ≤ curL b oa then curL b oa - k else curL b oa, now)] at this
  exact this
theorem askB (k : Int) (hk : 1 ≤ k ∧ k ≤ b) : Calls Try.prog 7 #[lptr lb, .string ⟨#[98]⟩, .int .i64 now, .int .i64 k] w fun e w' => e = .returned (.tuple #[.bool (decide (k ≤ curL b ob)), .nilIface]) ∧ LB w0 w' lb mb r b now oa (some (if k ≤ curL b ob then curL b ob - k else curL b ob, now)) := by
  obtain ⟨D, hl⟩ := h.lim
  have hc := curB h
  refine (ask_any hl h.bi (s := ⟨#[98]⟩) (by decide) now k).mono ?_
  rintro e w' ⟨rfl, hk'⟩
  rw [show (⟨#[98]⟩ : ByteArray).data.toList = [98] from rfl, cur_look (abF_b oa ob) h.kb (abN_le oa ob) hk ⟨h.n0, h.n1⟩] at *
  refine ⟨by unfold askOk errW; simp, h.go hk'.tn ?_ h.ka (by split <;> exact bk_some (by omega) (by omega))⟩
  have := hk'.lim
  unfold askSt askN at this
  simp only [if_true] at this
  rw [abF_pb, ab_sb oa ob (if k ≤ curL b ob then curL b ob - k else curL b ob, now)] at this
  exact this
theorem leftA (ho : oa = none) : Calls Try.prog 5 #[lptr lb, .string ⟨#[97]⟩, .int .i64 now] w fun e w' => e = .returned (.tuple #[.int .i64 b, .nilIface]) ∧ LB w0 w' lb mb r b now oa ob := by
  obtain ⟨D, hl⟩ := h.lim
  have hb0 := h.b0
  refine (left_any hl h.bi (s := ⟨#[97]⟩) (by decide) now).mono ?_
  rintro e w' ⟨rfl, hk'⟩
  rw [show (⟨#[97]⟩ : ByteArray).data.toList = [97] from rfl, cur_look (abF_a oa ob) h.ka (abN_le oa ob) ⟨by omega, by omega⟩ ⟨h.n0, h.n1⟩] at *
  refine ⟨by rw [ho]; rfl, h.go hk'.tn ?_ h.ka h.kb⟩
  have := hk'.lim
  simp only [if_true] at this
  unfold renewF at this
  rw [abF_a, ho] at this
  rw [ho]
  exact this
theorem waitA (p : Int × Int) (ho : oa = some p) (k : Int) (hk : 1 ≤ k ∧ k ≤ b) : Calls Try.prog 8 #[lptr lb, .string ⟨#[97]⟩, .int .i64 now, .int .i64 k] w fun e w' => e = .returned (.tuple #[.int .i64 (waitF r (curL b oa) k), .nilIface]) ∧ LB w0 w' lb mb r b now (some (curL b oa, now)) ob := by
  obtain ⟨D, hl⟩ := h.lim
  have hc := curA h
  refine (wait_any hl h.bi (s := ⟨#[97]⟩) (by decide) now k).mono ?_
  rintro e w' ⟨rfl, hk'⟩
  rw [show (⟨#[97]⟩ : ByteArray).data.toList = [97] from rfl, cur_look (abF_a oa ob) h.ka (abN_le oa ob) hk ⟨h.n0, h.n1⟩] at *
  refine ⟨rfl, h.go hk'.tn ?_ (bk_some hc.1 hc.2) h.kb⟩
  have := hk'.lim
  simp only [if_true] at this
  unfold renewF at this
  rw [abF_a, abF_pa] at this
  subst ho
  exact this
theorem keysAB : Calls Try.prog 6 #[lptr lb] w fun e w' => (∃ a c, e = .returned (.slice a (abN oa ob) c)) ∧ LB w0 w' lb mb r b now oa ob := by
  obtain ⟨D, hl⟩ := h.lim
  refine (blkeys_any hl h.bi.many).mono ?_
  rintro e w' ⟨hs, hb⟩
  exact ⟨hs, h.go (Tn.of_below hb) ⟨D, hl.below (Nat.le_refl _) hb⟩ h.ka h.kb⟩
end
theorem wait_1 {r : Int} (h : 1 ≤ r) : waitF r 0 1 = 1 := by
  unfold waitF
  rw [show max ((1 : Int) - 0) 0 + r - 1 = r by omega]
  exact Int.ediv_self (by omega)
set_option maxHeartbeats 4000000 in
theorem bursts_ok (r b now : Int) (w : World) : Calls Try.prog 3 #[.int .i64 r, .int .i64 b, .int .i64 now] w fun e w' => e = .returned (.bool true) ∧ Below w.heap.size w w' := by
  have HN := vl (blnew_any r b w)
  go_enter Try.func3, Try.ntmps3
  go_wp2_with fail
  refine HN.out.mono ?_
  rintro e w1 ⟨hb1, h | ⟨hn, rfl⟩⟩
  case inr =>
    have HB := vl hb1
    have hc : r < 1 ∨ (1 ≤ r ∧ 1000000 < r) ∨ (1 ≤ r ∧ r ≤ 1000000 ∧ b < 1) ∨ (1 ≤ r ∧ r ≤ 1000000 ∧ 1 ≤ b ∧ 1000000 < b) := by omega
    clear hn hb1 HN
    rcases hc with q1 | ⟨q1, q2⟩ | ⟨q1, q2, q3⟩ | ⟨q1, q2, q3, q4⟩
    all_goals
      go_wp2
      go_ret
      exact ⟨rfl, HB.out⟩
  obtain ⟨r0, r1, b0, b1, lb, S, rfl, ⟨mb, D, hl, rfl⟩, hS, _⟩ := h
  by_cases q1 : 300 < b
  · have HB := vl hb1
    clear hb1 hl hS HN
    unfold lptr
    go_wp2
    go_ret
    exact ⟨rfl, HB.out⟩
  by_cases q2 : now < 0
  · have HB := vl hb1
    clear hb1 hl hS HN
    unfold lptr
    go_wp2
    go_ret
    exact ⟨rfl, HB.out⟩
  by_cases q3 : 1000000 < now
  · have HB := vl hb1
    clear hb1 hl hS HN
    unfold lptr
    go_wp2
    go_ret
    exact ⟨rfl, HB.out⟩
  have L1 : Vl (LB w w1 lb mb r b now none none) := ⟨hb1, ⟨D, by rw [← abF_none]; exact hl⟩, hS, bk_none _ _, bk_none _ _, r0, r1, b0, b1, by omega, by omega⟩
  have A1 := vl (leftA L1.out rfl)
  unfold lptr at *
  clear hb1 hl hS HN
  go_wp2_with fail
  refine A1.out.mono ?_
  rintro e w2 ⟨rfl, hL2⟩
  have A2 := vl (keysAB hL2)
  unfold lptr at A2
  rw [show abN none none = 0 from rfl] at A2
  clear hL2 A1 L1
  go_wp2_with fail
  refine A2.out.mono ?_
  rintro e w3 ⟨⟨ka, kc, rfl⟩, hL3⟩
  have L3 := vl hL3
  clear hL3 A2
  go_wp2_with fail
  go_loopw [11, 12, 13] (fun i _ _ wr => ∃ (m : Nat), i = .int .i64 m ∧ (m : Int) ≤ b ∧ ∃ oa, Vl (LB w wr lb mb r b now oa none) ∧ Vl (curL b oa = b - m) ∧ Vl (1 ≤ m → oa = some (b - m, now))) (fun i _ _ _ => (b - intOf i).toNat)
  case atStart => exact ⟨0, rfl, by omega, none, L3.out, by simp [Vl, curL], vl (fun h => by omega)⟩
  case round =>
    obtain ⟨m, rfl, hm, oa, LR, HC, HO⟩ := hrel
    clear L3
    by_cases h1 : (m : Int) < b
    · have A1 := vl (askA LR.out 1 ⟨by omega, b0⟩)
      rw [HC.out, show decide ((1 : Int) ≤ b - (m : Int)) = true from decide_eq_true (by omega), if_pos (show (1 : Int) ≤ b - (m : Int) by omega)] at A1
      unfold lptr at A1
      clear LR HC HO
      go_wp2_with fail
      refine A1.out.mono ?_
      rintro e w4 ⟨rfl, hL4⟩
      have L4 := vl hL4
      clear hL4 A1
      go_wp2
      go_roundw
      case rel =>
        have e1 : b - (m : Int) - 1 = b - ((m + 1 : Nat) : Int) := by omega
        rw [e1] at L4
        exact ⟨m + 1, by go_num, by omega, _, L4.out, vl rfl, vl (fun _ => rfl)⟩
      case measure => simp [intOf]; omega
    have hmb : (m : Int) = b := by omega
    have ho := HO.out (by omega)
    subst ho
    have A1 := vl (askA LR.out 1 ⟨by omega, b0⟩)
    rw [HC.out, show b - (m : Int) = 0 by omega, show decide ((1 : Int) ≤ 0) = false from rfl, if_neg (show ¬ (1 : Int) ≤ 0 by decide)] at A1
    unfold lptr at A1
    clear LR HC HO hmb
    go_wp2_with fail
    refine A1.out.mono ?_
    rintro e w4 ⟨rfl, hL4⟩
    have A2 := vl (askB hL4 b ⟨b0, by omega⟩)
    rw [show curL b none = b from rfl, show decide (b ≤ b) = true from decide_eq_true (by omega), if_pos (show b ≤ b by omega)] at A2
    unfold lptr at A2
    clear hL4 A1
    go_wp2_with fail
    refine A2.out.mono ?_
    rintro e w5 ⟨rfl, hL5⟩
    have A3 := vl (waitA hL5 (0, now) rfl 1 ⟨by omega, b0⟩)
    rw [show curL b (some (0, now)) = 0 from rfl, wait_1 r0] at A3
    unfold lptr at A3
    clear hL5 A2
    go_wp2_with fail
    refine A3.out.mono ?_
    rintro e w6 ⟨rfl, hL6⟩
    have A4 := vl (keysAB hL6)
    rw [show ∀ p q : Int × Int, abN (some p) (some q) = 2 from fun _ _ => rfl] at A4
    unfold lptr at A4
    clear hL6 A3
    go_wp2_with fail
    refine A4.out.mono ?_
    rintro e w7 ⟨⟨ka', kc', rfl⟩, hL7⟩
    have HB := vl hL7.old
    clear hL7 A4
    go_wp2
    go_ret
    exact ⟨rfl, HB.out⟩
end Go.Proofs.Ytdcjkdoedkjpfai
