/-
  THE WALK of the Go function tolllaw5.ChunkLengths, its callee by its contract. No claim by itself.
-/
import Derived.Test.YtkigdhcnfdmfhafDoorUspec
import Derived.Deep.DeepCutAuto
namespace Go.Proofs.YtkigdhcnfdmfhafDoor
open Go.RowKit
set_option maxRecDepth 100000
theorem end_text : strOfNums endL = ⟨#[48, 13, 10, 13, 10]⟩ := rfl
theorem lens_step {s : Nat} (hs : 1 ≤ s) {B : List Int} {t n wt : Nat} (ht : t < B.length) (hn : n = min s (B.length - t)) (h : wt + (chunkL s (B.drop t)).length = 5 + (chunkL s B).length) :
    wt + n + (hexL n).length + 4 + (chunkL s (B.drop (t + n))).length = 5 + (chunkL s B).length := by
  have e := congrArg List.length (chunk_more hs (B := B.drop t) (by intro e; have := congrArg List.length e; simp at this; omega))
  rw [List.length_append, piece_len, List.drop_drop] at e
  have e1 : (List.take s (List.drop t B)).length = n := by simp; omega
  rw [e1] at e
  by_cases hc : s ≤ B.length - t
  · have e2 : n = s := by omega
    rw [e2] at e ⊢
    omega
  · have e3 : B.drop (t + s) = [] := List.drop_eq_nil_of_le (by omega)
    have e4 : B.drop (t + n) = [] := List.drop_eq_nil_of_le (by omega)
    rw [e3] at e
    rw [e4]
    omega
set_option maxHeartbeats 2000000 in
theorem ulens_ok (hE : UEncSaid) (a : Option Addr) (len cap : Nat) (B : List Int) (size : Int) (w : World) (hA : Arg w a len cap B) (hi : I64 size) (hl : len ≤ 140737488355328) (hu : ULaid w) :
    Calls Tryd.prog 4 #[.slice a len cap, .int .i64 size] w fun e w' => e = .returned (.bool true) ∧ Below w.heap.size w w' := by
  have HE := vl hE
  have HA := vl hA
  have HI := vl hi
  have hlen := hA.len
  have HU := vl hu
  clear hE hA hi hu
  have H0 := vl (HE.out none 0 0 [] 5 w (arg_nil w none 0) (by unfold I64; omega) HU.out)
  rw [show chunksF [] 5 = (0, endL) by simp [chunksF, chunk_nil]] at H0
  unfold errW at H0
  simp only [if_true] at H0
  go_enter Tryd.func4, Tryd.ntmps4
  go_wp2_with fail
  refine H0.out.mono ?_
  rintro e w1 ⟨v1, rfl, ho1, hb1⟩
  have cv := ho1.text
  rw [end_text] at cv
  have HB1 := vl hb1
  have H1 := vl (HE.out a len cap B size w1 (HA.out.below hb1) HI.out (HU.out.below hb1))
  clear H0 ho1 hb1
  go_wp2_with fail
  refine H1.out.mono ?_
  rintro e w2 ⟨v2, rfl, ho2, hb2⟩
  have HB2 : Vl (Below w.heap.size w w2) := HB1.out.trans (hb2.mono HB1.out.size)
  obtain ⟨a2, cap2, rfl, hc2, hm2⟩ := ho2.slice
  clear H1 HB1 hb2 cv ho2 hc2 hm2
  obtain ⟨i1, i2⟩ := HI.out
  by_cases h1 : size < 1
  · have e1 : chunksF B size = (1, []) := by unfold chunksF; rw [if_pos (Or.inl h1)]
    rw [e1]
    unfold errW
    go_wp2
    go_ret
    exact ⟨rfl, HB2.out⟩
  have h1' : 1 ≤ size := by omega
  by_cases h2 : 8000 < size
  · have e1 : chunksF B size = (1, []) := by unfold chunksF; rw [if_pos (Or.inr h2)]
    rw [e1]
    unfold errW
    go_wp2
    go_ret
    exact ⟨rfl, HB2.out⟩
  have h2' : size ≤ 8000 := by omega
  by_cases h3 : 8000 < len
  · have e1 : chunksF B size = (4, []) := by unfold chunksF; rw [if_neg (by omega), if_pos (by omega)]
    have h3' : (8000 : Int) < (len : Int) := by omega
    rw [e1]
    unfold errW
    go_wp2
    go_ret
    exact ⟨rfl, HB2.out⟩
  obtain ⟨s, rfl⟩ : ∃ s : Nat, size = s := ⟨size.toNat, by omega⟩
  have e1 : chunksF B (s : Int) = (0, chunkL s B) := by unfold chunksF; rw [if_neg (by omega), if_neg (by omega)]; simp
  rw [e1]
  have hs : 1 ≤ s := by omega
  have hs' : s ≤ 8000 := by omega
  have h3' : len ≤ 8000 := by omega
  have hmx := chunk_len_le hs B.length B (Nat.le_refl _)
  obtain ⟨T, hT⟩ : ∃ T, (chunkL s B).length = T := ⟨_, rfl⟩
  simp only [hT]
  have HT := vl hT
  rw [hT] at hmx
  unfold errW
  clear hT e1 HI i1 i2 h1 h2 h3 h1' h2'
  go_wp2_with fail
  go_loopw [9, 10] (fun x y wr => ∃ t wt : Nat, x = .int .i64 wt ∧ y = .int .i64 ((len - t : Nat) : Int) ∧ t ≤ len ∧ wt ≤ 60000 ∧ Vl (wt + (chunkL s (B.drop t)).length = 5 + T) ∧ Vl (Below w.heap.size w wr)) (fun _ y _ => (intOf y).toNat)
  case atStart => exact ⟨0, 5, rfl, by simp, by omega, by omega, (by show _ + _ = _; rw [List.drop_zero, HT.out]), HB2.out⟩
  case round =>
    obtain ⟨t, wt, rfl, rfl, ht, hw, HK, HB⟩ := hrel
    clear HB2
    by_cases hz : t = len
    · subst hz
      have hz' : ¬ ((0 : Int) < ((t - t : Nat) : Int)) := by omega
      have he : (wt : Int) = (T : Int) := by
        have := HK.out
        rw [List.drop_eq_nil_of_le (by omega), chunk_nil] at this
        simp [endL] at this
        omega
      go_wp2
      go_ret
      exact ⟨by first | rfl | simp [he] | (simp; omega), HB.out⟩
    · obtain ⟨n, hn⟩ : ∃ n, n = min s (len - t) := ⟨_, rfl⟩
      have hz' : (0 : Int) < ((len - t : Nat) : Int) := by omega
      have HST := vl (lens_step hs (B := B) (t := t) (n := n) (wt := wt) (by omega) (by rw [hlen]; exact hn) (by rw [HT.out]; exact HK.out))
      rw [HT.out] at HST
      obtain ⟨lf, hlf⟩ : ∃ lf, lf = len - t := ⟨_, rfl⟩
      rw [← hlf] at hz' hn ⊢
      have hx8 := hexL_le n
      have HLF := vl hlf
      have hn1 : 1 ≤ n := by omega
      have hn2 : n ≤ 8000 := by omega
      have hn3 : n ≤ lf := by omega
      have hlb : lf ≤ 8000 := by omega
      clear hlf hx8 HK
      have GO : Vl ((n : Int) = if (lf : Int) < (s : Int) then (lf : Int) else (s : Int)) := by show (n : Int) = _; split <;> omega
      by_cases hls : (lf : Int) < (s : Int)
      · obtain rfl : n = lf := by have := GO.out; rw [if_pos hls] at this; omega
        clear GO hn
        go_wp2_with fail
        obtain ⟨wB, hwB⟩ : ∃ wB, wB = wr := ⟨_, rfl⟩
        subst hwB
        go_loopw [12, 13] (fun d x wq => ∃ dd xx : Nat, d = .int .i64 dd ∧ x = .int .i64 xx ∧ xx ≤ 8000 ∧ dd ≤ 9000 ∧ dd + xx ≤ 8001 ∧ Vl (dd + (hexL xx).length = 1 + (hexL n).length) ∧ Vl (wq = wB)) (fun _ x _ => (intOf x).toNat)
        case atStart => exact ⟨1, n, rfl, rfl, by omega, by omega, by omega, rfl, rfl⟩
        case round =>
          obtain ⟨dd, xx, rfl, rfl, hxx, hdd, hdx, HD, HW⟩ := hrel
          obtain rfl := HW.out
          by_cases h15 : 15 < xx
          · have h15' : (15 : Int) < (xx : Int) := by omega
            have HD2 : Vl (dd + 1 + (hexL (xx / 16)).length = 1 + (hexL n).length) := by
              have := HD.out
              rw [hex_len (by omega)] at this
              show _ = _
              omega
            go_wp2
            go_roundw
            case rel => exact ⟨dd + 1, xx / 16, by go_num, by go_num, by omega, by omega, by omega, HD2.out, by first | rfl | trivial⟩
            case measure => simp [intOf]; omega
          · have h15' : ¬ ((15 : Int) < (xx : Int)) := by omega
            have hd : dd = (hexL n).length := by
              have := HD.out
              rw [hexL_one (by omega)] at this
              simp at this
              omega
            have HN := vl (hd ▸ HST.out)
            clear HD HW HST hd
            go_wp2
            go_roundw
            case rel => exact ⟨t + n, wt + n + dd + 4, by go_num, by have := HLF.out; go_num, by have := HLF.out; omega, by have := HN.out; omega, HN.out, HB.out⟩
            case measure => simp [intOf]; omega
      · obtain rfl : n = s := by have := GO.out; rw [if_neg hls] at this; omega
        clear GO hn
        go_wp2_with fail
        obtain ⟨wB, hwB⟩ : ∃ wB, wB = wr := ⟨_, rfl⟩
        subst hwB
        go_loopw [12, 13] (fun d x wq => ∃ dd xx : Nat, d = .int .i64 dd ∧ x = .int .i64 xx ∧ xx ≤ 8000 ∧ dd ≤ 9000 ∧ dd + xx ≤ 8001 ∧ Vl (dd + (hexL xx).length = 1 + (hexL n).length) ∧ Vl (wq = wB)) (fun _ x _ => (intOf x).toNat)
        case atStart => exact ⟨1, n, rfl, rfl, by omega, by omega, by omega, rfl, rfl⟩
        case round =>
          obtain ⟨dd, xx, rfl, rfl, hxx, hdd, hdx, HD, HW⟩ := hrel
          obtain rfl := HW.out
          by_cases h15 : 15 < xx
          · have h15' : (15 : Int) < (xx : Int) := by omega
            have HD2 : Vl (dd + 1 + (hexL (xx / 16)).length = 1 + (hexL n).length) := by
              have := HD.out
              rw [hex_len (by omega)] at this
              show _ = _
              omega
            go_wp2
            go_roundw
            case rel => exact ⟨dd + 1, xx / 16, by go_num, by go_num, by omega, by omega, by omega, HD2.out, by first | rfl | trivial⟩
            case measure => simp [intOf]; omega
          · have h15' : ¬ ((15 : Int) < (xx : Int)) := by omega
            have hd : dd = (hexL n).length := by
              have := HD.out
              rw [hexL_one (by omega)] at this
              simp at this
              omega
            have HN := vl (hd ▸ HST.out)
            clear HD HW HST hd
            go_wp2
            go_roundw
            case rel => exact ⟨t + n, wt + n + dd + 4, by go_num, by have := HLF.out; go_num, by have := HLF.out; omega, by have := HN.out; omega, HN.out, HB.out⟩
            case measure => simp [intOf]; omega
end Go.Proofs.YtkigdhcnfdmfhafDoor
