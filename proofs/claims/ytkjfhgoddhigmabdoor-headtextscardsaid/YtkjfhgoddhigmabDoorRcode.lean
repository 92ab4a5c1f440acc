/-
  CONTRACTS of the Go functions tollref1.Bits and tollref1.Code, for texts of at most 2097152 bytes. No claim by itself.
-/
import Derived.Test.YtkjfhgoddhigmabDoorRbits
import Derived.Test.YtkjfhgoddhigmabDoorRow
namespace Go.Proofs.YtkjfhgoddhigmabDoor
open Go.RowKit
set_option maxRecDepth 100000
def slen : Value → Nat
  | .slice _ n _ => n
  | _ => 0
theorem slen_own {w : World} {base n : Nat} {v : Value} {xs : List Value} (h : w.ownsRow base 5 1 v n xs) : slen v = n ∧ ∃ a cap, v = .slice a n cap ∧ n ≤ cap := by
  obtain ⟨_, ⟨rfl, rfl⟩ | ⟨g, cap, cur, rfl, _, _, hc, _⟩⟩ := h
  · exact ⟨rfl, none, 0, rfl, Nat.le_refl _⟩
  · exact ⟨rfl, _, cap, rfl, hc⟩
theorem shape_n {w : World} {base n : Nat} {v : Value} {xs : List Value} (h : w.ownsRow base 5 1 v n xs) (hn : 1 ≤ n) : ∃ g cap, v = .slice (some ⟨g, 0, none⟩) n cap := by
  obtain ⟨_, ⟨_, h0⟩ | ⟨g, cap, cur, hv, _⟩⟩ := h
  · omega
  · exact ⟨g, cap, hv⟩
theorem own_mono {w : World} {base base' n : Nat} {v : Value} {xs : List Value} (h : w.ownsRow base 5 1 v n xs) (hb : base' ≤ base) : w.ownsRow base' 5 1 v n xs := by
  obtain ⟨h1, h2 | ⟨g, cap, cur, hv, hg, r⟩⟩ := h
  · exact ⟨h1, Or.inl h2⟩
  · exact ⟨h1, Or.inr ⟨g, cap, cur, hv, Nat.le_trans hb hg, r⟩⟩
set_option maxRecDepth 100000 in
set_option maxHeartbeats 4000000 in
theorem rcode_any (s : ByteArray) (w : World) (hs : s.size ≤ 2097152) :
    Calls Tryd.prog 33 #[.string s] w fun e w' => ∃ v, e = .returned v ∧ w'.ownsRow w.heap.size 5 1 v (codeL (nums s)).length ((codeL (nums s)).map (Value.int .u8)) ∧ Below w.heap.size w w' := by
  obtain ⟨i0, hi, hz0, hz1, hz2⟩ := info_parts info5
  have RB := rbits_any s w hs
  have hBl : (bitsL (nums s)).length ≤ 18874368 := by
    have h1 := (bitsL_len (nums s)).2
    rw [nums_len] at h1; omega
  have HBit : Hid (∀ y ∈ bitsL (nums s), y = 0 ∨ y = 1) := bitsL_bit (nums s)
  have HC : Hid (codeL (nums s) = pack ((fill (bitsL (nums s))).length / 8) (fill (bitsL (nums s)))) := rfl
  generalize bitsL (nums s) = B at *
  have HRB : Hid (Calls Tryd.prog 46 #[.string s] w fun e w' => ∃ v, e = .returned v ∧ w'.ownsRow w.heap.size 5 1 v B.length (B.map (Value.int .u8)) ∧ Below w.heap.size w w') := RB
  clear RB
  go_enter Tryd.func33, Tryd.ntmps33
  go_wp2_with fail
  refine HRB.out.mono ?_
  rintro e w1 ⟨v0, rfl, hown0, hb0⟩
  clear HRB
  go_wp2_with fail
  go_loopw [3] (fun v wr => ∃ m : Nat, m ≤ (8 - B.length % 8) % 8 ∧ wr.ownsRow w.heap.size 5 1 v (B.length + m) ((B ++ List.replicate m 1).map (Value.int .u8)) ∧ Below w.heap.size w wr) (fun v _ => (8 - slen v % 8) % 8)
  case atStart => exact ⟨0, by omega, by simpa using hown0, hb0⟩
  case round =>
    clear hown0 hb0
    obtain ⟨m, hm, hown, hbel⟩ := hrel
    have hsz := hbel.size
    obtain ⟨hsl, a, cap, rfl, hcap⟩ := slen_own hown
    by_cases hmod : (B.length + m) % 8 = 0
    · have em : m = (8 - B.length % 8) % 8 := by omega
      have hF : B ++ List.replicate m 1 = fill B := by unfold fill; rw [em]
      have hFl : B.length + m = (fill B).length := by rw [fill_len, em]
      rw [hF] at hown
      have HFB : Hid (∀ y ∈ fill B, y = 0 ∨ y = 1) := fill_bit B HBit.out
      obtain ⟨N, hN⟩ : ∃ N, (fill B).length = 8 * N := ⟨(fill B).length / 8, by omega⟩
      have hN8 : B.length + m = 8 * N := by omega
      have hNb : 8 * N ≤ 18874376 := by omega
      have HC2 : Hid (codeL (nums s) = pack N (fill B)) := by
        show codeL (nums s) = pack N (fill B)
        rw [HC.out, hN, Nat.mul_div_cancel_left _ (by decide)]
      have HNF : Hid ((fill B).length = 8 * N) := hN
      rw [hN8] at hown hcap ⊢
      generalize fill B = F at *
      have hd : (((8 * N : Nat) : Int) % 8 != 0) = false := by
        have : ((8 * N : Nat) : Int) % 8 = 0 := by omega
        rw [this]; rfl
      clear hm hmod em hF hFl hN hN8 HC HBit hsl hBl
      obtain ⟨W1, rfl⟩ : ∃ W1, W1 = wr := ⟨wr, rfl⟩
      go_wp2_with fail
      go_loopw [4, 5] (fun v i wz => ∃ k : Nat, i = .int .i64 (8 * (k : Int)) ∧ k ≤ N ∧ wz.ownsRow W1.heap.size 5 1 v k ((pack k F).map (Value.int .u8)) ∧ Below W1.heap.size W1 wz) (fun _ i _ => 8 * N - (intOf i).toNat)
      case atStart => exact ⟨0, rfl, by omega, World.ownsRow_nil _ _ _ _, Below.refl _ _⟩
      case round =>
        obtain ⟨k, rfl, hk, hownb, hbz⟩ := hrel
        have hszb := hbz.size
        by_cases hlt : k < N
        · obtain ⟨g, cg, ha⟩ := shape_n hown (by omega)
          cases ha
          have hr1 := row_of HNF.out hown (fun x hx => by have := HFB.out x hx; omega)
          have hr2 := hr1.below hbz
          have HR2 : Hid (∀ t, t < 8 * N → wr.cell? ⟨g, t, none⟩ = some (.int .u8 (F.getD t 0))) := by
            intro t ht
            have := hr2.hcell t ht
            rwa [Nat.zero_add] at this
          have hcm := hr1.hmax
          unfold maxLen at hcm
          have HPS : Hid (pack (k + 1) F = pack k F ++ [val ((F.drop (8 * k)).take 8)]) := pack_snoc k F
          clear hr1 hr2
          go_wp2_with fail
          go_loop [6, 7] (fun x j => ∃ t : Nat, j = .int .i64 t ∧ t ≤ 8 ∧ x = .int .i64 (val ((F.drop (8 * k)).take t))) (fun _ j => 8 - (intOf j).toNat)
          case atStart => exact ⟨0, rfl, by omega, rfl⟩
          case round =>
            obtain ⟨t, rfl, ht, rfl⟩ := hrel
            have hvb := val_bd ((F.drop (8 * k)).take t) (fun y hy => HFB.out y (List.drop_subset _ _ (List.take_subset _ _ hy)))
            have hvl : ((F.drop (8 * k)).take t).length = t := by simp [HNF.out]; omega
            rw [hvl] at hvb
            have hp := pow2_bd t ht
            by_cases htl : t < 8
            · have hcell := HR2.out (8 * k + t) (by omega)
              have hy := bit_getD F HFB.out (8 * k + t)
              have ey : (F.drop (8 * k)).getD t 0 = F.getD (8 * k + t) 0 := by simp [List.getD]
              have HV : Hid (val ((F.drop (8 * k)).take (t + 1)) = val ((F.drop (8 * k)).take t) * 2 + F.getD (8 * k + t) 0) := val_take _ t _ (by simp [HNF.out]; omega) ey
              have hv1 : val ((F.drop (8 * k)).take t) ≤ 255 := by omega
              have hv0 := hvb.1
              generalize F.getD (8 * k + t) 0 = y at *
              generalize val ((F.drop (8 * k)).take t) = x at *
              have hy0 : 0 ≤ y := by omega
              have hy1 : y ≤ 1 := by omega
              clear hvb hvl hp hy ey
              go_wp2
              go_round
              case rel => exact ⟨t + 1, by go_num, by omega, by rw [HV.out]⟩
              case measure => simp [intOf]; omega
            · obtain rfl : t = 8 := by omega
              have hv0 := hvb.1
              have hv1 : val ((F.drop (8 * k)).take 8) ≤ 255 := by omega
              have HPS2 := HPS.out
              generalize val ((F.drop (8 * k)).take 8) = x at *
              have HPS3 : Hid (pack (k + 1) F = pack k F ++ [x]) := HPS2
              clear HPS2 HPS hvb hvl hp
              go_wp2_with (at_builtin; refine wpList_append_own _ rfl _ _ 50 rfl W1.heap.size 5 i0 (.int .u8 0) 1 1 Tryd.underlying50 hi hz0 hz1 hz2 rfl (by decide) _ _ _ rfl (hownb.alloc _) ⟨_, 0, none⟩ 1 1 [.int .u8 x] rfl rfl ?b1 ?b2 ?b3 ?b4 ?b5 ?_)
              case b2 => first | rfl | (intro u hu; simp at hu; subst hu; rfl)
              case b3 => unfold maxLen; omega
              case b4 => omega
              case b5 => first | omega | (simp; omega)
              intro v' w3 hown' hgrow _
              have hb3 : Below W1.heap.size W1 w3 := (hbz.alloc hszb _).grown hgrow (by simp; omega) (fun k hk => (hownb.lt k hk).1)
              have hfin : w3.ownsRow W1.heap.size 5 1 v' (k + 1) ((pack (k + 1) F).map (Value.int .u8)) := by
                rw [HPS3.out]; simpa using hown'
              have Hfin : Hid (w3.ownsRow W1.heap.size 5 1 v' (k + 1) ((pack (k + 1) F).map (Value.int .u8))) := hfin
              clear hfin hown' hgrow hownb
              go_wp2
              go_roundw
              case rel => exact ⟨k + 1, by go_num, by omega, Hfin.out, hb3⟩
              case measure => simp [intOf]; omega
        · obtain rfl : k = N := by omega
          go_wp2
          go_ret
          refine ⟨_, rfl, ?_, hbel.trans (hbz.mono hsz)⟩
          rw [HC2.out, pack_len]
          exact own_mono hownb hsz
    · have hcmp : (((B.length + m : Nat) : Int) % 8 != 0) = true := by
        rw [bne_iff_ne]; omega
      go_wp2_with (at_builtin; refine wpList_append_own _ rfl _ _ 50 rfl w.heap.size 5 i0 (.int .u8 0) 1 1 Tryd.underlying50 hi hz0 hz1 hz2 rfl (by decide) _ _ _ rfl (hown.alloc _) ⟨_, 0, none⟩ 1 1 [.int .u8 1] rfl rfl ?a1 ?a2 ?a3 ?a4 ?a5 ?_)
      case a1 => exact cell_one_new _ _ _
      case a2 => intro u hu; simp at hu; subst hu; rfl
      case a3 => unfold maxLen; omega
      case a4 => omega
      case a5 => simp; omega
      intro v' w3 hown' hgrow _
      have hb3 : Below w.heap.size w w3 := (hbel.alloc hsz _).grown hgrow (by simp; omega) (fun k hk => (hown.lt k hk).1)
      have hfin : w3.ownsRow w.heap.size 5 1 v' (B.length + (m + 1)) ((B ++ List.replicate (m + 1) 1).map (Value.int .u8)) := by
        rw [List.replicate_succ']
        simpa [Nat.add_assoc] using hown'
      have hsl' := (slen_own hfin).1
      have Hfin : Hid (w3.ownsRow w.heap.size 5 1 v' (B.length + (m + 1)) ((B ++ List.replicate (m + 1) 1).map (Value.int .u8))) := hfin
      have Hsl : Hid (slen v' = B.length + (m + 1)) := hsl'
      clear hfin hown' hgrow hown hsl'
      go_wp2
      go_roundw
      case rel => exact ⟨m + 1, by omega, Hfin.out, hb3⟩
      case measure => rw [Hsl.out, hsl]; omega
end Go.Proofs.YtkjfhgoddhigmabDoor
