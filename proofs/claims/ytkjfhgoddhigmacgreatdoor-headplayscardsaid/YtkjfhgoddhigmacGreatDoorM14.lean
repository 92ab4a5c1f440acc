/-
  CONTRACT of the Go function tollref1.Decode, for at most 2097152 bytes. No claim by itself.
-/
import Derived.Deep.RegionHeld3
import Derived.Deep.AppendLies
import Derived.Deep.QuietTactic
import Derived.BigQuiet
import Derived.Test.YtkjfhgoddhigmacGreatDoorM12
import Derived.Test.YtkjfhgoddhigmacGreatDoorM13
import Derived.Test.YtkjfhgoddhigmacGreatDoorM07
namespace Go.Proofs.YtkjfhgoddhigmacGreatDoor
open Go.RowKit
set_option maxRecDepth 100000
/-- What a reading of bytes as a text gives. -/
def ToldText (d : Option (List Int)) (st : ByteArray) (ok : Bool) : Prop :=
  (∃ t, d = some t ∧ ok = true ∧ st = strOfNums t) ∨ (d = none ∧ ok = false ∧ st = ⟨#[]⟩)
theorem string_of_own {w : World} {base n : Nat} {v : Value} {O : List Int} (hn : O.length = n) (h : w.ownsRow base 5 1 v n (O.map (Value.int .u8))) :
    (convert 35 9 v).run Tryz.prog w = .ok (.string (strOfNums O)) w := by
  obtain ⟨h1, ⟨rfl, h0⟩ | ⟨g, cap, cur, rfl, hb, hc, h2⟩⟩ := id h
  · have e : O = [] := List.eq_nil_of_length_eq_zero (by omega)
    rw [e, run_convert_bytes_nil (P := Tryz.prog) w 35 5 Tryz.underlying35 Tryz.underlying5 0 0 9 Tryz.underlying9]
    rfl
  · refine run_convert_bytes_arg w 35 5 Tryz.underlying35 Tryz.underlying5 g 0 n cap O hn (fun i hi => ?_) 9 Tryz.underlying9
    have hcc := h.cellAt i (by omega)
    rw [Nat.zero_add, hcc]
    simp [List.getElem?_eq_getElem (show i < O.length by omega)]
theorem mem_drop {U r : List Int} {y : Int} {t n : Nat} (h : U.drop t = y :: r) (hn : U.length = n) : ∀ z, z ∈ y :: r ↔ ∃ q, t ≤ q ∧ q < n ∧ U.getD q 0 = z := by
  intro z
  rw [← h]
  constructor
  · intro hz
    obtain ⟨i, hi, rfl⟩ := List.getElem_of_mem hz
    rw [List.length_drop] at hi
    refine ⟨t + i, by omega, by omega, ?_⟩
    rw [List.getElem_drop]
    simp [List.getD, List.getElem?_eq_getElem (show t + i < U.length by omega)]
  · rintro ⟨q, h1, h2, rfl⟩
    have e : U.getD q 0 = (U.drop t)[q - t]'(by rw [List.length_drop]; omega) := by
      rw [List.getElem_drop]
      have : t + (q - t) = q := by omega
      simp [List.getD, List.getElem?_eq_getElem (show q < U.length by omega), this]
    rw [e]
    exact List.getElem_mem _
theorem map_snoc (d : Option (List Int)) (O : List Int) (o : Int) : (d.map (o :: ·)).map (O ++ ·) = d.map ((O ++ [o]) ++ ·) := by
  cases d <;> simp
set_option maxRecDepth 100000 in
set_option maxHeartbeats 8000000 in
theorem rdecode_row (gz oz len cap : Nat) (Z : List Int) (w : World) (hr : Row w gz oz len cap Z) (hs : len ≤ 2097152) :
    Calls Tryz.prog 78 #[.slice (some ⟨gz, oz, none⟩) len cap] w fun e w' => ∃ st ok, e = .returned (.tuple #[.string st, .bool ok]) ∧ ToldText (decF Z) st ok ∧ Below w.heap.size w w' := by
  obtain ⟨i0, hi, hz0, hz1, hz2⟩ := info_parts info5
  have hcap := hr.hcap
  have hmax := hr.hmax
  unfold maxLen at hmax
  have HCELL : Hid (∀ wx, Below w.heap.size w wx → ∀ t, t < len → wx.cell? ⟨gz, oz + t, none⟩ = some (.int .u8 (Z.getD t 0))) := fun wx hb => (hr.below hb).hcell
  have HBY : Hid (∀ t, 0 ≤ Z.getD t 0 ∧ Z.getD t 0 < 256) := hr.hbyte
  have HZL : Hid (Z.length = len) := hr.hlen
  go_enter Tryz.func78, Tryz.ntmps78
  go_wp2_with fail
  go_loopw [4, 5] (fun v i wr => ∃ k : Nat, i = .int .i64 k ∧ k ≤ len ∧ wr.ownsRow w.heap.size 5 1 v (8 * k) ((unpack (Z.take k)).map (Value.int .u8)) ∧ Below w.heap.size w wr) (fun _ i _ => len - (intOf i).toNat)
  case atStart => exact ⟨0, rfl, by omega, World.ownsRow_nil _ _ _ _, Below.refl _ _⟩
  case round =>
    obtain ⟨k, rfl, hk, hown, hbel⟩ := hrel
    have hsz := hbel.size
    by_cases hlt : k < len
    · have hby := HBY.out k
      have HT : Hid (unpack (Z.take (k + 1)) = unpack (Z.take k) ++ bin 8 (Z.getD k 0)) := unpack_take Z k _ (by rw [HZL.out]; exact hlt) rfl
      have HPL : Hid ((unpack (Z.take k)).length = 8 * k) := by
        show (unpack (Z.take k)).length = 8 * k
        rw [unpack_len, List.length_take, HZL.out]; omega
      have HCK : Hid (∀ wx, Below w.heap.size w wx → wx.cell? ⟨gz, oz + k, none⟩ = some (.int .u8 (Z.getD k 0))) := fun wx hb => HCELL.out wx hb k hlt
      generalize Z.getD k 0 = c at *
      generalize unpack (Z.take k) = P at *
      obtain ⟨c0, c1⟩ := hby
      go_wp2_with fail
      go_loopw [4, 6] (fun v j wi => ∃ (pre : List Int) (m : Nat), j = .int .i64 ((m : Int) - 1) ∧ m ≤ 8 ∧ pre.length + m = 8 * (k + 1) ∧ Hid (unpack (Z.take (k + 1)) = pre ++ bin m c) ∧ wi.ownsRow w.heap.size 5 1 v pre.length (pre.map (Value.int .u8)) ∧ Below w.heap.size w wi) (fun _ j _ => (intOf j + 1).toNat)
      case atStart => exact ⟨P, 8, rfl, by omega, by rw [HPL.out]; omega, HT, by rw [HPL.out]; exact hown, hbel⟩
      case round =>
        clear hown
        obtain ⟨pre, m, rfl, hm, hpm, HQ, howni, hbeli⟩ := hrel
        have hszi := hbeli.size
        by_cases hm0 : m = 0
        · subst hm0
          have HL : Hid (unpack (Z.take (k + 1)) = pre) := by
            show unpack (Z.take (k + 1)) = pre
            rw [HQ.out]; simp [bin]
          clear HQ
          go_wp2
          go_roundw
          case rel => exact ⟨k + 1, by go_num, by omega, by rw [HL.out, show 8 * (k + 1) = pre.length from by omega]; exact howni, hbeli⟩
          case measure => simp [intOf]; omega
        · obtain ⟨j, rfl⟩ : ∃ j, m = j + 1 := ⟨m - 1, by omega⟩
          have HL : Hid (unpack (Z.take (k + 1)) = (pre ++ [c / 2 ^ j % 2]) ++ bin j c) := by
            show unpack (Z.take (k + 1)) = (pre ++ [c / 2 ^ j % 2]) ++ bin j c
            rw [HQ.out]; simp [bin]
          have ej : (((j + 1 : Nat) : Int) - 1) = (j : Int) := by omega
          rw [ej]
          have hp := pow2_bd j (by omega)
          have G2 : Hid (gr (j : Int) + 1 = 2 ^ j) := gr_pow j
          have hq0 : 0 ≤ c / 2 ^ j := Int.ediv_nonneg c0 (by omega)
          have hq1 : c / 2 ^ j ≤ c := Int.ediv_le_self _ c0
          have hcc := HCK.out wr hbeli
          generalize (2 : Int) ^ j = p at *
          clear HQ
          have hk0 : (0 : Int) ≤ (k : Int) := Int.natCast_nonneg _
          obtain ⟨hp1, hp2⟩ := hp
          have hpb : (p == 0) = false := by rw [beq_eq_false_iff_ne]; omega
          have hpn : ¬ p = 0 := by omega
          have HV : Hid (IntKind.u8.wrap ((IntKind.i64.wrap ((IntKind.i64.wrap c).tdiv p)).tmod 2) = c / p % 2) := by
            show IntKind.u8.wrap ((IntKind.i64.wrap ((IntKind.i64.wrap c).tdiv p)).tmod 2) = c / p % 2
            have e1 : IntKind.i64.wrap c = c := by rw [IntKind.wrap_i64]; omega
            have e2 : IntKind.i64.wrap (c / p) = c / p := by rw [IntKind.wrap_i64]; omega
            rw [e1, Int.tdiv_eq_ediv_of_nonneg c0, e2, Int.tmod_eq_emod_of_nonneg hq0, IntKind.wrap_u8']; omega
          have hk1 : (k : Int) < (len : Int) := by omega
          have hpl : pre.length + 1 ≤ 16777224 := by omega
          have hpm1 : pre.length + 1 ≤ maxLen := by unfold maxLen; omega
          have hpm2 : (pre.length + 1) * 1 ≤ 140737488355328 := by omega
          have hbs : w.heap.size ≤ wr.heap.size + 1 := by omega
          go_wp2_with fail
          go_region_held3 (fun w' => w'.cell? ⟨gz, oz + k, none⟩ = some (.int .u8 c))
            (first | go_keep | (exact HCK.out _ ((hbeli.alloc hszi _).drew.grown hgrow (by simp; omega) (fun k hk => (howni.lt k hk).1))))
            (first
              | (go_at_call 36; refine (pow_any _ _ (by omega) (by omega)).mono ?_; rintro e w' ⟨rfl, rfl⟩; rw [G2.out])
              | (refine step_append_lies _ (by rfl) _ _ _ (by rfl) w.heap.size 5 i0 _ 1 1 Tryz.underlying35 hi hz0 hz1 hz2 rfl (by decide) u4 pre.length (pre.map (Value.int .u8)) (by rfl) ((howni.alloc _).drew) ⟨wr.heap.size, 0, none⟩ 1 1 [.int .u8 (IntKind.u8.wrap ((IntKind.i64.wrap ((IntKind.i64.wrap c).tdiv p)).tmod 2))] (by rfl) (by rfl) (World.news_of_block (cs := #[.int .u8 (IntKind.u8.wrap ((IntKind.i64.wrap ((IntKind.i64.wrap c).tdiv p)).tmod 2))]) (t := 5) (fr := (0, 0)) (heap_alloc_new _ _)) (by simp [Value.oneCell']) (by decide) hpm1 hpm2 (by simpa using hbs) (wr.heap.size + 1) (by simp) ?_; intro gg cg w3 hown' hgrow hat hlt2))
          rw [HV.out] at hown'
          have hb3 : Below w.heap.size w w3 := (hbeli.alloc hszi _).drew.grown hgrow (by simp; omega) (fun k hk => (howni.lt k hk).1)
          have hfin : w3.ownsRow w.heap.size 5 1 (.slice (some ⟨gg, 0, none⟩) (pre.length + 1) cg) (pre ++ [c / p % 2]).length ((pre ++ [c / p % 2]).map (Value.int .u8)) := by
            simpa using hown'
          have Hfin : Hid (w3.ownsRow w.heap.size 5 1 (.slice (some ⟨gg, 0, none⟩) (pre.length + 1) cg) (pre ++ [c / p % 2]).length ((pre ++ [c / p % 2]).map (Value.int .u8))) := hfin
          clear hfin hown' hgrow howni hat
          go_wp2
          go_roundw
          case rel => exact ⟨_, j, rfl, by omega, by simp; omega, HL, Hfin.out, hb3⟩
          case measure => simp [intOf]
    · obtain rfl : k = len := by omega
      have ek : Z.take k = Z := List.take_of_length_le (by rw [HZL.out]; exact Nat.le_refl _)
      rw [ek] at hown
      have HUL : Hid ((unpack Z).length = 8 * k) := by show (unpack Z).length = 8 * k; rw [unpack_len, HZL.out]
      have HUB : Hid (∀ y ∈ unpack Z, y = 0 ∨ y = 1) := unpack_bit Z
      have HD : Hid (decF Z = (dec ((unpack Z).drop 0)).map ([] ++ ·)) := by
        show decF Z = (dec ((unpack Z).drop 0)).map ([] ++ ·)
        rw [decF_dec, List.drop_zero]; cases dec (unpack Z) <;> simp
      generalize unpack Z = U at *
      obtain ⟨hsl, av, cv, rfl, hcv⟩ := slen_own hown
      have hN : 8 * k ≤ 16777216 := by omega
      clear ek hsl hlt hk HCELL HBY
      obtain ⟨W1, rfl⟩ : ∃ W1, W1 = wr := ⟨wr, rfl⟩
      go_wp2_with fail
      go_loopw [7, 8] (fun v i wz => ∃ (O : List Int) (t : Nat), i = .int .i64 t ∧ t ≤ 8 * k ∧ O.length ≤ t ∧ Hid (decF Z = (dec (U.drop t)).map (O ++ ·)) ∧ wz.ownsRow W1.heap.size 5 1 v O.length (O.map (Value.int .u8)) ∧ Below W1.heap.size W1 wz) (fun _ i _ => 8 * k - (intOf i).toNat)
      case atStart => exact ⟨[], 0, rfl, by omega, by simp, HD, World.ownsRow_nil _ _ _ _, Below.refl _ _⟩
      case round =>
        clear HD
        obtain ⟨O, t, rfl, ht, hOt, HD, hownb, hbz⟩ := hrel
        have hszb := hbz.size
        by_cases htN : t < 8 * k
        · obtain ⟨g, cg, ha⟩ := shape_n hown (by omega)
          cases ha
          have hr1 := row_of HUL.out hown (fun x hx => by have := HUB.out x hx; omega)
          have hr2 := hr1.below hbz
          have HRC : Hid (∀ q, q < 8 * k → wr.cell? ⟨g, q, none⟩ = some (.int .u8 (U.getD q 0))) := by
            intro q hq
            have := hr2.hcell q hq
            rwa [Nat.zero_add] at this
          have hcm := hr1.hmax
          unfold maxLen at hcm
          have hct := HRC.out t htN
          have hyb := bit_getD U HUB.out t
          have HDT := drop_at U t (U.getD t 0) (by rw [HUL.out]; exact htN) rfl
          obtain ⟨r, hre⟩ : ∃ r, U.drop (t + 1) = r := ⟨_, rfl⟩
          have HRE : Hid (U.drop (t + 1) = r) := hre
          have HRL : Hid (r.length = 8 * k - t - 1) := by show r.length = 8 * k - t - 1; rw [← hre, List.length_drop, HUL.out]; omega
          have HRB : Hid (∀ y ∈ r, y = 0 ∨ y = 1) := by intro y hy; rw [← hre] at hy; exact HUB.out y (List.drop_subset _ _ hy)
          rw [hre] at HDT
          have HD2 : Hid (decF Z = (dec (U.getD t 0 :: r)).map (O ++ ·)) := by
            show decF Z = (dec (U.getD t 0 :: r)).map (O ++ ·)
            rw [← HDT]; exact HD.out
          have HDTT : Hid (U.drop t = U.getD t 0 :: r) := HDT
          clear hr1 hr2 hre HDT HD
          generalize hyy : U.getD t 0 = y at *
          have HYY : Hid (U.getD t 0 = y) := hyy
          clear hyy
          have hcase : (y = 0 ∧ t + 6 ≤ 8 * k) ∨ (y = 1 ∧ t + 9 ≤ 8 * k) ∨ (¬ (y = 0 ∧ t + 6 ≤ 8 * k) ∧ ¬ (y = 1 ∧ t + 9 ≤ 8 * k)) := by omega
          rcases hcase with ⟨hy, h6⟩ | ⟨hy, h9⟩ | ⟨hn6, hn9⟩
          · have e5 := dec_often y r ⟨hy, by have := HRL.out; omega⟩
            have HD3 : Hid (decF Z = (dec (U.drop (t + 6))).map ((O ++ [oft.getD (val (r.take 5)).toNat 0]) ++ ·)) := by
              show decF Z = (dec (U.drop (t + 6))).map ((O ++ [oft.getD (val (r.take 5)).toNat 0]) ++ ·)
              rw [HD2.out, e5, map_snoc, ← HRE.out, List.drop_drop]
            have hy0 : (y == 0) = true := by rw [hy]; rfl
            have h6d : decide (((t : Int) + 6) ≤ 8 * (k : Int)) = true := by simp; omega
            clear e5 HD2 hy hyb
            go_wp2_with fail
            go_loop [9, 10] (fun x j => ∃ q : Nat, j = .int .i64 ((q : Int) + 1) ∧ q ≤ 5 ∧ x = .int .i64 (val (r.take q))) (fun _ j => 6 - (intOf j).toNat)
            case atStart => exact ⟨0, rfl, by omega, rfl⟩
            case round =>
              obtain ⟨q, rfl, hq, rfl⟩ := hrel
              have hvb := val_bd (r.take q) (fun y hy => HRB.out y (List.take_subset _ _ hy))
              have hvl : (r.take q).length = q := by rw [List.length_take]; have := HRL.out; omega
              rw [hvl] at hvb
              have hp := pow2_bd q (by omega)
              by_cases hql : q < 5
              · have hcell := HRC.out (t + 1 + q) (by omega)
                have ey : r.getD q 0 = U.getD (t + 1 + q) 0 := by rw [← HRE.out]; simp [List.getD]
                have hy := bit_getD U HUB.out (t + 1 + q)
                have HV : Hid (val (r.take (q + 1)) = val (r.take q) * 2 + U.getD (t + 1 + q) 0) := val_take _ q _ (by have := HRL.out; omega) ey
                have hv1 : val (r.take q) ≤ 255 := by omega
                have hv0 := hvb.1
                have eadr : t + (q + 1) = t + 1 + q := by omega
                have hcell2 : wr.cell? ⟨g, t + (q + 1), none⟩ = some (.int .u8 (U.getD (t + 1 + q) 0)) := by rw [eadr]; exact hcell
                clear hcell
                generalize U.getD (t + 1 + q) 0 = z at *
                generalize val (r.take q) = x at *
                have hz0' : 0 ≤ z := by omega
                have hz1' : z ≤ 1 := by omega
                clear hvb hvl hp hy ey eadr
                go_wp2
                go_round
                case rel => exact ⟨q + 1, by go_num, by omega, by rw [HV.out]⟩
                case measure => simp [intOf]; omega
              · obtain rfl : q = 5 := by omega
                have hv0 := hvb.1
                have hv1 : val (r.take 5) < 32 := by have := hvb.2; omega
                obtain ⟨xn, hxn⟩ := Int.eq_ofNat_of_zero_le hv0
                have HXN : Hid (val (r.take 5) = (xn : Int)) := hxn
                rw [hxn]
                rw [hxn] at hv1
                have hxl : xn < 32 := by omega
                clear hvb hvl hp hv0 hxn hql

                have hix := oft_at xn hxl
                have HD4 : Hid (decF Z = (dec (U.drop (t + 6))).map ((O ++ [oft.getD xn 0]) ++ ·)) := by
                  have e := HD3.out
                  rw [HXN.out, Int.toNat_natCast] at e
                  exact e
                clear HD3
                generalize oft.getD xn 0 = o at *
                go_wp2_with (at_builtin; refine wpList_append_own _ rfl _ _ 35 rfl W1.heap.size 5 i0 (.int .u8 0) 1 1 Tryz.underlying35 hi hz0 hz1 hz2 rfl (by decide) _ _ _ rfl (hownb.alloc _) ⟨_, 0, none⟩ 1 1 [.int .u8 o] rfl rfl ?e1 ?e2 ?e3 ?e4 ?e5 ?_)
                -- nothing is left of the first
                case e2 => first | rfl | (intro u hu; simp at hu; subst hu; rfl)
                case e3 => unfold maxLen; omega
                case e4 => omega
                case e5 => first | omega | (simp; omega)
                intro v' w3 hown' hgrow _
                have hb3 : Below W1.heap.size W1 w3 := (hbz.alloc hszb _).grown hgrow (by simp; omega) (fun k hk => (hownb.lt k hk).1)
                have hfin : w3.ownsRow W1.heap.size 5 1 v' (O ++ [o]).length ((O ++ [o]).map (Value.int .u8)) := by simpa using hown'
                have Hfin : Hid (w3.ownsRow W1.heap.size 5 1 v' (O ++ [o]).length ((O ++ [o]).map (Value.int .u8))) := hfin
                clear hfin hown' hgrow hownb

                go_wp2
                go_roundw
                case rel => exact ⟨_, t + 6, by go_num, by omega, by simp; omega, HD4, Hfin.out, hb3⟩
                case measure => simp [intOf]; omega
          · by_cases hoi : 0 ≤ oidx (val (r.take 8))
            · have HN : Hid (decF Z = none) := by
                show decF Z = none
                rw [HD2.out, dec_wrong y r ⟨hy, by have := HRL.out; omega⟩ hoi]; rfl
              have HOI : Hid (0 ≤ oidx (val (r.take 8))) := hoi
              have hy0 : (y == 0) = false := by rw [hy]; rfl
              have hy1 : (y == 1) = true := by rw [hy]; rfl
              have h9d : decide (((t : Int) + 9) ≤ 8 * (k : Int)) = true := by simp; omega
              clear hoi HD2 hy hyb
              go_wp2_with fail
              go_loop [11, 12] (fun x j => ∃ q : Nat, j = .int .i64 ((q : Int) + 1) ∧ q ≤ 8 ∧ x = .int .i64 (val (r.take q))) (fun _ j => 9 - (intOf j).toNat)
              case atStart => exact ⟨0, rfl, by omega, rfl⟩
              case round =>
                obtain ⟨q, rfl, hq, rfl⟩ := hrel
                have hvb := val_bd (r.take q) (fun y hy => HRB.out y (List.take_subset _ _ hy))
                have hvl : (r.take q).length = q := by rw [List.length_take]; have := HRL.out; omega
                rw [hvl] at hvb
                have hp := pow2_bd q (by omega)
                by_cases hql : q < 8
                · have hcell := HRC.out (t + 1 + q) (by omega)
                  have ey : r.getD q 0 = U.getD (t + 1 + q) 0 := by rw [← HRE.out]; simp [List.getD]
                  have hy := bit_getD U HUB.out (t + 1 + q)
                  have HV : Hid (val (r.take (q + 1)) = val (r.take q) * 2 + U.getD (t + 1 + q) 0) := val_take _ q _ (by have := HRL.out; omega) ey
                  have hv1 : val (r.take q) ≤ 255 := by omega
                  have hv0 := hvb.1
                  have eadr : t + (q + 1) = t + 1 + q := by omega
                  have hcell2 : wr.cell? ⟨g, t + (q + 1), none⟩ = some (.int .u8 (U.getD (t + 1 + q) 0)) := by rw [eadr]; exact hcell
                  clear hcell
                  generalize U.getD (t + 1 + q) 0 = z at *
                  generalize val (r.take q) = x at *
                  have hz0' : 0 ≤ z := by omega
                  have hz1' : z ≤ 1 := by omega
                  clear hvb hvl hp hy ey eadr
                  go_wp2
                  go_round
                  case rel => exact ⟨q + 1, by go_num, by omega, by rw [HV.out]⟩
                  case measure => simp [intOf]; omega
                · obtain rfl : q = 8 := by omega
                  have hv0 := hvb.1
                  have hv1 : val (r.take 8) < 256 := by have := hvb.2; omega
                  obtain ⟨xn, hxn⟩ := Int.eq_ofNat_of_zero_le hv0
                  have HXN : Hid (val (r.take 8) = (xn : Int)) := hxn
                  rw [hxn]
                  rw [hxn] at hv1
                  have hxl : xn < 256 := by omega
                  clear hvb hvl hp hv0 hxn hql

                  have hoi := HOI.out
                  rw [HXN.out] at hoi
                  clear HOI
                  go_wp2_with fail
                  refine (often_any _ _).mono ?_
                  rintro e w' ⟨rfl, rfl⟩
                  generalize oidx (xn : Int) = o at *
                  go_wp2
                  go_ret2
                  exact ⟨_, _, rfl, Or.inr ⟨HN.out, rfl, rfl⟩, hbel.trans (hbz.mono hsz)⟩
            · have e8 := dec_rare y r ⟨hy, by have := HRL.out; omega⟩ hoi
              have HD3 : Hid (decF Z = (dec (U.drop (t + 9))).map ((O ++ [val (r.take 8)]) ++ ·)) := by
                show decF Z = (dec (U.drop (t + 9))).map ((O ++ [val (r.take 8)]) ++ ·)
                rw [HD2.out, e8, map_snoc, ← HRE.out, List.drop_drop]
              have HOI : Hid (¬ 0 ≤ oidx (val (r.take 8))) := hoi
              have hy0 : (y == 0) = false := by rw [hy]; rfl
              have hy1 : (y == 1) = true := by rw [hy]; rfl
              have h9d : decide (((t : Int) + 9) ≤ 8 * (k : Int)) = true := by simp; omega
              clear hoi e8 HD2 hy hyb
              go_wp2_with fail
              go_loop [11, 12] (fun x j => ∃ q : Nat, j = .int .i64 ((q : Int) + 1) ∧ q ≤ 8 ∧ x = .int .i64 (val (r.take q))) (fun _ j => 9 - (intOf j).toNat)
              case atStart => exact ⟨0, rfl, by omega, rfl⟩
              case round =>
                obtain ⟨q, rfl, hq, rfl⟩ := hrel
                have hvb := val_bd (r.take q) (fun y hy => HRB.out y (List.take_subset _ _ hy))
                have hvl : (r.take q).length = q := by rw [List.length_take]; have := HRL.out; omega
                rw [hvl] at hvb
                have hp := pow2_bd q (by omega)
                by_cases hql : q < 8
                · have hcell := HRC.out (t + 1 + q) (by omega)
                  have ey : r.getD q 0 = U.getD (t + 1 + q) 0 := by rw [← HRE.out]; simp [List.getD]
                  have hy := bit_getD U HUB.out (t + 1 + q)
                  have HV : Hid (val (r.take (q + 1)) = val (r.take q) * 2 + U.getD (t + 1 + q) 0) := val_take _ q _ (by have := HRL.out; omega) ey
                  have hv1 : val (r.take q) ≤ 255 := by omega
                  have hv0 := hvb.1
                  have eadr : t + (q + 1) = t + 1 + q := by omega
                  have hcell2 : wr.cell? ⟨g, t + (q + 1), none⟩ = some (.int .u8 (U.getD (t + 1 + q) 0)) := by rw [eadr]; exact hcell
                  clear hcell
                  generalize U.getD (t + 1 + q) 0 = z at *
                  generalize val (r.take q) = x at *
                  have hz0' : 0 ≤ z := by omega
                  have hz1' : z ≤ 1 := by omega
                  clear hvb hvl hp hy ey eadr
                  go_wp2
                  go_round
                  case rel => exact ⟨q + 1, by go_num, by omega, by rw [HV.out]⟩
                  case measure => simp [intOf]; omega
                · obtain rfl : q = 8 := by omega
                  have hv0 := hvb.1
                  have hv1 : val (r.take 8) < 256 := by have := hvb.2; omega
                  obtain ⟨xn, hxn⟩ := Int.eq_ofNat_of_zero_le hv0
                  have HXN : Hid (val (r.take 8) = (xn : Int)) := hxn
                  rw [hxn]
                  rw [hxn] at hv1
                  have hxl : xn < 256 := by omega
                  clear hvb hvl hp hv0 hxn hql

                  have hoi := HOI.out
                  rw [HXN.out] at hoi
                  have hoi2 : oidx (xn : Int) < 0 := by omega
                  have HD4 : Hid (decF Z = (dec (U.drop (t + 9))).map ((O ++ [(xn : Int)]) ++ ·)) := by
                    have e := HD3.out
                    rw [HXN.out] at e
                    exact e
                  clear HOI HD3 hoi
                  go_wp2_with fail
                  refine (often_any _ _).mono ?_
                  rintro e w' ⟨rfl, rfl⟩
                  generalize oidx (xn : Int) = o at *
                  go_wp2_with (at_builtin; refine wpList_append_own _ rfl _ _ 35 rfl W1.heap.size 5 i0 (.int .u8 0) 1 1 Tryz.underlying35 hi hz0 hz1 hz2 rfl (by decide) _ _ _ rfl (hownb.alloc _) ⟨_, 0, none⟩ 1 1 [.int .u8 (xn : Int)] rfl rfl ?f1 ?f2 ?f3 ?f4 ?f5 ?_)
                  case f1 => exact cell_one_new _ _ _
                  case f2 => first | rfl | (intro u hu; simp at hu; subst hu; rfl)
                  case f3 => unfold maxLen; omega
                  case f4 => omega
                  case f5 => first | omega | (simp; omega)
                  intro v' w3 hown' hgrow _
                  have hb3 : Below W1.heap.size W1 w3 := (hbz.alloc hszb _).grown hgrow (by simp; omega) (fun k hk => (hownb.lt k hk).1)
                  have hfin : w3.ownsRow W1.heap.size 5 1 v' (O ++ [(xn : Int)]).length ((O ++ [(xn : Int)]).map (Value.int .u8)) := by simpa using hown'
                  have Hfin : Hid (w3.ownsRow W1.heap.size 5 1 v' (O ++ [(xn : Int)]).length ((O ++ [(xn : Int)]).map (Value.int .u8))) := hfin
                  clear hfin hown' hgrow hownb

                  go_wp2
                  go_roundw
                  case rel => exact ⟨_, t + 9, by go_num, by omega, by simp; omega, HD4, Hfin.out, hb3⟩
                  case measure => simp [intOf]; omega
          · have hde := dec_end y r (by have := HRL.out; omega) (by have := HRL.out; omega)
            have hyl : (y :: r).length = 8 * k - t := by have := HRL.out; simp; omega
            have hyc : ((y == 0) = true ∧ (y == 1) = false ∧ decide (((t : Int) + 6) ≤ 8 * (k : Int)) = false ∧ y ≤ 0) ∨ ((y == 0) = false ∧ (y == 1) = true ∧ decide (((t : Int) + 9) ≤ 8 * (k : Int)) = false ∧ 1 ≤ y) := by
              rcases hyb with h | h
              · left; exact ⟨by rw [h]; rfl, by rw [h]; rfl, by simp; omega, by omega⟩
              · right; exact ⟨by rw [h]; rfl, by rw [h]; rfl, by simp; omega, by omega⟩
            have HHY : Hid (y = 0 ∨ y = 1) := hyb
            by_cases h7 : 7 < 8 * k - t
            · have HN : Hid (decF Z = none) := by
                show decF Z = none
                rw [HD2.out, hde, if_pos (Or.inl (by rw [hyl]; exact h7))]; rfl
              have h7i : (7 : Int) < 8 * (k : Int) - (t : Int) := by omega
              clear hde hyl HD2 hyb hn6 hn9
              rcases hyc with ⟨ha, hb, hc, hd⟩ | ⟨ha, hb, hc, hd⟩
              all_goals
                go_wp2
                go_ret2
                exact ⟨_, _, rfl, Or.inr ⟨HN.out, rfl, rfl⟩, hbel.trans (hbz.mono hsz)⟩
            · have HD3 : Hid (decF Z = (if (0 : Int) ∈ y :: r then none else some []).map (O ++ ·)) := by
                show decF Z = (if (0 : Int) ∈ y :: r then none else some []).map (O ++ ·)
                rw [HD2.out, hde]
                by_cases h0 : (0 : Int) ∈ y :: r
                · rw [if_pos (Or.inr h0), if_pos h0]
                · rw [if_neg (by rw [hyl]; exact not_or.2 ⟨h7, h0⟩), if_neg h0]
              have HMEM : Hid (∀ z, z ∈ y :: r ↔ ∃ q, t ≤ q ∧ q < 8 * k ∧ U.getD q 0 = z) := mem_drop HDTT.out HUL.out
              have h7i : 8 * (k : Int) - (t : Int) ≤ 7 := by omega
              clear hde hyl HD2 hyb hn6 hn9 h7
              rcases hyc with ⟨ha, hb, hc, hd⟩ | ⟨ha, hb, hc, hd⟩
              all_goals
                go_wp2_with fail
                go_loop [8] (fun i => ∃ t2 : Nat, i = .int .i64 t2 ∧ t ≤ t2 ∧ t2 ≤ 8 * k ∧ Hid (∀ q, t ≤ q → q < t2 → U.getD q 0 ≠ 0)) (fun i => 8 * k - (intOf i).toNat)
                case atStart => exact ⟨t, rfl, by omega, by omega, fun q h1 h2 => by omega⟩
                case round =>
                  obtain ⟨t2, rfl, ht1, ht2, HNZ⟩ := hrel
                  by_cases hlt2 : t2 < 8 * k
                  · have hc2 := HRC.out t2 hlt2
                    by_cases hz : U.getD t2 0 = 0
                    · have HN : Hid (decF Z = none) := by
                        show decF Z = none
                        rw [HD3.out, if_pos ((HMEM.out 0).2 ⟨t2, ht1, hlt2, hz⟩)]; rfl
                      rw [hz] at hc2
                      clear hz
                      go_wp2
                      go_ret2
                      exact ⟨_, Or.inl ⟨rfl, Or.inr ⟨HN.out, rfl, rfl⟩, hbel.trans (hbz.mono hsz)⟩⟩
                    · have HNZ2 : Hid (∀ q, t ≤ q → q < t2 + 1 → U.getD q 0 ≠ 0) := by
                        intro q h1 h2
                        rcases Nat.lt_or_ge q t2 with h | h
                        · exact HNZ.out q h1 h
                        · have : q = t2 := by omega
                          rw [this]; exact hz
                      have hzb : (U.getD t2 0 == 0) = false := by rw [beq_eq_false_iff_ne]; exact hz
                      generalize U.getD t2 0 = z at *
                      clear hz
                      go_wp2
                      go_round
                      case rel => exact ⟨t2 + 1, by go_num, by omega, by omega, HNZ2⟩
                      case measure => simp [intOf]; omega
                  · have et : t2 = 8 * k := by omega
                    subst et
                    have HD5 : Hid (decF Z = (dec (U.drop (8 * k))).map (O ++ ·)) := by
                      show decF Z = (dec (U.drop (8 * k))).map (O ++ ·)
                      rw [HD3.out, if_neg (fun h => by obtain ⟨q, h1, h2, h3⟩ := (HMEM.out 0).1 h; exact HNZ.out q h1 h2 h3), List.drop_of_length_le (by rw [HUL.out]; exact Nat.le_refl _), dec_nil]
                    go_wp2
                    go_roundw
                    case rel => exact ⟨O, 8 * k, by go_num, by omega, by omega, HD5, hownb, hbz⟩
                    case measure => simp [intOf]; omega
        · obtain rfl : t = 8 * k := by omega
          have HO : Hid (decF Z = some O) := by
            show decF Z = some O
            rw [HD.out, List.drop_of_length_le (by rw [HUL.out]; exact Nat.le_refl _), dec_nil]; simp
          have cv1 := string_of_own rfl hownb
          clear HD hownb
          go_wp2
          go_ret2
          exact ⟨_, _, rfl, Or.inl ⟨O, HO.out, rfl, rfl⟩, hbel.trans (hbz.mono hsz)⟩
set_option maxRecDepth 100000 in
theorem rdecode_nil (a : Option Addr) (cap : Nat) (w : World) :
    Calls Tryz.prog 78 #[.slice a 0 cap] w fun e w' => ∃ st ok, e = .returned (.tuple #[.string st, .bool ok]) ∧ ToldText (decF []) st ok ∧ Below w.heap.size w w' := by
  have cv1 := run_convert_bytes_nil (P := Tryz.prog) w 35 5 Tryz.underlying35 Tryz.underlying5 0 0 9 Tryz.underlying9
  go_enter Tryz.func78, Tryz.ntmps78
  go_wp2_with fail
  refine wp_loop_rounds 1 ?_
  rw [rounds_succ]
  go_wp2_with fail
  refine wp_loop_rounds 1 ?_
  rw [rounds_succ]
  go_wp2
  go_ret2
  exact ⟨_, _, rfl, Or.inl ⟨[], rfl, rfl, rfl⟩, Below.refl _ _⟩
end Go.Proofs.YtkjfhgoddhigmacGreatDoor
/-
  CONTRACT of the Go function tollref1.ReadText. No claim by itself.
-/
namespace Go.Proofs.YtkjfhgoddhigmacGreatDoor
open Go.RowKit
set_option maxRecDepth 100000
/-- A part of a row, wherever the cut lays it. -/
theorem cut_row {w : World} {g off len cap : Nat} {Z : List Int} (h : Row w g off len cap Z) (u n : Nat) (hun : u + n ≤ len) :
    ∃ o, (if cap = u then some (⟨g, off, none⟩ : Addr) else some ⟨g, off + u, none⟩) = some ⟨g, o, none⟩ ∧ Row w g o n (cap - u) ((Z.drop u).take n) := by
  have hl := h.hlen
  have hc := h.hcap
  have hm := h.hmax
  have hlen : ((Z.drop u).take n).length = n := by rw [List.length_take, List.length_drop]; omega
  have hby : ∀ t, 0 ≤ ((Z.drop u).take n).getD t 0 ∧ ((Z.drop u).take n).getD t 0 < 256 := fun t => by
    by_cases ht : t < n
    · have e : ((Z.drop u).take n).getD t 0 = Z.getD (u + t) 0 := by simp [List.getD, ht, List.getElem?_drop]
      rw [e]; exact h.hbyte _
    · have e : ((Z.drop u).take n).getD t 0 = 0 := by simp [List.getD, List.getElem?_take, ht]
      rw [e]; decide
  by_cases e : cap = u
  · refine ⟨off, by rw [if_pos e], hlen, by omega, by omega, fun t ht => by omega, hby⟩
  · refine ⟨off + u, by rw [if_neg e], hlen, by omega, by omega, fun t ht => ?_, hby⟩
    have e2 : ((Z.drop u).take n).getD t 0 = Z.getD (u + t) 0 := by simp [List.getD, ht, List.getElem?_drop]
    rw [e2, Nat.add_assoc]
    exact h.hcell _ (by omega)
theorem conv_row {w : World} {g off n cap : Nat} {O : List Int} (h : Row w g off n cap O) : (convert 35 9 (.slice (some ⟨g, off, none⟩) n cap)).run Tryz.prog w = .ok (.string (strOfNums O)) w :=
  run_convert_bytes_arg w 35 5 Tryz.underlying35 Tryz.underlying5 g off n cap O h.hlen h.hcell 9 Tryz.underlying9
theorem row_mem {w : World} {g off n cap : Nat} {O : List Int} (h : Row w g off n cap O) : ∀ x ∈ O, 0 ≤ x ∧ x < 256 := by
  intro x hx
  obtain ⟨i, hi, rfl⟩ := List.getElem_of_mem hx
  have := h.hbyte i
  simpa [List.getD, List.getElem?_eq_getElem hi] using this
/-- What is given back where a text is read. -/
def rval (Z : List Int) : Value := .tuple #[.string (strOfNums (rtF Z).1), .int .i64 (rtF Z).2.1, .int .i64 (rtF Z).2.2]
set_option maxHeartbeats 4000000 in
theorem rread_bad (a : Option Addr) (len cap : Nat) (Z : List Int) (w : World) (n u k : Int) (hl : Z.length = len) (hg : getF Z 7 = (n, u, k)) (hu0 : 0 ≤ u) (hu1 : u ≤ len) (hlm : len ≤ 4611686018427387904)
    (hget : Calls Tryz.prog 46 #[.slice a len cap, .int .i64 7] w fun e w' => e = .returned (.tuple #[.int .i64 n, .int .i64 u, .int .i64 k]) ∧ w = w') (hbad : k ≠ 0 ∨ 400 < n ∨ (len : Int) - u < n) :
    Calls Tryz.prog 62 #[.slice a len cap] w fun e w' => e = .returned (rval Z) ∧ Below w.heap.size w w' := by
  have HG := hide hg
  have hu0' := hu0
  have hlm' := hlm
  clear hu0 hlm
  by_cases hk : k = 0
  · subst hk
    by_cases h4 : 400 < n
    · have E : Hid (rval Z = .tuple #[.string ⟨#[]⟩, .int .i64 0, .int .i64 4]) := by
        show rval Z = _
        unfold rval rtF; rw [HG.out, if_neg (by simp), if_pos h4]; rfl
      have hd : decide (400 < n) = true := by simpa using h4
      clear hg hbad
      go_enter Tryz.func62, Tryz.ntmps62
      go_wp2_with fail
      refine hget.mono ?_
      rintro e w' ⟨rfl, rfl⟩
      clear hget
      go_wp2
      go_ret3
      exact ⟨by rw [E.out]; rfl, Below.refl _ _⟩
    · have h8 : (len : Int) - u < n := by omega
      have E : Hid (rval Z = .tuple #[.string ⟨#[]⟩, .int .i64 0, .int .i64 8]) := by
        show rval Z = _
        unfold rval rtF; rw [HG.out, if_neg (by simp), if_neg h4, if_pos (by rw [hl]; exact h8)]; rfl
      have hd : decide (400 < n) = false := by simp; omega
      have hd2 : decide ((len : Int) - u < n) = true := by simpa using h8
      clear hg hbad
      go_enter Tryz.func62, Tryz.ntmps62
      go_wp2_with fail
      refine hget.mono ?_
      rintro e w' ⟨rfl, rfl⟩
      clear hget
      go_wp2
      go_ret3
      exact ⟨by rw [E.out]; rfl, Below.refl _ _⟩
  · have E : Hid (rval Z = .tuple #[.string ⟨#[]⟩, .int .i64 0, .int .i64 k]) := by
      show rval Z = _
      unfold rval rtF; rw [HG.out, if_pos hk]; rfl
    have hd : (k != 0) = true := by simpa using hk
    clear hg hbad
    go_enter Tryz.func62, Tryz.ntmps62
    go_wp2_with fail
    refine hget.mono ?_
    rintro e w' ⟨rfl, rfl⟩
    clear hget
    go_wp2
    go_ret3
    exact ⟨by rw [E.out]; rfl, Below.refl _ _⟩
end Go.Proofs.YtkjfhgoddhigmacGreatDoor
