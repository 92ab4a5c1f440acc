/-
  CONTRACT of the Go function tollref1.ReadText, where so many bytes are there. No claim by itself.
-/
import Derived.Laws.Externs
import Derived.Laws.StandIn
import Derived.Test.YtkjfhgoddhigmacGreatDoorM14
import Derived.Test.YtkjfhgoddhigmacGreatDoorM07
import Derived.Test.YtkjfhgoddhigmacGreatDoorM06
namespace Go.Proofs.YtkjfhgoddhigmacGreatDoor
open Go.RowKit
set_option maxRecDepth 100000
theorem text_made {w w' : World} {s : ByteArray} {v : Value} {k : Int} (h : TextMade w w' s v k) (hs : s.size ≤ 400) : k = 0 ∧ ∃ g cap, v = .slice (some ⟨g, 0, none⟩) (txtL (nums s)).length cap ∧ w'.ownsRow w.heap.size 5 1 (.slice (some ⟨g, 0, none⟩) (txtL (nums s)).length cap) (txtL (nums s)).length ((txtL (nums s)).map (Value.int .u8)) := by
  rcases h with ⟨_, hk, ho⟩ | ⟨h, _⟩
  · have hl := txt_len (nums s) (by rw [nums_len]; exact hs)
    obtain ⟨g, cap, rfl⟩ := shape_n ho hl.1
    exact ⟨hk, g, cap, rfl, ho⟩
  · omega
theorem str_eq_iff {a b : List Int} (ha : ∀ c ∈ a, 0 ≤ c ∧ c < 256) (hb : ∀ c ∈ b, 0 ≤ c ∧ c < 256) : ((strOfNums a).toList == (strOfNums b).toList) = decide (a = b) := by
  by_cases h : a = b
  · subst h; simp
  · have : ¬ (strOfNums a).toList = (strOfNums b).toList := fun e => h (by
      have e2 : strOfNums a = strOfNums b := toList_eq (by simpa using e)
      rw [← nums_str a ha, ← nums_str b hb, e2])
    simp [h, this]
theorem putL_byte (n b f : Int) (h0 : 0 ≤ n) (h1 : 1 ≤ b) (h2 : b ≤ 8) (h3 : 0 ≤ f) (h4 : f ≤ 255) (h5 : f % (gr b + 1) = 0) : ∀ x ∈ putL n b f, 0 ≤ x ∧ x < 256 := by
  have jb := join_bd b f h1 h2 h3 h4 h5
  have gb := gr_bd b h1 h2
  intro x hx
  unfold putL at hx
  split at hx
  · simp at hx; omega
  · rcases List.mem_cons.1 hx with rfl | hx
    · omega
    · exact rest_byte 5 _ (by omega) x hx
theorem txt_byte (s : List Int) (hb : ∀ c ∈ s, 0 ≤ c ∧ c < 256) : ∀ x ∈ txtL s, 0 ≤ x ∧ x < 256 := by
  intro x hx
  unfold txtL at hx
  split at hx
  · rcases List.mem_append.1 hx with h | h
    · exact putL_byte _ 7 128 (by omega) (by decide) (by decide) (by decide) (by decide) (by decide) x h
    · exact code_byte s x h
  · rcases List.mem_append.1 hx with h | h
    · exact putL_byte _ 7 0 (by omega) (by decide) (by decide) (by decide) (by decide) (by decide) x h
    · exact hb x h
set_option maxHeartbeats 8000000 in
theorem rread_good (g off len cap : Nat) (Z : List Int) (w : World) (hr : Row w g off len cap Z) (n u : Nat) (hg : getF Z 7 = ((n : Int), (u : Int), 0)) (hu1 : 1 ≤ u) (hn4 : n ≤ 400) (hun : u + n ≤ len) (hlm : len ≤ 4611686018427387904)
    (hget : Calls Tryz.prog 46 #[.slice (some ⟨g, off, none⟩) len cap, .int .i64 7] w fun e w' => e = .returned (.tuple #[.int .i64 n, .int .i64 u, .int .i64 0]) ∧ w = w') :
    Calls Tryz.prog 62 #[.slice (some ⟨g, off, none⟩) len cap] w fun e w' => e = .returned (rval Z) ∧ Below w.heap.size w w' := by
  have hE : rval Z = .tuple #[.string (strOfNums (rtB Z n u).1), .int .i64 (rtB Z n u).2.1, .int .i64 (rtB Z n u).2.2] := by
    unfold rval rtF; rw [hg, if_neg (by simp), if_neg (by simp; omega), if_neg (by rw [hr.hlen]; simp; omega)]; rfl
  obtain ⟨o, ho, hbody⟩ := cut_row hr u n hun
  have hcap := hr.hcap
  have hmax := hr.hmax
  unfold maxLen at hmax
  have hc0 := hr.hcell 0 (by omega)
  rw [Nat.add_zero] at hc0
  have hz0 := hr.hbyte 0
  have hcv := conv_row hbody
  have hdec := rdecode_row g o n (cap - u) ((Z.drop u).take n) w hbody (by omega)
  have HTK := hide (hr.take (u + n) hun)
  have hbm := row_mem hbody
  have d1 : decide ((400 : Int) < (n : Int)) = false := by simp; omega
  have d2 : decide ((len : Int) - (u : Int) < (n : Int)) = false := by simp; omega
  have b1 : (u : Int) ≤ (u : Int) + (n : Int) := by omega
  have b2 : (u : Int) + (n : Int) ≤ (cap : Int) := by omega
  have b3 : (u : Int) + (n : Int) ≤ (len : Int) := by omega
  have HE : Hid (rval Z = .tuple #[.string (strOfNums (rtB Z n u).1), .int .i64 (rtB Z n u).2.1, .int .i64 (rtB Z n u).2.2]) := hE
  by_cases hcod : 127 < Z.getD 0 0
  · have hB : Hid (rtB Z n u = rtE Z (u + n) (decF ((Z.drop u).take n))) := by
      show rtB Z n u = _
      unfold rtB; rw [if_pos hcod]
    have dz : decide (127 < Z.getD 0 0) = true := by simpa using hcod
    generalize Z.getD 0 0 = z at *
    clear hE hg
    go_enter Tryz.func62, Tryz.ntmps62
    go_wp2_with fail
    refine hget.mono ?_
    rintro e w' ⟨rfl, rfl⟩
    clear hget
    go_wp2_with fail
    refine hdec.mono ?_
    rintro e w2 ⟨st, ok, rfl, htold, hb2⟩
    have HB2 := hide hb2
    clear hdec hcv
    rcases htold with ⟨t, hd, rfl, rfl⟩ | ⟨hd, rfl, rfl⟩
    · have htb := decF_byte _ t hd
      have HR : Hid (rtB Z n u = rtE Z (u + n) (some t)) := by
        show rtB Z n u = _
        rw [hB.out, hd]
      clear hd hB
      obtain ⟨S, hS⟩ : ∃ S, S = strOfNums t := ⟨_, rfl⟩
      have hSs : S.size = t.length := by rw [hS]; exact str_size t
      have hSn : nums S = t := by rw [hS]; exact nums_str t htb
      rw [← hS]
      have HS := hide hS
      have HSN := hide hSn
      clear hS hSn
      rcases Nat.lt_or_ge 400 t.length with h4 | h4
      · have d4 : decide ((400 : Int) < (S.size : Int)) = true := by simp; omega
        have HV : Hid (rval Z = .tuple #[.string ⟨#[]⟩, .int .i64 0, .int .i64 4]) := by
          show rval Z = _
          rw [HE.out, HR.out, rtE_long Z t (u + n) h4]; rfl
        go_wp2
        go_ret3
        exact ⟨by rw [HV.out]; rfl, HB2.out⟩
      · have d4 : decide ((400 : Int) < (S.size : Int)) = false := by simp; omega
        go_wp2_with fail
        refine (rtext_any S _).mono ?_
        rintro e w3 ⟨⟨x, k, rfl, htm⟩, hb3⟩
        obtain ⟨rfl, g3, cap3, rfl, ho3⟩ := text_made htm (by omega)
        have hx := txt_byte t htb
        rw [HSN.out] at ho3
        have s2 := HB2.out.size
        have s3 := hb3.size
        have cv1 := fun m => conv_row ((row_of rfl ho3 hx).below (drewN_below (Below.refl w3.heap.size w3) m))
        have cv2 := fun m => conv_row (((HTK.out.below HB2.out).below hb3).below (drewN_below (Below.refl w3.heap.size w3) m))
        have hq : ((strOfNums (txtL t)).toList == (strOfNums (Z.take (u + n))).toList) = decide (txtL t = Z.take (u + n)) := str_eq_iff hx (row_mem HTK.out)
        have HB3 := hide (HB2.out.trans (hb3.mono s2))
        rw [HSN.out]
        have HL := txt_len t h4
        generalize hX : txtL t = X at *
        have HX := hide hX
        clear htm ho3 hx hX
        by_cases heq : X = Z.take (u + n)
        · have hq2 : ((strOfNums X).toList == (strOfNums (Z.take (u + n))).toList) = true := by rw [hq]; simpa using heq
          have HV : Hid (rval Z = .tuple #[.string S, .int .i64 ((u : Int) + (n : Int)), .int .i64 0]) := by
            show rval Z = _
            rw [HE.out, HR.out, rtE_ok Z t (u + n) h4 (by rw [HX.out]; exact heq), ← HS.out, Int.natCast_add]
          clear heq hq
          go_wp2_with fail
          go_quiet (fail)
          go_wp2
          go_ret3
          exact ⟨by rw [HV.out]; rfl, drewN_below HB3.out _⟩
        · have hq2 : ((strOfNums X).toList == (strOfNums (Z.take (u + n))).toList) = false := by rw [hq]; simpa using heq
          have HV : Hid (rval Z = .tuple #[.string ⟨#[]⟩, .int .i64 0, .int .i64 2]) := by
            show rval Z = _
            rw [HE.out, HR.out, rtE_bad Z t (u + n) h4 (by rw [HX.out]; exact heq)]; rfl
          clear heq hq
          go_wp2_with fail
          go_quiet (fail)
          go_wp2
          go_ret3
          exact ⟨by rw [HV.out]; rfl, drewN_below HB3.out _⟩
    · have HR : Hid (rtB Z n u = ([], 0, 2)) := by
        show rtB Z n u = _
        rw [hB.out, hd]; rfl
      clear hd hB
      go_wp2
      go_ret3
      refine ⟨?_, HB2.out⟩
      rw [HE.out, HR.out]; rfl
  · obtain ⟨t, ht⟩ : ∃ t, (Z.drop u).take n = t := ⟨_, rfl⟩
    have HR : Hid (rtB Z n u = rtE Z (u + n) (some t)) := by
      show rtB Z n u = _
      unfold rtB; rw [if_neg hcod, ht]
    have htl : t.length = n := by rw [← ht]; exact hbody.hlen
    have dz : decide (127 < Z.getD 0 0) = false := by simpa using hcod
    generalize Z.getD 0 0 = z at *
    have htb := hbm
    rw [ht] at htb hcv
    have HB2 : Hid (Below w.heap.size w w) := Below.refl _ _
    clear hE hg hdec hbody hbm ht
    go_enter Tryz.func62, Tryz.ntmps62
    go_wp2_with fail
    refine hget.mono ?_
    rintro e w' ⟨rfl, rfl⟩
    clear hget
    obtain ⟨S, hS⟩ : ∃ S, S = strOfNums t := ⟨_, rfl⟩
    have hSs : S.size = t.length := by rw [hS]; exact str_size t
    have hSn : nums S = t := by rw [hS]; exact nums_str t htb
    rw [← hS] at hcv
    have HS := hide hS
    have HSN := hide hSn
    clear hS hSn
    rcases Nat.lt_or_ge 400 t.length with h4 | h4
    · exfalso; omega
    · have d4 : decide ((400 : Int) < (S.size : Int)) = false := by simp; omega
      go_wp2_with fail
      refine (rtext_any S _).mono ?_
      rintro e w3 ⟨⟨x, k, rfl, htm⟩, hb3⟩
      obtain ⟨rfl, g3, cap3, rfl, ho3⟩ := text_made htm (by omega)
      have hx := txt_byte t htb
      rw [HSN.out] at ho3
      have s2 := HB2.out.size
      have s3 := hb3.size
      have cv1 := fun m => conv_row ((row_of rfl ho3 hx).below (drewN_below (Below.refl w3.heap.size w3) m))
      have cv2 := fun m => conv_row (((HTK.out.below HB2.out).below hb3).below (drewN_below (Below.refl w3.heap.size w3) m))
      have hq : ((strOfNums (txtL t)).toList == (strOfNums (Z.take (u + n))).toList) = decide (txtL t = Z.take (u + n)) := str_eq_iff hx (row_mem HTK.out)
      have HB3 := hide (HB2.out.trans (hb3.mono s2))
      rw [HSN.out]
      have HL := txt_len t h4
      generalize hX : txtL t = X at *
      have HX := hide hX
      clear htm ho3 hx hX
      by_cases heq : X = Z.take (u + n)
      · have hq2 : ((strOfNums X).toList == (strOfNums (Z.take (u + n))).toList) = true := by rw [hq]; simpa using heq
        have HV : Hid (rval Z = .tuple #[.string S, .int .i64 ((u : Int) + (n : Int)), .int .i64 0]) := by
          show rval Z = _
          rw [HE.out, HR.out, rtE_ok Z t (u + n) h4 (by rw [HX.out]; exact heq), ← HS.out, Int.natCast_add]
        clear heq hq
        go_wp2_with fail
        go_quiet (fail)
        go_wp2
        go_ret3
        exact ⟨by rw [HV.out]; rfl, drewN_below HB3.out _⟩
      · have hq2 : ((strOfNums X).toList == (strOfNums (Z.take (u + n))).toList) = false := by rw [hq]; simpa using heq
        have HV : Hid (rval Z = .tuple #[.string ⟨#[]⟩, .int .i64 0, .int .i64 2]) := by
          show rval Z = _
          rw [HE.out, HR.out, rtE_bad Z t (u + n) h4 (by rw [HX.out]; exact heq)]; rfl
        clear heq hq
        go_wp2_with fail
        go_quiet (fail)
        go_wp2
        go_ret3
        exact ⟨by rw [HV.out]; rfl, drewN_below HB3.out _⟩
/-- ReadText, whatever bytes are handed in. -/
theorem rread_any (a : Option Addr) (len cap : Nat) (Z : List Int) (w : World) (hA : Arg w a len cap Z) (hlm : len ≤ 4611686018427387904) :
    Calls Tryz.prog 62 #[.slice a len cap] w fun e w' => e = .returned (rval Z) ∧ Below w.heap.size w w' := by
  rcases hA with ⟨rfl, rfl⟩ | ⟨g, off, rfl, hr⟩
  · refine rread_bad a 0 cap [] w 0 0 8 rfl getF_nil (by decide) (by decide) (by decide) ?_ (Or.inl (by decide))
    refine (rget_nil a cap 7 w (by decide) (by decide)).mono ?_
    rintro e w' ⟨⟨n, u, k, rfl, hg⟩, rfl⟩
    rw [getF_nil] at hg
    cases hg
    exact ⟨rfl, rfl⟩
  · obtain ⟨n, u, k, hg⟩ : ∃ n u k, getF Z 7 = (n, u, k) := ⟨_, _, _, rfl⟩
    have hget : Calls Tryz.prog 46 #[.slice (some ⟨g, off, none⟩) len cap, .int .i64 7] w fun e w' => e = .returned (.tuple #[.int .i64 n, .int .i64 u, .int .i64 k]) ∧ w = w' := by
      refine (rget_row g off len cap Z 7 w hr).mono ?_
      rintro e w' ⟨⟨n', u', k', rfl, hg'⟩, rfl⟩
      rw [hg] at hg'
      cases hg'
      exact ⟨rfl, rfl⟩
    have hbd := getF_bd Z 7 (by decide) (by decide)
    rw [hg, hr.hlen] at hbd
    by_cases hk : k = 0
    · obtain ⟨h1, h2, h3⟩ := hbd hk
      by_cases hbad : 400 < n ∨ (len : Int) - u < n
      · exact rread_bad _ len cap Z w n u k hr.hlen hg (by simp at h2; omega) (by simpa using h3) hlm hget (Or.inr hbad)
      · simp at h1 h2 h3
        obtain ⟨n', rfl⟩ := Int.eq_ofNat_of_zero_le h1
        obtain ⟨u', rfl⟩ := Int.eq_ofNat_of_zero_le (show 0 ≤ u by omega)
        subst hk
        exact rread_good g off len cap Z w hr n' u' hg (by omega) (by omega) (by omega) hlm hget
    · have h0 : 0 ≤ u ∧ u ≤ len := by
        have := getF_used Z 7
        rw [hg] at this
        simp only at this
        rw [hr.hlen] at this
        exact this
      exact rread_bad _ len cap Z w n u k hr.hlen hg h0.1 h0.2 hlm hget (Or.inl hk)
end Go.Proofs.YtkjfhgoddhigmacGreatDoor
/-
  CONTRACTS of the Go functions strings.IndexByte and code.spell at the bytes that are often. No claim by itself.
-/
namespace Go.Proofs.YtkjfhgoddhigmacGreatDoor
open Go.RowKit
/-- The bytes that are often, as the program's text has them. -/
def oftB : ByteArray := ⟨#[101, 116, 97, 111, 105, 110, 115, 104, 114, 100, 108, 117, 99, 109, 102, 119, 121, 112, 118, 98, 103, 107, 120, 106, 113, 122, 45, 47, 46, 58, 48, 32]⟩
theorem first_fin : ∀ c : Fin 256, firstIdx oftB ((c.val : Int)).toNat.toUInt8 = oidx (c.val : Int) := by decide +kernel
theorem first_oft (c : Int) (h0 : 0 ≤ c) (h1 : c < 256) : firstIdx oftB c.toNat.toUInt8 = oidx c := by
  have h := first_fin ⟨c.toNat, by omega⟩
  have e : ((c.toNat : Nat) : Int) = c := by omega
  simp only [e] at h
  exact h
theorem isl_any (c : Int) (h0 : 0 ≤ c) (h1 : c < 256) (w : World) :
    Calls Tryz.prog 90 #[.string oftB, .int .u8 c] w fun e w' => e = .returned (.int .i64 (oidx c)) ∧ w = w' := by
  go_enter Tryz.func90, Tryz.ntmps90
  have hx := @run_callFunc_indexByte Tryz.prog 93 _ Tryz.func93 (by kernel_rfl) (by kernel_rfl) (by kernel_rfl) (by kernel_rfl)
  have hr : ∀ W : World, (Extern.BytealgIndexByte.indexByte #[.string oftB, .int .u8 c]).run Tryz.prog W = .ok (.int .i64 (oidx c)) W := fun W => by rw [run_indexByte_string, first_oft c h0 h1]
  go_wp2_with fail
  go_ret
  exact ⟨rfl, rfl⟩
theorem idx_any (c : Int) (h0 : 0 ≤ c) (h1 : c < 256) (w : World) :
    Calls Tryz.prog 84 #[.string oftB, .int .u8 c] w fun e w' => e = .returned (.int .i64 (oidx c)) ∧ w = w' := by
  go_enter Tryz.func84, Tryz.ntmps84
  go_wp2_with fail
  refine (isl_any c h0 h1 _).mono ?_
  rintro _ _ ⟨rfl, rfl⟩
  go_wp2
  go_ret
  exact ⟨rfl, rfl⟩
end Go.Proofs.YtkjfhgoddhigmacGreatDoor
/-
  CONTRACTS of the Go functions code.spell and code.Bits. No claim by itself.
-/
namespace Go.Proofs.YtkjfhgoddhigmacGreatDoor
open Go.RowKit
/-- The bits of a byte, as a number. -/
def word (c : Int) : Int := if 0 ≤ oidx c then oidx c else 256 + c
theorem word_code (c : Int) (h0 : 0 ≤ c) (h1 : c < 256) : bin (code1 c).length (word c) = code1 c := by
  have ob := oidx_bd c
  rw [code1_len]
  unfold word code1
  by_cases h : 0 ≤ oidx c
  · simp only [if_pos h]
    show (oidx c / 2 ^ 5 % 2) :: bin 5 (oidx c) = _
    rw [show oidx c / 2 ^ 5 % 2 = 0 from by have : (2 : Int) ^ 5 = 32 := by decide
                                            rw [this]; omega]
  · simp only [if_neg h]
    show ((256 + c) / 2 ^ 8 % 2) :: bin 8 (256 + c) = _
    rw [show (256 + c) / 2 ^ 8 % 2 = 1 from by have : (2 : Int) ^ 8 = 256 := by decide
                                               rw [this]; omega]
    have e := bin_add 8 8 1 c (Nat.le_refl _)
    rw [show (1 : Int) * 2 ^ 8 + c = 256 + c from by have : (2 : Int) ^ 8 = 256 := by decide
                                                     rw [this]; omega] at e
    rw [e]
theorem word_bd (c : Int) (h0 : 0 ≤ c) (h1 : c < 256) : 0 ≤ word c ∧ word c < 512 := by
  have ob := oidx_bd c
  unfold word; split <;> omega
theorem s_len (s : ByteArray) : (nums s).length = s.size := by simp [nums]
theorem s_at (s : ByteArray) (k : Nat) (h : k < s.size) : ∀ h, ((s[k]'h).toNat : Int) = (nums s).getD k 0 := by
  intro h'
  have hk : k < s.data.toList.length := by simpa using h
  simp only [nums, List.getD, List.getElem?_map, List.getElem?_eq_getElem hk, Option.map_some, Option.getD_some]
  rfl
theorem s_byte (s : ByteArray) (k : Nat) : 0 ≤ (nums s).getD k 0 ∧ (nums s).getD k 0 < 256 := by
  by_cases h : k < s.data.toList.length
  · simp only [nums, List.getD, List.getElem?_map, List.getElem?_eq_getElem h, Option.map_some, Option.getD_some]
    have := (s.data.toList[k]).toNat_lt
    omega
  · simp only [nums, List.getD, List.getElem?_map, List.getElem?_eq_none (Nat.le_of_not_lt h), Option.map_none, Option.getD_none]
    omega
set_option maxHeartbeats 2000000 in
theorem spell_any (c : Int) (h0 : 0 ≤ c) (h1 : c < 256) (w : World) :
    Calls Tryz.prog 75 #[.int .u8 c] w fun e w' => e = .returned (.tuple #[.int .i64 (word c), .int .i64 (code1 c).length]) ∧ w = w' := by
  have ob := oidx_bd c
  have HL : Hid ((code1 c).length = if 0 ≤ oidx c then 6 else 9) := code1_len c
  by_cases hc : 0 ≤ oidx c
  · have E1 : Hid (word c = oidx c) := by show word c = _; unfold word; rw [if_pos hc]
    have E2 : Hid ((code1 c).length = 6) := by show (code1 c).length = 6; rw [HL.out, if_pos hc]
    clear HL
    obtain ⟨ob1, ob2⟩ := ob
    go_enter Tryz.func75, Tryz.ntmps75
    go_wp2_with fail
    refine (idx_any c h0 h1 _).mono ?_
    rintro _ _ ⟨rfl, rfl⟩
    go_wp2
    go_ret2
    exact ⟨by rw [E1.out, E2.out]; rfl, rfl⟩
  · have E1 : Hid (word c = 256 + c) := by show word c = _; unfold word; rw [if_neg hc]
    have E2 : Hid ((code1 c).length = 9) := by show (code1 c).length = 9; rw [HL.out, if_neg hc]
    have hd : decide (0 ≤ oidx c) = false := by simp; omega
    have hor : bits .or .i64 256 c = 256 + c := i64_or_join 8 256 c (by decide) (by decide) (by decide) h0 (by simpa using h1) (by omega)
    clear HL
    obtain ⟨ob1, ob2⟩ := ob
    go_enter Tryz.func75, Tryz.ntmps75
    go_wp2_with fail
    refine (idx_any c h0 h1 _).mono ?_
    rintro _ _ ⟨rfl, rfl⟩
    go_wp2
    go_ret2
    exact ⟨by rw [E1.out, E2.out]; rfl, rfl⟩
set_option maxHeartbeats 2000000 in
theorem bits_any : BitsSaid := by
  intro s w hs
  have HN : Hid (∀ k, k < s.size → ∀ h, ((s[k]'h).toNat : Int) = (nums s).getD k 0) := s_at s
  have HB : Hid (∀ k, 0 ≤ (nums s).getD k 0 ∧ (nums s).getD k 0 < 256) := s_byte s
  have HLn : Hid ((nums s).length = s.size) := s_len s
  generalize nums s = Z at *
  go_enter Tryz.func74, Tryz.ntmps74
  go_wp2
  go_loop [3, 9] (fun n i => ∃ k : Nat, i = .int .i64 k ∧ k ≤ s.size ∧ n = .int .i64 ((bitsL (Z.take k)).length : Nat)) (fun _ i => s.size - (intOf i).toNat)
  case atStart => exact ⟨0, rfl, by omega, rfl⟩
  case round =>
    obtain ⟨k, rfl, hk, rfl⟩ := hrel
    by_cases hlt : k < s.size
    · have hix := HN.out k hlt
      have hby := HB.out k
      have HT : Hid ((bitsL (Z.take (k + 1))).length = (bitsL (Z.take k)).length + (code1 (Z.getD k 0)).length) := by
        show _ = _
        rw [bitsL_take Z k _ (by rw [HLn.out]; exact hlt) rfl, List.length_append]
      have hPl := (bitsL_len (Z.take k)).2
      have hPk : (bitsL (Z.take k)).length ≤ 9 * k := by
        have : (Z.take k).length ≤ k := List.length_take_le _ _
        omega
      have hCl : (code1 (Z.getD k 0)).length ≤ 9 := by rw [code1_len]; split <;> omega
      generalize Z.getD k 0 = c at *
      generalize (bitsL (Z.take k)).length = P at *
      obtain ⟨c0, c1⟩ := hby
      clear hPl
      have hsp := fun W => spell_any c c0 c1 W
      generalize (code1 c).length = L at *
      go_wp2_with fail
      refine (hsp _).mono ?_
      rintro _ _ ⟨rfl, rfl⟩
      go_wp2
      go_round
      case rel => exact ⟨k + 1, by go_num, by omega, by rw [HT.out]; go_num⟩
      case measure => simp [intOf]; omega
    · have e : k = s.size := by omega
      subst e
      have E : Hid ((bitsL (Z.take s.size)).length = (bitsL Z).length) := by
        show _ = _
        rw [List.take_of_length_le (by rw [HLn.out]; omega)]
      go_wp2
      go_ret
      exact ⟨by rw [← E.out]; rfl, Below.refl _ _⟩
end Go.Proofs.YtkjfhgoddhigmacGreatDoor
