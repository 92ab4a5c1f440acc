/-
  READING A LIST OF FIELDS, piece by piece: mathematics; and bytes that are cut. No claim by itself.
-/
import Derived.Test.YtkjfhgoddhigmacDoorM33
namespace Go.Proofs.YtkjfhgoddhigmacDoor
open Go.RowKit
set_option maxRecDepth 100000
theorem always_small2 : ∀ f ∈ alwaysL, f.1.size + f.2.size ≤ 4096 := by decide +kernel
theorem num_small {mx : Int} (A : List (ByteArray × ByteArray)) (Z : List Int) (h : Fit mx A) : (numF A Z).1.1.size + (numF A Z).1.2.size ≤ 10000 := by
  have key : ∀ i, ((alwaysL ++ A).getD i fnone).1.size + ((alwaysL ++ A).getD i fnone).2.size ≤ 10000 := fun i => by
    by_cases hi : i < (alwaysL ++ A).length
    · have hm : (alwaysL ++ A).getD i fnone ∈ alwaysL ++ A := by rw [List.getD, List.getElem?_eq_getElem hi]; exact List.getElem_mem _
      rcases List.mem_append.1 hm with h1 | h1
      · have := always_small2 _ h1; omega
      · have := h.size _ h1; omega
    · rw [List.getD, List.getElem?_eq_none (by omega)]; decide
  unfold numF
  split
  · exact (by decide : fnone.1.size + fnone.2.size ≤ 10000)
  · split
    · exact key _
    · exact (by decide : fnone.1.size + fnone.2.size ≤ 10000)
theorem fld_small {mx : Int} (A : List (ByteArray × ByteArray)) (Z : List Int) (h : Fit mx A) (hk : (fldF mx A Z).1.2.2 = 0) : (fldF mx A Z).1.1.1.size + (fldF mx A Z).1.1.2.size ≤ 10000 := by
  unfold fldF at hk ⊢
  split
  · exact num_small A Z h
  · rename_i h1
    rw [if_neg h1] at hk
    split
    · rename_i h2
      rw [if_pos h2] at hk
      exact lit_small A Z 6 h hk
    · rename_i h2
      rw [if_neg h2] at hk
      exact lit_small A Z 4 h hk
theorem dc_nil (most : Int) (k : Nat) (mx : Int) (A acc : List (ByteArray × ByteArray)) (Z : List Int) (h : Z.length = 0) : dcF most k mx A acc Z = (acc, 0, mx, A) := by
  match k with
  | 0 => rfl
  | k + 1 => unfold dcF; rw [if_pos h]
theorem dc_sz_ok (most : Int) (k : Nat) (mx : Int) (A acc : List (ByteArray × ByteArray)) (Z : List Int) (h : 0 < Z.length) (hz : 31 < Z.getD 0 0 ∧ Z.getD 0 0 < 64) (h1 : (getF Z 5).2.2 = 0) (h2 : (getF Z 5).1 ≤ most) (h3 : acc.length = 0) :
    dcF most (k + 1) mx A acc Z = dcF most k (getF Z 5).1 (A.take (keepN A (getF Z 5).1 A.length)) acc (Z.drop (getF Z 5).2.1.toNat) := by
  rw [dcF, if_neg (by omega), if_pos hz, if_neg (by omega), if_neg (by omega), if_neg (by omega)]
theorem dc_sz_bad (most : Int) (k : Nat) (mx : Int) (A acc : List (ByteArray × ByteArray)) (Z : List Int) (h : 0 < Z.length) (hz : 31 < Z.getD 0 0 ∧ Z.getD 0 0 < 64) (hb : ¬ ((getF Z 5).2.2 = 0 ∧ (getF Z 5).1 ≤ most ∧ acc.length = 0)) :
    dcF most (k + 1) mx A acc Z = ([], if (getF Z 5).2.2 ≠ 0 then (getF Z 5).2.2 else if most < (getF Z 5).1 then 1 else 6, mx, A) := by
  rw [dcF, if_neg (by omega), if_pos hz]
  by_cases h1 : (getF Z 5).2.2 ≠ 0
  · rw [if_pos h1, if_pos h1]
  · rw [if_neg h1, if_neg h1]
    by_cases h2 : most < (getF Z 5).1
    · rw [if_pos h2, if_pos h2]
    · rw [if_neg h2, if_neg h2, if_pos]
      have h1' : (getF Z 5).2.2 = 0 := by simpa using h1
      by_cases h3 : acc.length = 0
      · exact absurd ⟨h1', by omega, h3⟩ hb
      · omega
theorem dc_fl_bad (most : Int) (k : Nat) (mx : Int) (A acc : List (ByteArray × ByteArray)) (Z : List Int) (h : 0 < Z.length) (hz : ¬ (31 < Z.getD 0 0 ∧ Z.getD 0 0 < 64)) (h1 : (fldF mx A Z).1.2.2 ≠ 0) :
    dcF most (k + 1) mx A acc Z = ([], (fldF mx A Z).1.2.2, mx, (fldF mx A Z).2) := by
  rw [dcF, if_neg (by omega), if_neg hz, if_pos h1]
theorem dc_fl_full (most : Int) (k : Nat) (mx : Int) (A acc : List (ByteArray × ByteArray)) (Z : List Int) (h : 0 < Z.length) (hz : ¬ (31 < Z.getD 0 0 ∧ Z.getD 0 0 < 64)) (h1 : (fldF mx A Z).1.2.2 = 0) (h2 : 40 < (acc ++ [(fldF mx A Z).1.1]).length ∨ 2000 < weight (acc ++ [(fldF mx A Z).1.1])) :
    dcF most (k + 1) mx A acc Z = ([], 4, mx, (fldF mx A Z).2) := by
  rw [dcF, if_neg (by omega), if_neg hz, if_neg (by omega), if_pos h2]
theorem dc_fl_ok (most : Int) (k : Nat) (mx : Int) (A acc : List (ByteArray × ByteArray)) (Z : List Int) (h : 0 < Z.length) (hz : ¬ (31 < Z.getD 0 0 ∧ Z.getD 0 0 < 64)) (h1 : (fldF mx A Z).1.2.2 = 0) (h2 : ¬ (40 < (acc ++ [(fldF mx A Z).1.1]).length ∨ 2000 < weight (acc ++ [(fldF mx A Z).1.1]))) :
    dcF most (k + 1) mx A acc Z = dcF most k mx (fldF mx A Z).2 (acc ++ [(fldF mx A Z).1.1]) (Z.drop (fldF mx A Z).1.2.1.toNat) := by
  rw [dcF, if_neg (by omega), if_neg hz, if_neg (by omega), if_neg h2]
theorem dfrow_of {w : World} {base g n cap : Nat} {L : List (ByteArray × ByteArray)} (hl : L.length = n) (h : w.ownsRow base 33 2 (.slice (some ⟨g, 0, none⟩) n cap) n (fcells L)) : FRow w g 0 n cap L := by
  have hcap : n ≤ cap ∧ cap ≤ maxLen := by
    obtain ⟨_, ⟨hv, _⟩ | ⟨g', cap', cur, hv, _, _, hc, hm, _⟩⟩ := h
    · cases hv
    · cases hv; exact ⟨hc, hm⟩
  refine ⟨hl, hcap.1, hcap.2, fun t ht => ?_, fun t ht => ?_⟩
  · have hc := h.cellAt (2 * t) (by omega)
    rw [show 0 + t * 2 = 2 * t from by omega, hc, (fcells_at L t (by omega)).1]
  · have hc := h.cellAt (2 * t + 1) (by omega)
    rw [show 0 + t * 2 + 1 = 2 * t + 1 from by omega, hc, (fcells_at L t (by omega)).2]
theorem dslen_own {w : World} {base n : Nat} {v : Value} {xs : List Value} (h : w.ownsRow base 33 2 v n xs) : ∃ a cap, v = .slice a n cap := by
  obtain ⟨_, ⟨rfl, rfl⟩ | ⟨g, cap, cur, rfl, _⟩⟩ := h
  · exact ⟨_, _, rfl⟩
  · exact ⟨_, _, rfl⟩
/-- Bytes that stay as they are while a coder turns; cut, they do so too. -/
def ArgS (S : Nat → Prop) (w : World) (a : Option Addr) (len cap : Nat) (Z : List Int) : Prop := ∀ wx, Off S w wx → Arg wx a len cap Z
theorem ArgS.cut {S : Nat → Prop} {w : World} {g off len cap : Nat} {Z : List Int} (h : ArgS S w (some ⟨g, off, none⟩) len cap Z) (u : Nat) (hu : u ≤ len) (hl : 0 < len) :
    ∃ o, (if cap = u then some (⟨g, off, none⟩ : Addr) else some ⟨g, off + u, none⟩) = some ⟨g, o, none⟩ ∧ ArgS S w (some ⟨g, o, none⟩) (len - u) (cap - u) (Z.drop u) := by
  have row : ∀ wx, Off S w wx → Row wx g off len cap Z := fun wx ho => by
    rcases h wx ho with ⟨h0, _⟩ | ⟨g', off', e, hr⟩
    · omega
    · cases e; exact hr
  obtain ⟨o, ho, _⟩ := tail_row (row w (Off.of_below (Below.refl _ _))) u hu
  refine ⟨o, ho, fun wx hx => ?_⟩
  obtain ⟨o', ho', hr'⟩ := tail_row (row wx hx) u hu
  have e := ho.symm.trans ho'
  cases e
  exact Or.inr ⟨g, o, rfl, hr'⟩
end Go.Proofs.YtkjfhgoddhigmacDoor
/-
  CONTRACT of the method readList of head.Coder. No claim by itself.
-/
namespace Go.Proofs.YtkjfhgoddhigmacDoor
open Go.RowKit
set_option maxRecDepth 100000
/-- What reading a list gives: the fields, and the table then; or a fault. -/
def ListTold (cb : Nat) (st : CSt) (R : List (ByteArray × ByteArray) × Int × Int × List (ByteArray × ByteArray)) (w : World) (e : Ending) (w' : World) (T : Nat → Prop) : Prop :=
  (R.2.1 = 0 ∧ ∃ v, e = .returned (.tuple #[v, .nilIface]) ∧ w'.ownsRow w.heap.size 33 2 v R.1.length (fcells R.1) ∧ (∀ k, v.ownBlock = some k → ¬ T k) ∧ HCod w' cb { st with mi := R.2.2.1, AI := R.2.2.2 } T ∧ Fit R.2.2.1 R.2.2.2) ∨
  (R.2.1 ≠ 0 ∧ e = .returned (.tuple #[.slice none 0 0, .iface 49 (.int .i64 R.2.1)]) ∧ ∃ mi AI, HCod w' cb { st with mi := mi, AI := AI } T)
/-- Where the loop stands. -/
structure LInv (cb : Nat) (st : CSt) (S : Nat → Prop) (R : List (ByteArray × ByteArray) × Int × Int × List (ByteArray × ByteArray)) (w : World) (len : Nat) (b l : Value) (wr : World)
    (a : Option Addr) (n c k : Nat) (Y : List Int) (mi : Int) (AI acc : List (ByteArray × ByteArray)) (T : Nat → Prop) : Prop where
  hb : b = .slice a n c
  hn : n ≤ len
  hY : Y.length = n
  hA : ArgS S w a n c Y
  hl : wr.ownsRow w.heap.size 33 2 l acc.length (fcells acc)
  hN : ∀ q, l.ownBlock = some q → ¬ T q
  hO : Off S w wr
  hT : ∀ q, T q → S q ∨ w.heap.size ≤ q
  hC : HCod wr cb { st with mi := mi, AI := AI } T
  hF : Fit mi AI
  hR : R = dcF st.most k mi AI acc Y
  hk : n < k
  h40 : acc.length ≤ 40
  hw : weight acc ≤ 2000
def lenOf : Value → Nat
  | .slice _ n _ => n
  | _ => 0
set_option maxHeartbeats 8000000 in
theorem hlist_any (cb : Nat) (st : CSt) (S : Nat → Prop) (a : Option Addr) (len cap : Nat) (Z : List Int) (w : World) (hC : HCod w cb st S) (hF : HFit st) (hbad : st.bad = false) (hA : ArgS S w a len cap Z) (hZ : Z.length = len) (hlm : len ≤ 140737488351232) :
    Calls Tryd.prog 17 #[.pointer (some ⟨cb, 0, none⟩), .slice a len cap] w fun e w' => ∃ T, ListTold cb st (dcF st.most (len + 1) st.mi st.AI [] Z) w e w' T ∧ Off S w w' ∧ ∀ k, T k → S k ∨ w.heap.size ≤ k := by
  obtain ⟨i0, hi, hz0, hz1, hz2⟩ := info_parts infoFd
  have h0 : LInv cb st S (dcF st.most (len + 1) st.mi st.AI [] Z) w len (.slice a len cap) (.slice none 0 0) w a len cap (len + 1) Z st.mi st.AI [] S :=
    ⟨rfl, Nat.le_refl _, hZ, hA, World.ownsRow_nil _ _ _ _, fun q hq => by simp [Value.ownBlock] at hq, Off.of_below (Below.refl _ _), fun q hq => Or.inl hq, hC, hF.inn, rfl, by omega, by simp, by simp [weight]⟩
  have H0 := hide h0
  have HF := hide hF
  have HBAD := hide hbad
  have HCW := hide hC
  generalize dcF st.most (len + 1) st.mi st.AI [] Z = R at *
  clear h0 hF hbad hC hA
  go_enter Tryd.func17, Tryd.ntmps17
  go_wp2_with fail
  go_loopw [1, 6] (fun b l wr => ∃ a n c k Y mi AI acc T, LInv cb st S R w len b l wr a n c k Y mi AI acc T) (fun b _ _ => lenOf b)
  case atStart => exact ⟨_, _, _, _, _, _, _, _, _, H0.out⟩
  case round =>
    obtain ⟨a, n, c, k, Y, mi, AI, acc, T, inv⟩ := hrel
    have hb := inv.hb
    subst hb
    have hn := inv.hn
    have h40 := inv.h40
    have INV := hide inv
    clear inv H0
    obtain ⟨la, lc, rfl⟩ := dslen_own INV.out.hl
    by_cases hpos : 0 < n
    · obtain ⟨k', hk'⟩ : ∃ k', k = k' + 1 := ⟨k - 1, by have := INV.out.hk; omega⟩
      subst hk'
      rcases INV.out.hA wr INV.out.hO with ⟨h0, _⟩ | ⟨g, off, rfl, hr⟩
      · omega
      have hc0 := hr.hcell 0 hpos
      rw [Nat.add_zero] at hc0
      have hzb := hr.hbyte 0
      have hcap := hr.hcap
      have hmx := hr.hmax
      unfold maxLen at hmx
      have hArg : Arg wr (some ⟨g, off, none⟩) n c Y := Or.inr ⟨g, off, rfl, hr⟩
      have hFj : HFit { st with mi := mi, AI := AI } := ⟨HF.out.out, INV.out.hF, HF.out.hmost, HF.out.hsz, HF.out.hlast⟩
      have hYl := INV.out.hY
      clear hr
      by_cases hz : 31 < Y.getD 0 0 ∧ Y.getD 0 0 < 64
      · have hsz := hsize_any cb { st with mi := mi, AI := AI } T (some ⟨g, off, none⟩) n c Y (decide (0 < acc.length)) wr INV.out.hC hFj HBAD.out hArg
        have hgb := getF_bd Y 5 (by decide) (by decide)
        rw [hYl] at hgb
        have hgu := getF_used Y 5
        rw [hYl] at hgu
        obtain ⟨u, hu⟩ := Int.eq_ofNat_of_zero_le hgu.1
        have D1 := hide (dc_sz_ok st.most k' mi AI acc Y (by omega) hz)
        have D2 := hide (dc_sz_bad st.most k' mi AI acc Y (by omega) hz)
        rw [hu] at hsz hgb hgu D1
        have HGB := hide hgb
        have HYL := hide hYl
        generalize Y.getD 0 0 = z at *
        have d1 : decide (32 ≤ z) = true := by simp; omega
        have d2 : decide (z < 64) = true := by simp; omega
        generalize (getF Y 5).1 = gn at *
        generalize (getF Y 5).2.2 = gk at *
        have hun : u ≤ n := by omega
        clear hz hArg hFj hgb hYl hZ hgu hu
        go_wp2_with fail
        refine hsz.mono ?_
        rintro e w1 hso
        have HSO := hide hso
        clear hso hsz
        rcases HSO.out with ⟨s1, s2, s3, rfl, s4, S', s5, s6⟩ | ⟨q, q1, q2, q3, rfl, rfl⟩
        · obtain ⟨g0, g1, g2⟩ := HGB.out s1
          have HA0 : Hid (acc.length = 0) := by show acc.length = 0; simpa using s3
          have HR : Hid (R = dcF st.most k' gn (AI.take (keepN AI gn AI.length)) acc (Y.drop u)) := by
            show R = _
            rw [INV.out.hR, D1.out s1 s2 HA0.out, Int.toNat_natCast]
          obtain ⟨o, ho, hcut⟩ := INV.out.hA.cut u hun hpos
          have HCU := hide hcut
          have b1 : (0 : Int) ≤ (u : Int) := by omega
          have b2 : (u : Int) ≤ (n : Int) := by omega
          have b3 : (u : Int) ≤ (c : Int) := by omega
          have hu1 : 1 ≤ u := by omega
          have S4 := hide s4
          have S5 := hide s5
          have S6 := hide s6
          have S2 := hide s2
          clear s1 s2 s3 s4 s5 s6 HSO D1 D2 HGB hcut g1 g2 hc0
          go_wp2
          go_roundw
          case rel =>
            refine ⟨_, n - u, c - u, k', Y.drop u, gn, _, acc, S', ⟨rfl, by omega, by rw [List.length_drop, HYL.out], HCU.out, ?_, ?_, INV.out.hO.trans2 S4.out INV.out.hT, ?_, S6.out, Fit.shrink g0 (by have h1 := HF.out.hmost.2; have h2 : gn ≤ st.most := S2.out; omega), HR.out, by have := INV.out.hk; omega, h40, INV.out.hw⟩⟩
            · exact own_kept INV.out.hl (fun q hq => S4.out.block q (INV.out.hl.lt q hq).2 (INV.out.hN q hq))
            · intro q hq h
              rcases S5.out q h with h1 | h1
              · exact INV.out.hN q hq h1
              · have := (INV.out.hl.lt q hq).2; omega
            · intro q h
              rcases S5.out q h with h1 | h1
              · exact INV.out.hT q h1
              · have := INV.out.hO.size; right; omega
          case measure => simp [lenOf]; omega
        · have HR : Hid (R = ([], q, mi, AI)) := by
            show R = _
            rw [INV.out.hR, D2.out (fun h => q3 ⟨h.1, h.2.1, by simpa using h.2.2⟩), q2]
          have Q1 := hide q1
          clear q1 q2 q3 HSO D1 D2 HGB
          go_wp2
          go_ret2
          refine ⟨T, Or.inr ⟨by rw [HR.out]; exact Q1.out, by rw [HR.out]; rfl, mi, AI, INV.out.hC⟩, INV.out.hO, INV.out.hT⟩
      · have hfl := hfield_any cb { st with mi := mi, AI := AI } T (some ⟨g, off, none⟩) n c Y wr INV.out.hC hFj HBAD.out hArg hpos (by omega)
        have D3 := hide (dc_fl_bad st.most k' mi AI acc Y (by omega) hz)
        have D4 := hide (dc_fl_full st.most k' mi AI acc Y (by omega) hz)
        have D5 := hide (dc_fl_ok st.most k' mi AI acc Y (by omega) hz)
        have HBD := hide (fld_bd mi AI Y)
        have HSM := hide (fld_small AI Y INV.out.hF)
        have HFF := hide (INV.out.hF.fld Y)
        have HYL := hide hYl
        simp only at hfl
        generalize fldF mi AI Y = FF at *
        obtain ⟨⟨⟨fn, fv⟩, fu, fk⟩, A'⟩ := FF
        simp only at hfl D3 D4 D5 HBD HSM HFF
        generalize Y.getD 0 0 = z at *
        by_cases hzz : 31 < z
        · have d1 : decide (32 ≤ z) = true := by simp; omega
          have d2 : decide (z < 64) = false := by simp; omega
          clear hz hArg hFj hYl hZ
          go_wp2_with fail
          refine hfl.mono ?_
          rintro e w1 ⟨⟨x, rfl, hx⟩, hoff1, T1, hT1, hC1⟩
          have HX := hide hx
          have HC1 := hide hC1
          have hs1 := hoff1.size
          have HO1 : Hid (w1.ownsRow w.heap.size 33 2 (.slice la acc.length lc) acc.length (fcells acc)) := own_kept INV.out.hl (fun q hq => hoff1.block q (INV.out.hl.lt q hq).2 (INV.out.hN q hq))
          have HN1 : Hid (∀ q, (Value.slice la acc.length lc).ownBlock = some q → ¬ T1 q ∧ w.heap.size ≤ q) := fun q hq => ⟨fun h => by
            rcases hT1 q h with h1 | h1
            · exact INV.out.hN q hq h1
            · have := (INV.out.hl.lt q hq).2; omega, (INV.out.hl.lt q hq).1⟩
          have HT1 : Hid (∀ q, T1 q → S q ∨ w.heap.size ≤ q) := fun q hq => by
            rcases hT1 q hq with h1 | h1
            · exact INV.out.hT q h1
            · have := INV.out.hO.size; right; omega
          have HF1 : Hid (Off S w w1) := INV.out.hO.trans2 hoff1 INV.out.hT
          have hsw := HF1.out.size
          clear hfl hx hoff1 hT1 hC1 hc0
          simp only
          simp only at HX HC1
          obtain ⟨wA, hwA⟩ : ∃ wA, wA = w1.alloc (.cells #[.string fn, .string fv] 33) := ⟨_, rfl⟩
          have hbA : Below w1.heap.size w1 wA := by rw [hwA]; exact (Below.refl _ _).alloc (Nat.le_refl _) _
          have HBA := hide hbA
          clear hbA
          by_cases hk : fk = 0
          · subst hk
            have hxn : x = .nilIface := by
              rcases HX.out with h | h
              · exact h.2
              · exact absurd rfl h.1
            subst hxn
            obtain ⟨u1, u2⟩ := HBD.out rfl
            rw [HYL.out] at u2
            obtain ⟨u, rfl⟩ := Int.eq_ofNat_of_zero_le (show 0 ≤ fu by omega)
            have hsm := HSM.out rfl
            obtain ⟨wB, hwB⟩ : ∃ wB, wB = wA.alloc (.cells #[.string fn, .string fv] 33) := ⟨_, rfl⟩
            have hbB : Below w1.heap.size w1 wB := by rw [hwB]; exact HBA.out.alloc HBA.out.size _
            have HNW : Hid (∀ j u, [Value.string fn, .string fv][j]? = some u → wB.cell? ((⟨w1.heap.size + 1, 0, none⟩ : Addr).add j) = some u) := by
              have e1 : wA.heap.size = w1.heap.size + 1 := by rw [hwA]; simp
              rw [hwB, ← e1]
              exact World.news_of_block (w := wA.alloc (.cells #[.string fn, .string fv] 33)) (B := wA.heap.size) (cs := #[.string fn, .string fv]) (t := 33) (fr := (0, 0)) Array.getElem?_push_size
            have HOB : Hid (wB.ownsRow w.heap.size 33 2 (.slice la acc.length lc) acc.length (fcells acc)) := own_kept HO1.out (fun q hq => hbB.block q (HO1.out.lt q hq).2)
            have hsB := hbB.size
            have HBB := hide hbB
            clear HO1 hbB
            subst hwB
            subst hwA
            go_wp2_with (at_builtin; refine wpList_append_own_at _ rfl _ _ 34 rfl w.heap.size 33 i0 _ 2 32 Tryd.underlying34 hi hz0 hz1 hz2 rfl (by decide) _ _ _ rfl HOB.out ⟨w1.heap.size + 1, 0, none⟩ 1 1 [.string fn, .string fv] rfl rfl HNW.out (by intro u hu; simp at hu; rcases hu with rfl | rfl <;> rfl) ?c3 ?c4 ?c5 ?_)
            case c3 => unfold maxLen; omega
            case c4 => omega
            case c5 => first | omega | (simp; omega)
            intro v3 w3 hown3 hgrow3 _ hat3
            have hown3' : w3.ownsRow w.heap.size 33 2 v3 (acc.length + 1) (fcells (acc ++ [(fn, fv)])) := by rw [fcells_append]; exact hown3
            obtain ⟨g3, cap3, rfl, hg3, hl3⟩ := World.ownsRow.form hown3' (by omega)
            have HO3 := hide hown3'
            have HG3 := hide hgrow3
            have HA3 := hide hat3
            have hs3 := hgrow3.size
            have hwt : weight (acc ++ [(fn, fv)]) ≤ 20000 := by
              have h1 := INV.out.hw
              rw [weight_append, weight_one]
              unfold fsize
              simp only
              omega
            have hlnA : (acc ++ [(fn, fv)]).length = acc.length + 1 := by simp
            have hmay := fun q hq => hmay_any (some ⟨g3, 0, none⟩) (acc.length + 1) cap3 (acc ++ [(fn, fv)]) w3 (Or.inr ⟨g3, 0, rfl, dfrow_of hlnA HO3.out⟩) (by omega) (fun _ => by omega) q hq
            have HFin : Hid (∀ wz, Below w3.heap.size w3 wz → Off S w wz ∧ HCod wz cb { st with mi := mi, AI := A' } T1 ∧ wz.ownsRow w.heap.size 33 2 (.slice (some ⟨g3, 0, none⟩) (acc.length + 1) cap3) (acc.length + 1) (fcells (acc ++ [(fn, fv)])) ∧ ¬ T1 g3) := fun wz hbz => by
              have hal := HCW.out.alw.pos
              have hsa : w1.heap.size ≤ ((w1.alloc (.cells #[.string fn, .string fv] 33)).alloc (.cells #[.string fn, .string fv] 33)).heap.size := by simp; omega
              have hCB := HC1.out.below HBB.out
              have hC3 := hCB.frame HG3.out.size (fun q hq => HG3.out.block q (hCB.hlt q hq) (fun e => (HN1.out q e.symm).1 hq)) (HG3.out.block _ (by omega) (fun e => by have := (HN1.out _ e.symm).2; omega))
              have hF3 : Off S w w3 := (HF1.out.trans (Off.of_below HBB.out)).trans2 (off_grown HG3.out) (fun q hq => Or.inr (HN1.out q hq).2)
              refine ⟨hF3.trans (Off.of_below hbz), hC3.below hbz, own_kept HO3.out (fun q hq => hbz.block q (HO3.out.lt q hq).2), fun h => ?_⟩
              rcases HA3.out with e | e
              · exact (HN1.out g3 (e.symm.trans rfl)).1 h
              · have e2 : g3 = ((w1.alloc (.cells #[.string fn, .string fv] 33)).alloc (.cells #[.string fn, .string fv] 33)).heap.size := by simpa [Value.ownBlock] using e
                have := HC1.out.hlt _ h
                omega
            clear hown3 hown3' hgrow3 hat3 HOB HNW
            by_cases hful : acc.length + 1 ≤ 40 ∧ weight (acc ++ [(fn, fv)]) ≤ 2000
            · have hm := hmay true (by simpa using hful)
              have HR : Hid (R = dcF st.most k' mi A' (acc ++ [(fn, fv)]) (Y.drop u)) := by
                show R = _
                rw [INV.out.hR, D5.out (by simp) (by rw [hlnA]; omega), Int.toNat_natCast]
              have hun : u ≤ n := by omega
              obtain ⟨o, ho, hcut⟩ := INV.out.hA.cut u hun hpos
              have HCU := hide hcut
              have b1 : (0 : Int) ≤ (u : Int) := by omega
              have b2 : (u : Int) ≤ (n : Int) := by omega
              have b3 : (u : Int) ≤ (c : Int) := by omega
              have HU1 : Hid (1 ≤ u) := by show 1 ≤ u; omega
              have HFU := hide hful
              have HLA := hide hlnA
              clear hmay D3 D4 D5 hcut hful hlnA u1 u2 hwt
              go_wp2_with fail
              refine hm.mono ?_
              rintro e w4 ⟨rfl, hb4⟩
              have HZ4 := hide (HFin.out w4 hb4)
              clear hm hb4
              go_wp2
              go_roundw
              case rel =>
                obtain ⟨z1, z2, z3, z4⟩ := HZ4.out
                refine ⟨_, n - u, c - u, k', Y.drop u, mi, A', acc ++ [(fn, fv)], T1, ⟨rfl, by omega, by rw [List.length_drop, HYL.out], HCU.out, ?_, ?_, z1, HT1.out, z2, HFF.out, HR.out, by have h1 := INV.out.hk; have h2 := HU1.out; omega, by rw [HLA.out]; exact HFU.out.1, HFU.out.2⟩⟩
                · rw [HLA.out]; exact z3
                · intro q hq
                  have e : g3 = q := by simpa [Value.ownBlock] using hq
                  subst e
                  exact z4
              case measure => have := HU1.out; simp [lenOf]; omega
            · have hm := hmay false (by simpa using hful)
              have HR : Hid (R = ([], 4, mi, A')) := by
                show R = _
                rw [INV.out.hR, D4.out (by simp) (by rw [hlnA]; omega)]
              clear hmay D3 D4 D5 hful hlnA u1 u2 hwt
              go_wp2_with fail
              refine hm.mono ?_
              rintro e w4 ⟨rfl, hb4⟩
              have HZ4 := hide (HFin.out w4 hb4)
              clear hm hb4
              go_wp2
              go_ret2
              obtain ⟨z1, z2, z3, z4⟩ := HZ4.out
              exact ⟨T1, Or.inr ⟨by rw [HR.out]; exact (by decide : (4 : Int) ≠ 0), by rw [HR.out]; rfl, mi, A', z2⟩, z1, HT1.out⟩
          · have hxn : x = .iface 49 (.int .i64 fk) := by
              rcases HX.out with h | h
              · exact absurd h.1 hk
              · exact h.2
            subst hxn
            have HR : Hid (R = ([], fk, mi, A')) := by
              show R = _
              rw [INV.out.hR, D3.out hk]
            have HK := hide hk
            clear D3 D4 D5 HO1 hk
            go_wp2
            go_ret2
            rw [← hwA]
            exact ⟨T1, Or.inr ⟨by rw [HR.out]; exact HK.out, by rw [HR.out]; rfl, mi, A', HC1.out.below HBA.out⟩, HF1.out.trans (Off.of_below HBA.out), HT1.out⟩
        · have d1 : decide (32 ≤ z) = false := by simp; omega
          clear hz hArg hFj hYl hZ
          go_wp2_with fail
          refine hfl.mono ?_
          rintro e w1 ⟨⟨x, rfl, hx⟩, hoff1, T1, hT1, hC1⟩
          have HX := hide hx
          have HC1 := hide hC1
          have hs1 := hoff1.size
          have HO1 : Hid (w1.ownsRow w.heap.size 33 2 (.slice la acc.length lc) acc.length (fcells acc)) := own_kept INV.out.hl (fun q hq => hoff1.block q (INV.out.hl.lt q hq).2 (INV.out.hN q hq))
          have HN1 : Hid (∀ q, (Value.slice la acc.length lc).ownBlock = some q → ¬ T1 q ∧ w.heap.size ≤ q) := fun q hq => ⟨fun h => by
            rcases hT1 q h with h1 | h1
            · exact INV.out.hN q hq h1
            · have := (INV.out.hl.lt q hq).2; omega, (INV.out.hl.lt q hq).1⟩
          have HT1 : Hid (∀ q, T1 q → S q ∨ w.heap.size ≤ q) := fun q hq => by
            rcases hT1 q hq with h1 | h1
            · exact INV.out.hT q h1
            · have := INV.out.hO.size; right; omega
          have HF1 : Hid (Off S w w1) := INV.out.hO.trans2 hoff1 INV.out.hT
          have hsw := HF1.out.size
          clear hfl hx hoff1 hT1 hC1 hc0
          simp only
          simp only at HX HC1
          obtain ⟨wA, hwA⟩ : ∃ wA, wA = w1.alloc (.cells #[.string fn, .string fv] 33) := ⟨_, rfl⟩
          have hbA : Below w1.heap.size w1 wA := by rw [hwA]; exact (Below.refl _ _).alloc (Nat.le_refl _) _
          have HBA := hide hbA
          clear hbA
          by_cases hk : fk = 0
          · subst hk
            have hxn : x = .nilIface := by
              rcases HX.out with h | h
              · exact h.2
              · exact absurd rfl h.1
            subst hxn
            obtain ⟨u1, u2⟩ := HBD.out rfl
            rw [HYL.out] at u2
            obtain ⟨u, rfl⟩ := Int.eq_ofNat_of_zero_le (show 0 ≤ fu by omega)
            have hsm := HSM.out rfl
            obtain ⟨wB, hwB⟩ : ∃ wB, wB = wA.alloc (.cells #[.string fn, .string fv] 33) := ⟨_, rfl⟩
            have hbB : Below w1.heap.size w1 wB := by rw [hwB]; exact HBA.out.alloc HBA.out.size _
            have HNW : Hid (∀ j u, [Value.string fn, .string fv][j]? = some u → wB.cell? ((⟨w1.heap.size + 1, 0, none⟩ : Addr).add j) = some u) := by
              have e1 : wA.heap.size = w1.heap.size + 1 := by rw [hwA]; simp
              rw [hwB, ← e1]
              exact World.news_of_block (w := wA.alloc (.cells #[.string fn, .string fv] 33)) (B := wA.heap.size) (cs := #[.string fn, .string fv]) (t := 33) (fr := (0, 0)) Array.getElem?_push_size
            have HOB : Hid (wB.ownsRow w.heap.size 33 2 (.slice la acc.length lc) acc.length (fcells acc)) := own_kept HO1.out (fun q hq => hbB.block q (HO1.out.lt q hq).2)
            have hsB := hbB.size
            have HBB := hide hbB
            clear HO1 hbB
            subst hwB
            subst hwA
            go_wp2_with (at_builtin; refine wpList_append_own_at _ rfl _ _ 34 rfl w.heap.size 33 i0 _ 2 32 Tryd.underlying34 hi hz0 hz1 hz2 rfl (by decide) _ _ _ rfl HOB.out ⟨w1.heap.size + 1, 0, none⟩ 1 1 [.string fn, .string fv] rfl rfl HNW.out (by intro u hu; simp at hu; rcases hu with rfl | rfl <;> rfl) ?c3 ?c4 ?c5 ?_)
            case c3 => unfold maxLen; omega
            case c4 => omega
            case c5 => first | omega | (simp; omega)
            intro v3 w3 hown3 hgrow3 _ hat3
            have hown3' : w3.ownsRow w.heap.size 33 2 v3 (acc.length + 1) (fcells (acc ++ [(fn, fv)])) := by rw [fcells_append]; exact hown3
            obtain ⟨g3, cap3, rfl, hg3, hl3⟩ := World.ownsRow.form hown3' (by omega)
            have HO3 := hide hown3'
            have HG3 := hide hgrow3
            have HA3 := hide hat3
            have hs3 := hgrow3.size
            have hwt : weight (acc ++ [(fn, fv)]) ≤ 20000 := by
              have h1 := INV.out.hw
              rw [weight_append, weight_one]
              unfold fsize
              simp only
              omega
            have hlnA : (acc ++ [(fn, fv)]).length = acc.length + 1 := by simp
            have hmay := fun q hq => hmay_any (some ⟨g3, 0, none⟩) (acc.length + 1) cap3 (acc ++ [(fn, fv)]) w3 (Or.inr ⟨g3, 0, rfl, dfrow_of hlnA HO3.out⟩) (by omega) (fun _ => by omega) q hq
            have HFin : Hid (∀ wz, Below w3.heap.size w3 wz → Off S w wz ∧ HCod wz cb { st with mi := mi, AI := A' } T1 ∧ wz.ownsRow w.heap.size 33 2 (.slice (some ⟨g3, 0, none⟩) (acc.length + 1) cap3) (acc.length + 1) (fcells (acc ++ [(fn, fv)])) ∧ ¬ T1 g3) := fun wz hbz => by
              have hal := HCW.out.alw.pos
              have hsa : w1.heap.size ≤ ((w1.alloc (.cells #[.string fn, .string fv] 33)).alloc (.cells #[.string fn, .string fv] 33)).heap.size := by simp; omega
              have hCB := HC1.out.below HBB.out
              have hC3 := hCB.frame HG3.out.size (fun q hq => HG3.out.block q (hCB.hlt q hq) (fun e => (HN1.out q e.symm).1 hq)) (HG3.out.block _ (by omega) (fun e => by have := (HN1.out _ e.symm).2; omega))
              have hF3 : Off S w w3 := (HF1.out.trans (Off.of_below HBB.out)).trans2 (off_grown HG3.out) (fun q hq => Or.inr (HN1.out q hq).2)
              refine ⟨hF3.trans (Off.of_below hbz), hC3.below hbz, own_kept HO3.out (fun q hq => hbz.block q (HO3.out.lt q hq).2), fun h => ?_⟩
              rcases HA3.out with e | e
              · exact (HN1.out g3 (e.symm.trans rfl)).1 h
              · have e2 : g3 = ((w1.alloc (.cells #[.string fn, .string fv] 33)).alloc (.cells #[.string fn, .string fv] 33)).heap.size := by simpa [Value.ownBlock] using e
                have := HC1.out.hlt _ h
                omega
            clear hown3 hown3' hgrow3 hat3 HOB HNW
            by_cases hful : acc.length + 1 ≤ 40 ∧ weight (acc ++ [(fn, fv)]) ≤ 2000
            · have hm := hmay true (by simpa using hful)
              have HR : Hid (R = dcF st.most k' mi A' (acc ++ [(fn, fv)]) (Y.drop u)) := by
                show R = _
                rw [INV.out.hR, D5.out (by simp) (by rw [hlnA]; omega), Int.toNat_natCast]
              have hun : u ≤ n := by omega
              obtain ⟨o, ho, hcut⟩ := INV.out.hA.cut u hun hpos
              have HCU := hide hcut
              have b1 : (0 : Int) ≤ (u : Int) := by omega
              have b2 : (u : Int) ≤ (n : Int) := by omega
              have b3 : (u : Int) ≤ (c : Int) := by omega
              have HU1 : Hid (1 ≤ u) := by show 1 ≤ u; omega
              have HFU := hide hful
              have HLA := hide hlnA
              clear hmay D3 D4 D5 hcut hful hlnA u1 u2 hwt
              go_wp2_with fail
              refine hm.mono ?_
              rintro e w4 ⟨rfl, hb4⟩
              have HZ4 := hide (HFin.out w4 hb4)
              clear hm hb4
              go_wp2
              go_roundw
              case rel =>
                obtain ⟨z1, z2, z3, z4⟩ := HZ4.out
                refine ⟨_, n - u, c - u, k', Y.drop u, mi, A', acc ++ [(fn, fv)], T1, ⟨rfl, by omega, by rw [List.length_drop, HYL.out], HCU.out, ?_, ?_, z1, HT1.out, z2, HFF.out, HR.out, by have h1 := INV.out.hk; have h2 := HU1.out; omega, by rw [HLA.out]; exact HFU.out.1, HFU.out.2⟩⟩
                · rw [HLA.out]; exact z3
                · intro q hq
                  have e : g3 = q := by simpa [Value.ownBlock] using hq
                  subst e
                  exact z4
              case measure => have := HU1.out; simp [lenOf]; omega
            · have hm := hmay false (by simpa using hful)
              have HR : Hid (R = ([], 4, mi, A')) := by
                show R = _
                rw [INV.out.hR, D4.out (by simp) (by rw [hlnA]; omega)]
              clear hmay D3 D4 D5 hful hlnA u1 u2 hwt
              go_wp2_with fail
              refine hm.mono ?_
              rintro e w4 ⟨rfl, hb4⟩
              have HZ4 := hide (HFin.out w4 hb4)
              clear hm hb4
              go_wp2
              go_ret2
              obtain ⟨z1, z2, z3, z4⟩ := HZ4.out
              exact ⟨T1, Or.inr ⟨by rw [HR.out]; exact (by decide : (4 : Int) ≠ 0), by rw [HR.out]; rfl, mi, A', z2⟩, z1, HT1.out⟩
          · have hxn : x = .iface 49 (.int .i64 fk) := by
              rcases HX.out with h | h
              · exact absurd h.1 hk
              · exact h.2
            subst hxn
            have HR : Hid (R = ([], fk, mi, A')) := by
              show R = _
              rw [INV.out.hR, D3.out hk]
            have HK := hide hk
            clear D3 D4 D5 HO1 hk
            go_wp2
            go_ret2
            rw [← hwA]
            exact ⟨T1, Or.inr ⟨by rw [HR.out]; exact HK.out, by rw [HR.out]; rfl, mi, A', HC1.out.below HBA.out⟩, HF1.out.trans (Off.of_below HBA.out), HT1.out⟩
    · have hnil : n = 0 := by omega
      subst hnil
      have HR : Hid (R = (acc, 0, mi, AI)) := by
        show R = _
        rw [INV.out.hR, dc_nil _ _ _ _ _ _ INV.out.hY]
      go_wp2
      go_ret2
      refine ⟨T, Or.inl ⟨by rw [HR.out], _, rfl, ?_, INV.out.hN, ?_, ?_⟩, INV.out.hO, INV.out.hT⟩
      · rw [HR.out]; exact INV.out.hl
      · rw [HR.out]; exact INV.out.hC
      · rw [HR.out]; exact INV.out.hF
end Go.Proofs.YtkjfhgoddhigmacDoor
