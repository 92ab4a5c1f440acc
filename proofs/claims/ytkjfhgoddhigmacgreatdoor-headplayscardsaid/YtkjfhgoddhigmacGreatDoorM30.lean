/-
  THE DOCUMENT'S CODER, its table for what comes in. No claim by itself.
-/
import Derived.Test.YtkjfhgoddhigmacGreatDoorM27
import Derived.Test.YtkjfhgoddhigmacGreatDoorM29
import Derived.Test.YtkjfhgoddhigmacGreatDoorM23
namespace Go.Proofs.YtkjfhgoddhigmacGreatDoor
open Go.RowKit
set_option maxRecDepth 100000
theorem CodR.inn {w : World} {cb : Nat} {st : CSt} {S : Nat → Prop} (h : CodR w cb st S) : ∃ G : Nat → Prop, TabR w cb 2 st.mi st.AI G ∧
    ∀ m A w', But cb 2 (w.setCell ⟨cb, 3, none⟩ (.int .i64 m)) w' → TabR w' cb 2 m A G → CodR w' cb { st with mi := m, AI := A } S := by
  obtain ⟨h1, h2, h3, h4, h5, v, h6, h7, h8, h9, h10⟩ := h
  refine ⟨_, h10, fun m A w' hb hT => ?_⟩
  have hl := h2 cb h1
  have hs1 : (w.setCell ⟨cb, 3, none⟩ (.int .i64 m)).heap.size = w.heap.size := by simp
  have hs := hb.size
  have hc : ∀ i, i ≠ 2 → i ≠ 3 → w'.cell? ⟨cb, i, none⟩ = w.cell? ⟨cb, i, none⟩ := fun i hi hj =>
    (hb.cells i hi (by omega)).trans (World.cell?_setCell_other w ⟨cb, 3, none⟩ ⟨cb, i, none⟩ _ (by intro e; cases e; exact hj rfl))
  have hf : ∀ i, w'.frozen? ⟨cb, i, none⟩ = w.frozen? ⟨cb, i, none⟩ := fun i => (hb.froz i (by omega)).trans (by rw [World.frozen?_setCell])
  have hk : ∀ k, k < w.heap.size → k ≠ cb → w'.heap[k]? = w.heap[k]? := fun k hk hn => (hb.block k (by omega) hn).trans (Below.heap_setCell w ⟨cb, 3, none⟩ _ k hn)
  refine ⟨h1, fun k hk' => by have := h2 k hk'; omega, (hc 4 (by decide) (by decide)).trans h3, (hc 6 (by decide) (by decide)).trans h4, ⟨(hf 5).trans h5.1, (hf 6).trans h5.2⟩, v, (hc 5 (by decide) (by decide)).trans h6, own_kept h7 (fun k e => hk k (h2 k (h8 k e).1) (h8 k e).2), h8, ?_, hT⟩
  exact h9.same (fun i hi => hc i (by omega) (by omega)) (fun i _ => hf i) (fun k hk' hn _ => hk k hk' hn)
/-- Behind what turns the table for what comes in alone. -/
theorem CodR.setInn {w w' : World} {cb : Nat} {st : CSt} {S : Nat → Prop} (h : CodR w cb st S) (hb : But cb 2 w w') (mi : Int) (A : List (ByteArray × ByteArray)) (hT : TabR w' cb 2 mi A (fun q => w.heap.size ≤ q)) :
    CodR w' cb { st with mi := mi, AI := A } (fun k => S k ∨ (w.heap.size ≤ k ∧ k < w'.heap.size)) := by
  obtain ⟨h1, h2, h3, h4, h5, v, h6, h7, h8, h9, h10⟩ := h
  have hl := h2 cb h1
  have hs := hb.size
  refine ⟨Or.inl h1, fun k hk => ?_, (hb.cells 4 (by decide) hl).trans h3, (hb.cells 6 (by decide) hl).trans h4, ⟨(hb.froz 5 hl).trans h5.1, (hb.froz 6 hl).trans h5.2⟩, v, (hb.cells 5 (by decide) hl).trans h6, own_kept h7 (fun k e => hb.block k (h2 k (h8 k e).1) (h8 k e).2), fun k e => ⟨Or.inl (h8 k e).1, (h8 k e).2⟩, ?_, ?_⟩
  · rcases hk with hk | hk
    · have := h2 k hk; omega
    · exact hk.2
  · exact (h9.same (fun i hi => hb.cells i (by omega) hl) (fun i _ => hb.froz i hl) (fun k hk hn _ => hb.block k hk hn)).imp (fun q _ hg => ⟨Or.inl hg.1, hg.2⟩)
  · exact hT.imp (fun q hq hg => ⟨Or.inr ⟨hg, hq⟩, fun e => by have := h2 q (h8 q e).1; omega⟩)
/-- What the document's reading of a list gives. -/
def RListTold (cb : Nat) (st : CSt) (R : List (ByteArray × ByteArray) × Int × Int × List (ByteArray × ByteArray)) (w : World) (e : Ending) (w' : World) (T : Nat → Prop) : Prop :=
  (R.2.1 = 0 ∧ ∃ v, e = .returned (.tuple #[v, .int .i64 0]) ∧ w'.ownsRow w.heap.size 60 2 v R.1.length (fcells R.1) ∧ (∀ k, v.ownBlock = some k → ¬ T k) ∧ CodR w' cb { st with mi := R.2.2.1, AI := R.2.2.2 } T ∧ Fit R.2.2.1 R.2.2.2) ∨
  (R.2.1 ≠ 0 ∧ e = .returned (.tuple #[.slice none 0 0, .int .i64 R.2.1]) ∧ ∃ mi AI, CodR w' cb { st with mi := mi, AI := AI } T)
/-- Where the loop stands. -/
structure RInv (cb : Nat) (st : CSt) (S : Nat → Prop) (R : List (ByteArray × ByteArray) × Int × Int × List (ByteArray × ByteArray)) (w : World) (len : Nat) (b l : Value) (wr : World)
    (a : Option Addr) (n c k : Nat) (Y : List Int) (mi : Int) (AI acc : List (ByteArray × ByteArray)) (T : Nat → Prop) : Prop where
  hb : b = .slice a n c
  hn : n ≤ len
  hY : Y.length = n
  hA : ArgS S w a n c Y
  hl : wr.ownsRow w.heap.size 60 2 l acc.length (fcells acc)
  hN : ∀ q, l.ownBlock = some q → ¬ T q
  hO : Off S w wr
  hT : ∀ q, T q → S q ∨ w.heap.size ≤ q
  hC : CodR wr cb { st with mi := mi, AI := AI } T
  hF : Fit mi AI
  hR : R = dcF st.most k mi AI acc Y
  hk : n < k
  h40 : acc.length ≤ 40
  hw : weight acc ≤ 2000
end Go.Proofs.YtkjfhgoddhigmacGreatDoor
/-
  CONTRACT of the method readList of head.Coder. No claim by itself.
-/
namespace Go.Proofs.YtkjfhgoddhigmacGreatDoor
open Go.RowKit
set_option maxRecDepth 100000
/-- What reading a list gives: the fields, and the table then; or a fault. -/
def ListTold (cb : Nat) (st : CSt) (R : List (ByteArray × ByteArray) × Int × Int × List (ByteArray × ByteArray)) (w : World) (e : Ending) (w' : World) (T : Nat → Prop) : Prop :=
  (R.2.1 = 0 ∧ ∃ v, e = .returned (.tuple #[v, .nilIface]) ∧ w'.ownsRow w.heap.size 60 2 v R.1.length (fcells R.1) ∧ (∀ k, v.ownBlock = some k → ¬ T k) ∧ HCod w' cb { st with mi := R.2.2.1, AI := R.2.2.2 } T ∧ Fit R.2.2.1 R.2.2.2) ∨
  (R.2.1 ≠ 0 ∧ e = .returned (.tuple #[.slice none 0 0, .iface 53 (.int .i64 R.2.1)]) ∧ ∃ mi AI, HCod w' cb { st with mi := mi, AI := AI } T)
/-- Where the loop stands. -/
structure LInv (cb : Nat) (st : CSt) (S : Nat → Prop) (R : List (ByteArray × ByteArray) × Int × Int × List (ByteArray × ByteArray)) (w : World) (len : Nat) (b l : Value) (wr : World)
    (a : Option Addr) (n c k : Nat) (Y : List Int) (mi : Int) (AI acc : List (ByteArray × ByteArray)) (T : Nat → Prop) : Prop where
  hb : b = .slice a n c
  hn : n ≤ len
  hY : Y.length = n
  hA : ArgS S w a n c Y
  hl : wr.ownsRow w.heap.size 60 2 l acc.length (fcells acc)
  hN : ∀ q, l.ownBlock = some q → ¬ T q
  hO : Off S w wr
  hT : ∀ q, T q → S q ∨ w.heap.size ≤ q
  hC : HCod wr cb { st with mi := mi, AI := AI } T
  hF : Fit mi AI
  hR : R = dcF st.most k mi AI acc Y
  hk : n < k
  h40 : acc.length ≤ 40
  hw : weight acc ≤ 2000
def lenOf : Value → Nat
  | .slice _ n _ => n
  | _ => 0
set_option maxHeartbeats 8000000 in
theorem hlist_any (cb : Nat) (st : CSt) (S : Nat → Prop) (a : Option Addr) (len cap : Nat) (Z : List Int) (w : World) (hC : HCod w cb st S) (hF : HFit st) (hbad : st.bad = false) (hA : ArgS S w a len cap Z) (hZ : Z.length = len) (hlm : len ≤ 140737488351232) :
    Calls Tryz.prog 32 #[.pointer (some ⟨cb, 0, none⟩), .slice a len cap] w fun e w' => ∃ T, ListTold cb st (dcF st.most (len + 1) st.mi st.AI [] Z) w e w' T ∧ Off S w w' ∧ ∀ k, T k → S k ∨ w.heap.size ≤ k := by
  obtain ⟨i0, hi, hz0, hz1, hz2⟩ := info_parts infoFd
  have h0 : LInv cb st S (dcF st.most (len + 1) st.mi st.AI [] Z) w len (.slice a len cap) (.slice none 0 0) w a len cap (len + 1) Z st.mi st.AI [] S :=
    ⟨rfl, Nat.le_refl _, hZ, hA, World.ownsRow_nil _ _ _ _, fun q hq => by simp [Value.ownBlock] at hq, Off.of_below (Below.refl _ _), fun q hq => Or.inl hq, hC, hF.inn, rfl, by omega, by simp, by simp [weight]⟩
  have H0 := hide h0
  have HF := hide hF
  have HBAD := hide hbad
  have HCW := hide hC
  generalize dcF st.most (len + 1) st.mi st.AI [] Z = R at *
  clear h0 hF hbad hC hA
  go_enter Tryz.func32, Tryz.ntmps32
  go_wp2_with fail
  go_loopw [1, 6] (fun b l wr => ∃ a n c k Y mi AI acc T, LInv cb st S R w len b l wr a n c k Y mi AI acc T) (fun b _ _ => lenOf b)
  case atStart => exact ⟨_, _, _, _, _, _, _, _, _, H0.out⟩
  case round =>
    obtain ⟨a, n, c, k, Y, mi, AI, acc, T, inv⟩ := hrel
    have hb := inv.hb
    subst hb
    have hn := inv.hn
    have h40 := inv.h40
    have INV := hide inv
    clear inv H0
    obtain ⟨la, lc, rfl⟩ := dslen_own INV.out.hl
    by_cases hpos : 0 < n
    · obtain ⟨k', hk'⟩ : ∃ k', k = k' + 1 := ⟨k - 1, by have := INV.out.hk; omega⟩
      subst hk'
      rcases INV.out.hA wr INV.out.hO with ⟨h0, _⟩ | ⟨g, off, rfl, hr⟩
      · omega
      have hc0 := hr.hcell 0 hpos
      rw [Nat.add_zero] at hc0
      have hzb := hr.hbyte 0
      have hcap := hr.hcap
      have hmx := hr.hmax
      unfold maxLen at hmx
      have hArg : Arg wr (some ⟨g, off, none⟩) n c Y := Or.inr ⟨g, off, rfl, hr⟩
      have hFj : HFit { st with mi := mi, AI := AI } := ⟨HF.out.out, INV.out.hF, HF.out.hmost, HF.out.hsz, HF.out.hlast⟩
      have hYl := INV.out.hY
      clear hr
      by_cases hz : 31 < Y.getD 0 0 ∧ Y.getD 0 0 < 64
      · have hsz := hsize_any cb { st with mi := mi, AI := AI } T (some ⟨g, off, none⟩) n c Y (decide (0 < acc.length)) wr INV.out.hC hFj HBAD.out hArg
        have hgb := getF_bd Y 5 (by decide) (by decide)
        rw [hYl] at hgb
        have hgu := getF_used Y 5
        rw [hYl] at hgu
        obtain ⟨u, hu⟩ := Int.eq_ofNat_of_zero_le hgu.1
        have D1 := hide (dc_sz_ok st.most k' mi AI acc Y (by omega) hz)
        have D2 := hide (dc_sz_bad st.most k' mi AI acc Y (by omega) hz)
        rw [hu] at hsz hgb hgu D1
        have HGB := hide hgb
        have HYL := hide hYl
        generalize Y.getD 0 0 = z at *
        have d1 : decide (32 ≤ z) = true := by simp; omega
        have d2 : decide (z < 64) = true := by simp; omega
        generalize (getF Y 5).1 = gn at *
        generalize (getF Y 5).2.2 = gk at *
        have hun : u ≤ n := by omega
        clear hz hArg hFj hgb hYl hZ hgu hu
        go_wp2_with fail
        refine hsz.mono ?_
        rintro e w1 hso
        have HSO := hide hso
        clear hso hsz
        rcases HSO.out with ⟨s1, s2, s3, rfl, s4, S', s5, s6⟩ | ⟨q, q1, q2, q3, rfl, rfl⟩
        · obtain ⟨g0, g1, g2⟩ := HGB.out s1
          have HA0 : Hid (acc.length = 0) := by show acc.length = 0; simpa using s3
          have HR : Hid (R = dcF st.most k' gn (AI.take (keepN AI gn AI.length)) acc (Y.drop u)) := by
            show R = _
            rw [INV.out.hR, D1.out s1 s2 HA0.out, Int.toNat_natCast]
          obtain ⟨o, ho, hcut⟩ := INV.out.hA.cut u hun hpos
          have HCU := hide hcut
          have b1 : (0 : Int) ≤ (u : Int) := by omega
          have b2 : (u : Int) ≤ (n : Int) := by omega
          have b3 : (u : Int) ≤ (c : Int) := by omega
          have hu1 : 1 ≤ u := by omega
          have S4 := hide s4
          have S5 := hide s5
          have S6 := hide s6
          have S2 := hide s2
          clear s1 s2 s3 s4 s5 s6 HSO D1 D2 HGB hcut g1 g2 hc0
          go_wp2
          go_roundw
          case rel =>
            refine ⟨_, n - u, c - u, k', Y.drop u, gn, _, acc, S', ⟨rfl, by omega, by rw [List.length_drop, HYL.out], HCU.out, ?_, ?_, INV.out.hO.trans2 S4.out INV.out.hT, ?_, S6.out, Fit.shrink g0 (by have h1 := HF.out.hmost.2; have h2 : gn ≤ st.most := S2.out; omega), HR.out, by have := INV.out.hk; omega, h40, INV.out.hw⟩⟩
            · exact own_kept INV.out.hl (fun q hq => S4.out.block q (INV.out.hl.lt q hq).2 (INV.out.hN q hq))
            · intro q hq h
              rcases S5.out q h with h1 | h1
              · exact INV.out.hN q hq h1
              · have := (INV.out.hl.lt q hq).2; omega
            · intro q h
              rcases S5.out q h with h1 | h1
              · exact INV.out.hT q h1
              · have := INV.out.hO.size; right; omega
          case measure => simp [lenOf]; omega
        · have HR : Hid (R = ([], q, mi, AI)) := by
            show R = _
            rw [INV.out.hR, D2.out (fun h => q3 ⟨h.1, h.2.1, by simpa using h.2.2⟩), q2]
          have Q1 := hide q1
          clear q1 q2 q3 HSO D1 D2 HGB
          go_wp2
          go_ret2
          refine ⟨T, Or.inr ⟨by rw [HR.out]; exact Q1.out, by rw [HR.out]; rfl, mi, AI, INV.out.hC⟩, INV.out.hO, INV.out.hT⟩
      · have hfl := hfield_any cb { st with mi := mi, AI := AI } T (some ⟨g, off, none⟩) n c Y wr INV.out.hC hFj HBAD.out hArg hpos (by omega)
        have D3 := hide (dc_fl_bad st.most k' mi AI acc Y (by omega) hz)
        have D4 := hide (dc_fl_full st.most k' mi AI acc Y (by omega) hz)
        have D5 := hide (dc_fl_ok st.most k' mi AI acc Y (by omega) hz)
        have HBD := hide (fld_bd mi AI Y)
        have HSM := hide (fld_small AI Y INV.out.hF)
        have HFF := hide (INV.out.hF.fld Y)
        have HYL := hide hYl
        simp only at hfl
        generalize fldF mi AI Y = FF at *
        obtain ⟨⟨⟨fn, fv⟩, fu, fk⟩, A'⟩ := FF
        simp only at hfl D3 D4 D5 HBD HSM HFF
        generalize Y.getD 0 0 = z at *
        by_cases hzz : 31 < z
        · have d1 : decide (32 ≤ z) = true := by simp; omega
          have d2 : decide (z < 64) = false := by simp; omega
          clear hz hArg hFj hYl hZ
          go_wp2_with fail
          refine hfl.mono ?_
          rintro e w1 ⟨⟨x, rfl, hx⟩, hoff1, T1, hT1, hC1⟩
          have HX := hide hx
          have HC1 := hide hC1
          have hs1 := hoff1.size
          have HO1 : Hid (w1.ownsRow w.heap.size 60 2 (.slice la acc.length lc) acc.length (fcells acc)) := own_kept INV.out.hl (fun q hq => hoff1.block q (INV.out.hl.lt q hq).2 (INV.out.hN q hq))
          have HN1 : Hid (∀ q, (Value.slice la acc.length lc).ownBlock = some q → ¬ T1 q ∧ w.heap.size ≤ q) := fun q hq => ⟨fun h => by
            rcases hT1 q h with h1 | h1
            · exact INV.out.hN q hq h1
            · have := (INV.out.hl.lt q hq).2; omega, (INV.out.hl.lt q hq).1⟩
          have HT1 : Hid (∀ q, T1 q → S q ∨ w.heap.size ≤ q) := fun q hq => by
            rcases hT1 q hq with h1 | h1
            · exact INV.out.hT q h1
            · have := INV.out.hO.size; right; omega
          have HF1 : Hid (Off S w w1) := INV.out.hO.trans2 hoff1 INV.out.hT
          have hsw := HF1.out.size
          clear hfl hx hoff1 hT1 hC1 hc0
          simp only
          simp only at HX HC1
          obtain ⟨wA, hwA⟩ : ∃ wA, wA = w1.alloc (.cells #[.string fn, .string fv] 60) := ⟨_, rfl⟩
          have hbA : Below w1.heap.size w1 wA := by rw [hwA]; exact (Below.refl _ _).alloc (Nat.le_refl _) _
          have HBA := hide hbA
          clear hbA
          by_cases hk : fk = 0
          · subst hk
            have hxn : x = .nilIface := by
              rcases HX.out with h | h
              · exact h.2
              · exact absurd rfl h.1
            subst hxn
            obtain ⟨u1, u2⟩ := HBD.out rfl
            rw [HYL.out] at u2
            obtain ⟨u, rfl⟩ := Int.eq_ofNat_of_zero_le (show 0 ≤ fu by omega)
            have hsm := HSM.out rfl
            obtain ⟨wB, hwB⟩ : ∃ wB, wB = wA.alloc (.cells #[.string fn, .string fv] 60) := ⟨_, rfl⟩
            have hbB : Below w1.heap.size w1 wB := by rw [hwB]; exact HBA.out.alloc HBA.out.size _
            have HNW : Hid (∀ j u, [Value.string fn, .string fv][j]? = some u → wB.cell? ((⟨w1.heap.size + 1, 0, none⟩ : Addr).add j) = some u) := by
              have e1 : wA.heap.size = w1.heap.size + 1 := by rw [hwA]; simp
              rw [hwB, ← e1]
              exact World.news_of_block (w := wA.alloc (.cells #[.string fn, .string fv] 60)) (B := wA.heap.size) (cs := #[.string fn, .string fv]) (t := 60) (fr := (0, 0)) Array.getElem?_push_size
            have HOB : Hid (wB.ownsRow w.heap.size 60 2 (.slice la acc.length lc) acc.length (fcells acc)) := own_kept HO1.out (fun q hq => hbB.block q (HO1.out.lt q hq).2)
            have hsB := hbB.size
            have HBB := hide hbB
            clear HO1 hbB
            subst hwB
            subst hwA
            go_wp2_with (at_builtin; refine wpList_append_own_at _ rfl _ _ 38 rfl w.heap.size 60 i0 _ 2 32 Tryz.underlying38 hi hz0 hz1 hz2 rfl (by decide) _ _ _ rfl HOB.out ⟨w1.heap.size + 1, 0, none⟩ 1 1 [.string fn, .string fv] rfl rfl HNW.out (by intro u hu; simp at hu; rcases hu with rfl | rfl <;> rfl) ?c3 ?c4 ?c5 ?_)
            case c3 => unfold maxLen; omega
            case c4 => omega
            case c5 => first | omega | (simp; omega)
            intro v3 w3 hown3 hgrow3 _ hat3
            have hown3' : w3.ownsRow w.heap.size 60 2 v3 (acc.length + 1) (fcells (acc ++ [(fn, fv)])) := by rw [fcells_append]; exact hown3
            obtain ⟨g3, cap3, rfl, hg3, hl3⟩ := World.ownsRow.form hown3' (by omega)
            have HO3 := hide hown3'
            have HG3 := hide hgrow3
            have HA3 := hide hat3
            have hs3 := hgrow3.size
            have hwt : weight (acc ++ [(fn, fv)]) ≤ 20000 := by
              have h1 := INV.out.hw
              rw [weight_append, weight_one]
              unfold fsize
              simp only
              omega
            have hlnA : (acc ++ [(fn, fv)]).length = acc.length + 1 := by simp
            have hmay := fun q hq => hmay_any (some ⟨g3, 0, none⟩) (acc.length + 1) cap3 (acc ++ [(fn, fv)]) w3 (Or.inr ⟨g3, 0, rfl, dfrow_of hlnA HO3.out⟩) (by omega) (fun _ => by omega) q hq
            have HFin : Hid (∀ wz, Below w3.heap.size w3 wz → Off S w wz ∧ HCod wz cb { st with mi := mi, AI := A' } T1 ∧ wz.ownsRow w.heap.size 60 2 (.slice (some ⟨g3, 0, none⟩) (acc.length + 1) cap3) (acc.length + 1) (fcells (acc ++ [(fn, fv)])) ∧ ¬ T1 g3) := fun wz hbz => by
              have hal := HCW.out.alw.pos
              have hsa : w1.heap.size ≤ ((w1.alloc (.cells #[.string fn, .string fv] 60)).alloc (.cells #[.string fn, .string fv] 60)).heap.size := by simp; omega
              have hCB := HC1.out.below HBB.out
              have hC3 := hCB.frame HG3.out.size (fun q hq => HG3.out.block q (hCB.hlt q hq) (fun e => (HN1.out q e.symm).1 hq)) (HG3.out.block _ (by omega) (fun e => by have := (HN1.out _ e.symm).2; omega))
              have hF3 : Off S w w3 := (HF1.out.trans (Off.of_below HBB.out)).trans2 (off_grown HG3.out) (fun q hq => Or.inr (HN1.out q hq).2)
              refine ⟨hF3.trans (Off.of_below hbz), hC3.below hbz, own_kept HO3.out (fun q hq => hbz.block q (HO3.out.lt q hq).2), fun h => ?_⟩
              rcases HA3.out with e | e
              · exact (HN1.out g3 (e.symm.trans rfl)).1 h
              · have e2 : g3 = ((w1.alloc (.cells #[.string fn, .string fv] 60)).alloc (.cells #[.string fn, .string fv] 60)).heap.size := by simpa [Value.ownBlock] using e
                have := HC1.out.hlt _ h
                omega
            clear hown3 hown3' hgrow3 hat3 HOB HNW
            by_cases hful : acc.length + 1 ≤ 40 ∧ weight (acc ++ [(fn, fv)]) ≤ 2000
            · have hm := hmay true (by simpa using hful)
              have HR : Hid (R = dcF st.most k' mi A' (acc ++ [(fn, fv)]) (Y.drop u)) := by
                show R = _
                rw [INV.out.hR, D5.out (by simp) (by rw [hlnA]; omega), Int.toNat_natCast]
              have hun : u ≤ n := by omega
              obtain ⟨o, ho, hcut⟩ := INV.out.hA.cut u hun hpos
              have HCU := hide hcut
              have b1 : (0 : Int) ≤ (u : Int) := by omega
              have b2 : (u : Int) ≤ (n : Int) := by omega
              have b3 : (u : Int) ≤ (c : Int) := by omega
              have HU1 : Hid (1 ≤ u) := by show 1 ≤ u; omega
              have HFU := hide hful
              have HLA := hide hlnA
              clear hmay D3 D4 D5 hcut hful hlnA u1 u2 hwt
              go_wp2_with fail
              refine hm.mono ?_
              rintro e w4 ⟨rfl, hb4⟩
              have HZ4 := hide (HFin.out w4 hb4)
              clear hm hb4
              go_wp2
              go_roundw
              case rel =>
                obtain ⟨z1, z2, z3, z4⟩ := HZ4.out
                refine ⟨_, n - u, c - u, k', Y.drop u, mi, A', acc ++ [(fn, fv)], T1, ⟨rfl, by omega, by rw [List.length_drop, HYL.out], HCU.out, ?_, ?_, z1, HT1.out, z2, HFF.out, HR.out, by have h1 := INV.out.hk; have h2 := HU1.out; omega, by rw [HLA.out]; exact HFU.out.1, HFU.out.2⟩⟩
                · rw [HLA.out]; exact z3
                · intro q hq
                  have e : g3 = q := by simpa [Value.ownBlock] using hq
                  subst e
                  exact z4
              case measure => have := HU1.out; simp [lenOf]; omega
            · have hm := hmay false (by simpa using hful)
              have HR : Hid (R = ([], 4, mi, A')) := by
                show R = _
                rw [INV.out.hR, D4.out (by simp) (by rw [hlnA]; omega)]
              clear hmay D3 D4 D5 hful hlnA u1 u2 hwt
              go_wp2_with fail
              refine hm.mono ?_
              rintro e w4 ⟨rfl, hb4⟩
              have HZ4 := hide (HFin.out w4 hb4)
              clear hm hb4
              go_wp2
              go_ret2
              obtain ⟨z1, z2, z3, z4⟩ := HZ4.out
              exact ⟨T1, Or.inr ⟨by rw [HR.out]; exact (by decide : (4 : Int) ≠ 0), by rw [HR.out]; rfl, mi, A', z2⟩, z1, HT1.out⟩
          · have hxn : x = .iface 53 (.int .i64 fk) := by
              rcases HX.out with h | h
              · exact absurd h.1 hk
              · exact h.2
            subst hxn
            have HR : Hid (R = ([], fk, mi, A')) := by
              show R = _
              rw [INV.out.hR, D3.out hk]
            have HK := hide hk
            clear D3 D4 D5 HO1 hk
            go_wp2
            go_ret2
            rw [← hwA]
            exact ⟨T1, Or.inr ⟨by rw [HR.out]; exact HK.out, by rw [HR.out]; rfl, mi, A', HC1.out.below HBA.out⟩, HF1.out.trans (Off.of_below HBA.out), HT1.out⟩
        · have d1 : decide (32 ≤ z) = false := by simp; omega
          clear hz hArg hFj hYl hZ
          go_wp2_with fail
          refine hfl.mono ?_
          rintro e w1 ⟨⟨x, rfl, hx⟩, hoff1, T1, hT1, hC1⟩
          have HX := hide hx
          have HC1 := hide hC1
          have hs1 := hoff1.size
          have HO1 : Hid (w1.ownsRow w.heap.size 60 2 (.slice la acc.length lc) acc.length (fcells acc)) := own_kept INV.out.hl (fun q hq => hoff1.block q (INV.out.hl.lt q hq).2 (INV.out.hN q hq))
          have HN1 : Hid (∀ q, (Value.slice la acc.length lc).ownBlock = some q → ¬ T1 q ∧ w.heap.size ≤ q) := fun q hq => ⟨fun h => by
            rcases hT1 q h with h1 | h1
            · exact INV.out.hN q hq h1
            · have := (INV.out.hl.lt q hq).2; omega, (INV.out.hl.lt q hq).1⟩
          have HT1 : Hid (∀ q, T1 q → S q ∨ w.heap.size ≤ q) := fun q hq => by
            rcases hT1 q hq with h1 | h1
            · exact INV.out.hT q h1
            · have := INV.out.hO.size; right; omega
          have HF1 : Hid (Off S w w1) := INV.out.hO.trans2 hoff1 INV.out.hT
          have hsw := HF1.out.size
          clear hfl hx hoff1 hT1 hC1 hc0
          simp only
          simp only at HX HC1
          obtain ⟨wA, hwA⟩ : ∃ wA, wA = w1.alloc (.cells #[.string fn, .string fv] 60) := ⟨_, rfl⟩
          have hbA : Below w1.heap.size w1 wA := by rw [hwA]; exact (Below.refl _ _).alloc (Nat.le_refl _) _
          have HBA := hide hbA
          clear hbA
          by_cases hk : fk = 0
          · subst hk
            have hxn : x = .nilIface := by
              rcases HX.out with h | h
              · exact h.2
              · exact absurd rfl h.1
            subst hxn
            obtain ⟨u1, u2⟩ := HBD.out rfl
            rw [HYL.out] at u2
            obtain ⟨u, rfl⟩ := Int.eq_ofNat_of_zero_le (show 0 ≤ fu by omega)
            have hsm := HSM.out rfl
            obtain ⟨wB, hwB⟩ : ∃ wB, wB = wA.alloc (.cells #[.string fn, .string fv] 60) := ⟨_, rfl⟩
            have hbB : Below w1.heap.size w1 wB := by rw [hwB]; exact HBA.out.alloc HBA.out.size _
            have HNW : Hid (∀ j u, [Value.string fn, .string fv][j]? = some u → wB.cell? ((⟨w1.heap.size + 1, 0, none⟩ : Addr).add j) = some u) := by
              have e1 : wA.heap.size = w1.heap.size + 1 := by rw [hwA]; simp
              rw [hwB, ← e1]
              exact World.news_of_block (w := wA.alloc (.cells #[.string fn, .string fv] 60)) (B := wA.heap.size) (cs := #[.string fn, .string fv]) (t := 60) (fr := (0, 0)) Array.getElem?_push_size
            have HOB : Hid (wB.ownsRow w.heap.size 60 2 (.slice la acc.length lc) acc.length (fcells acc)) := own_kept HO1.out (fun q hq => hbB.block q (HO1.out.lt q hq).2)
            have hsB := hbB.size
            have HBB := hide hbB
            clear HO1 hbB
            subst hwB
            subst hwA
            go_wp2_with (at_builtin; refine wpList_append_own_at _ rfl _ _ 38 rfl w.heap.size 60 i0 _ 2 32 Tryz.underlying38 hi hz0 hz1 hz2 rfl (by decide) _ _ _ rfl HOB.out ⟨w1.heap.size + 1, 0, none⟩ 1 1 [.string fn, .string fv] rfl rfl HNW.out (by intro u hu; simp at hu; rcases hu with rfl | rfl <;> rfl) ?c3 ?c4 ?c5 ?_)
            case c3 => unfold maxLen; omega
            case c4 => omega
            case c5 => first | omega | (simp; omega)
            intro v3 w3 hown3 hgrow3 _ hat3
            have hown3' : w3.ownsRow w.heap.size 60 2 v3 (acc.length + 1) (fcells (acc ++ [(fn, fv)])) := by rw [fcells_append]; exact hown3
            obtain ⟨g3, cap3, rfl, hg3, hl3⟩ := World.ownsRow.form hown3' (by omega)
            have HO3 := hide hown3'
            have HG3 := hide hgrow3
            have HA3 := hide hat3
            have hs3 := hgrow3.size
            have hwt : weight (acc ++ [(fn, fv)]) ≤ 20000 := by
              have h1 := INV.out.hw
              rw [weight_append, weight_one]
              unfold fsize
              simp only
              omega
            have hlnA : (acc ++ [(fn, fv)]).length = acc.length + 1 := by simp
            have hmay := fun q hq => hmay_any (some ⟨g3, 0, none⟩) (acc.length + 1) cap3 (acc ++ [(fn, fv)]) w3 (Or.inr ⟨g3, 0, rfl, dfrow_of hlnA HO3.out⟩) (by omega) (fun _ => by omega) q hq
            have HFin : Hid (∀ wz, Below w3.heap.size w3 wz → Off S w wz ∧ HCod wz cb { st with mi := mi, AI := A' } T1 ∧ wz.ownsRow w.heap.size 60 2 (.slice (some ⟨g3, 0, none⟩) (acc.length + 1) cap3) (acc.length + 1) (fcells (acc ++ [(fn, fv)])) ∧ ¬ T1 g3) := fun wz hbz => by
              have hal := HCW.out.alw.pos
              have hsa : w1.heap.size ≤ ((w1.alloc (.cells #[.string fn, .string fv] 60)).alloc (.cells #[.string fn, .string fv] 60)).heap.size := by simp; omega
              have hCB := HC1.out.below HBB.out
              have hC3 := hCB.frame HG3.out.size (fun q hq => HG3.out.block q (hCB.hlt q hq) (fun e => (HN1.out q e.symm).1 hq)) (HG3.out.block _ (by omega) (fun e => by have := (HN1.out _ e.symm).2; omega))
              have hF3 : Off S w w3 := (HF1.out.trans (Off.of_below HBB.out)).trans2 (off_grown HG3.out) (fun q hq => Or.inr (HN1.out q hq).2)
              refine ⟨hF3.trans (Off.of_below hbz), hC3.below hbz, own_kept HO3.out (fun q hq => hbz.block q (HO3.out.lt q hq).2), fun h => ?_⟩
              rcases HA3.out with e | e
              · exact (HN1.out g3 (e.symm.trans rfl)).1 h
              · have e2 : g3 = ((w1.alloc (.cells #[.string fn, .string fv] 60)).alloc (.cells #[.string fn, .string fv] 60)).heap.size := by simpa [Value.ownBlock] using e
                have := HC1.out.hlt _ h
                omega
            clear hown3 hown3' hgrow3 hat3 HOB HNW
            by_cases hful : acc.length + 1 ≤ 40 ∧ weight (acc ++ [(fn, fv)]) ≤ 2000
            · have hm := hmay true (by simpa using hful)
              have HR : Hid (R = dcF st.most k' mi A' (acc ++ [(fn, fv)]) (Y.drop u)) := by
                show R = _
                rw [INV.out.hR, D5.out (by simp) (by rw [hlnA]; omega), Int.toNat_natCast]
              have hun : u ≤ n := by omega
              obtain ⟨o, ho, hcut⟩ := INV.out.hA.cut u hun hpos
              have HCU := hide hcut
              have b1 : (0 : Int) ≤ (u : Int) := by omega
              have b2 : (u : Int) ≤ (n : Int) := by omega
              have b3 : (u : Int) ≤ (c : Int) := by omega
              have HU1 : Hid (1 ≤ u) := by show 1 ≤ u; omega
              have HFU := hide hful
              have HLA := hide hlnA
              clear hmay D3 D4 D5 hcut hful hlnA u1 u2 hwt
              go_wp2_with fail
              refine hm.mono ?_
              rintro e w4 ⟨rfl, hb4⟩
              have HZ4 := hide (HFin.out w4 hb4)
              clear hm hb4
              go_wp2
              go_roundw
              case rel =>
                obtain ⟨z1, z2, z3, z4⟩ := HZ4.out
                refine ⟨_, n - u, c - u, k', Y.drop u, mi, A', acc ++ [(fn, fv)], T1, ⟨rfl, by omega, by rw [List.length_drop, HYL.out], HCU.out, ?_, ?_, z1, HT1.out, z2, HFF.out, HR.out, by have h1 := INV.out.hk; have h2 := HU1.out; omega, by rw [HLA.out]; exact HFU.out.1, HFU.out.2⟩⟩
                · rw [HLA.out]; exact z3
                · intro q hq
                  have e : g3 = q := by simpa [Value.ownBlock] using hq
                  subst e
                  exact z4
              case measure => have := HU1.out; simp [lenOf]; omega
            · have hm := hmay false (by simpa using hful)
              have HR : Hid (R = ([], 4, mi, A')) := by
                show R = _
                rw [INV.out.hR, D4.out (by simp) (by rw [hlnA]; omega)]
              clear hmay D3 D4 D5 hful hlnA u1 u2 hwt
              go_wp2_with fail
              refine hm.mono ?_
              rintro e w4 ⟨rfl, hb4⟩
              have HZ4 := hide (HFin.out w4 hb4)
              clear hm hb4
              go_wp2
              go_ret2
              obtain ⟨z1, z2, z3, z4⟩ := HZ4.out
              exact ⟨T1, Or.inr ⟨by rw [HR.out]; exact (by decide : (4 : Int) ≠ 0), by rw [HR.out]; rfl, mi, A', z2⟩, z1, HT1.out⟩
          · have hxn : x = .iface 53 (.int .i64 fk) := by
              rcases HX.out with h | h
              · exact absurd h.1 hk
              · exact h.2
            subst hxn
            have HR : Hid (R = ([], fk, mi, A')) := by
              show R = _
              rw [INV.out.hR, D3.out hk]
            have HK := hide hk
            clear D3 D4 D5 HO1 hk
            go_wp2
            go_ret2
            rw [← hwA]
            exact ⟨T1, Or.inr ⟨by rw [HR.out]; exact HK.out, by rw [HR.out]; rfl, mi, A', HC1.out.below HBA.out⟩, HF1.out.trans (Off.of_below HBA.out), HT1.out⟩
    · have hnil : n = 0 := by omega
      subst hnil
      have HR : Hid (R = (acc, 0, mi, AI)) := by
        show R = _
        rw [INV.out.hR, dc_nil _ _ _ _ _ _ INV.out.hY]
      go_wp2
      go_ret2
      refine ⟨T, Or.inl ⟨by rw [HR.out], _, rfl, ?_, INV.out.hN, ?_, ?_⟩, INV.out.hO, INV.out.hT⟩
      · rw [HR.out]; exact INV.out.hl
      · rw [HR.out]; exact INV.out.hC
      · rw [HR.out]; exact INV.out.hF
end Go.Proofs.YtkjfhgoddhigmacGreatDoor
