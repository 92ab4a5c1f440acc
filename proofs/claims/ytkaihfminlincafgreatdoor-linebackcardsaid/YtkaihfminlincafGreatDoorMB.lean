/-
  MESSAGES AS LINES: the developers' reader: fields. No claim by itself.
-/
import Derived.Laws.AppendOwnNone
import Derived.Deep.DeepCutAuto
import Derived.Deep.CutBlock
import Derived.BigRegion
import Derived.Handy
import Derived.Test.YtkaihfminlincafGreatDoorNdv9
import Derived.Test.YtkaihfminlincafGreatDoorNdw1
import Derived.Test.YtkaihfminlincafGreatDoorNopn
import Derived.Test.YtkaihfminlincafGreatDoorMA
import Derived.Test.YtkaihfminlincafGreatDoorNitoa
namespace Go.Proofs.YtkaihfminlincafGreatDoor
open Go Go.RowKit Go.Shelf
set_option maxRecDepth 100000
theorem n_infoF : (Tryz.prog.info? 75).map (fun i => (i.zero, i.size, i.bytes)) = some (some (.agg #[.string ⟨#[]⟩, .string ⟨#[]⟩]), 2, 32) := by kernel_rfl
abbrev FOwn (w : World) (base : Nat) (v : Value) (FL : List (ByteArray × ByteArray)) : Prop := w.ownsRow base 75 2 v FL.length (fcells FL)
theorem fown_tn {S : Nat → Prop} {base : Nat} {w w' : World} {v : Value} {FL : List (ByteArray × ByteArray)} (h : FOwn w base v FL) (hl : ∀ k, S k → k < base) (ht : Tn S w w') : FOwn w' base v FL := by
  obtain ⟨h1, ⟨rfl, h0⟩ | ⟨g, cap, cur, rfl, hb, hc, hr⟩⟩ := id h
  · exact ⟨h1, Or.inl ⟨rfl, h0⟩⟩
  · exact ⟨h1, Or.inr ⟨g, cap, cur, rfl, hb, (ht.block g (Array.getElem?_eq_some_iff.1 hc).1 (fun e => by have := hl g e; omega)).trans hc, hr⟩⟩
theorem fown_shape {w : World} {base : Nat} {v : Value} {FL : List (ByteArray × ByteArray)} (h : FOwn w base v FL) : ∃ sa sc, v = .slice sa FL.length sc := by
  obtain ⟨_, ⟨rfl, h0⟩ | ⟨g, cap, cur, rfl, _⟩⟩ := id h
  · exact ⟨none, 0, by rw [h0]⟩
  · exact ⟨_, cap, rfl⟩
def fsmall (FL : List (ByteArray × ByteArray)) : Prop := ∀ f ∈ FL, f.1.size ≤ 400 ∧ f.2.size ≤ 400
theorem fsmall_snoc {FL : List (ByteArray × ByteArray)} (h : fsmall FL) {n v : ByteArray} (h1 : n.size ≤ 400) (h2 : v.size ≤ 400) : fsmall (FL ++ [(n, v)]) := fun f hf => by
  rcases List.mem_append.1 hf with k | k
  · exact h f k
  · rw [List.mem_singleton.1 k]; exact ⟨h1, h2⟩
theorem fds_snoc (FL : List (ByteArray × ByteArray)) (n v : ByteArray) : fdsOf (FL ++ [(n, v)]) = fdsOf FL ++ [(unums n, unums v)] := by simp [fdsOf]
theorem tn_tr {S : Nat → Prop} {lb : Nat} {w w' : World} (hS : S lb) (h : Tr lb w w') : Tn S w w' := ⟨h.os, h.tape, h.output, h.size, fun k hk hn => h.block k hk (fun e => hn (by rw [e]; exact hS))⟩
theorem tn_trans {S : Nat → Prop} {a b c : World} (h : Tn S a b) (k : Tn S b c) : Tn S a c := ⟨k.os.trans h.os, k.tape.trans h.tape, k.output.trans h.output, Nat.le_trans h.size k.size, fun i hi hs => (k.block i (Nat.lt_of_lt_of_le hi h.size) hs).trans (h.block i hi hs)⟩
theorem tn_grow {S : Nat → Prop} {w w' w2 : World} {row : Option Nat} (h : Tn S w w') (hg : w'.grownBy w2 row) (hr : ∀ k, row = some k → w.heap.size ≤ k) : Tn S w w2 :=
  ⟨hg.os.trans h.os, hg.tape.trans h.tape, hg.output.trans h.output, Nat.le_trans h.size hg.size, fun k hk hn => (hg.block k (Nat.lt_of_lt_of_le hk h.size) (fun e => by have := hr k e.symm; omega)).trans (h.block k hk hn)⟩
theorem RS.grown {w0 w w' : World} {lb : Nat} {a : Option Addr} {len cap : Nat} {Z : List Int} {p : Nat} {bad : Int} {row : Option Nat} (h : RS w0 w lb a len cap Z p bad) (hg : w.grownBy w' row) (hr : ∀ k, row = some k → w0.heap.size ≤ k ∧ k ≠ lb) : RS w0 w' lb a len cap Z p bad :=
  ⟨u_below_grown h.below hg h.below.size (fun k hk => (hr k hk).1), h.base, h.arg, h.mem.kept (hg.block lb h.lt (fun e => (hr lb e.symm).2 rfl)), h.le, h.most⟩
/-- What is asked of the function that reads the last line. -/
structure LastSaid (β : Type) [Inhabited β] (w0 : World) (lb : Nat) (a : Option Addr) (len cap : Nat) (Z : List Int) (least : Int) (coded : Bool) (lg : Nat) (lbs : Array Value) (Cap : Int × Bool → World → Prop) (S : Nat → Prop) : Prop where
  enters : ∀ args w, (callFunc lg args).run Tryz.prog w = .ok (.enter lg args) w
  no : ∀ (n : ByteArray) (W : World), Cap (-1, false) W → lastP least coded (unums n) = none → Calls Tryz.prog lg (#[.string n] ++ lbs) W fun e w' => e = .returned (.bool false) ∧ Below W.heap.size W w'
  yes : ∀ (G : Int × β × List Int) (f : Int × Bool → Pz β) (n : ByteArray) (p : Pz (Int × Bool)) (W : World), lastP least coded (unums n) = some p → Cap (-1, false) W → Dst G (bindP p f) w0 W lb a len cap Z →
    Calls Tryz.prog lg (#[.string n] ++ lbs) W fun e w' => e = .returned (.bool true) ∧ ∃ v, Dst G (f v) w0 w' lb a len cap Z ∧ Cap v w' ∧ Tn S W w'
  keepR : ∀ v W W', Cap v W → Tr lb W W' → Cap v W'
  keepG : ∀ W W', Cap (-1, false) W → (∀ k, S k → W'.heap[k]? = W.heap[k]?) → Cap (-1, false) W'
section
variable {β : Type} [Inhabited β]
/-- What is read behind a name. -/
def nextK (least : Int) (coded : Bool) (f : Hd → Pz β) (k : Nat) (acc : List Fd) (n : List Int) : Pz β :=
  match k with
  | 0 => failP 4
  | k + 1 => bindP (mtsP [32]) fun _ => bindP (valP 0) fun v => bindP (headP least coded k (acc ++ [(n, v)])) f
def nameK (least : Int) (coded : Bool) (f : Hd → Pz β) (k : Nat) (acc : List Fd) (n : List Int) : Pz β :=
  match lastP least coded n with
  | some p => bindP p fun v => bindP (mtsP [13, 10]) fun _ => f (acc, v.1, v.2)
  | none => if n = hostN ∨ n = lengthN ∨ n = codingN then failP 2 else nextK least coded f k acc n
theorem head_is (least : Int) (coded : Bool) (f : Hd → Pz β) (k : Nat) (acc : List Fd) : bindP (headP least coded k acc) f = lookP fun c => if c = 13 then bindP (mtsP [13, 10]) fun _ => f (acc, -1, false) else bindP (txtP 58 isSmall 1) (nameK least coded f k acc) := by
  have go : ∀ next : List Int → Pz Hd, (∀ n, bindP (next n) f = nextK least coded f k acc n) → bindP (headB least coded acc next) f = lookP fun c => if c = 13 then bindP (mtsP [13, 10]) fun _ => f (acc, -1, false) else bindP (txtP 58 isSmall 1) (nameK least coded f k acc) := by
    intro next hn
    unfold headB
    rw [bind_look]
    congr 1
    funext c
    split
    · rw [bind_assoc]
      congr 1
    · rw [bind_assoc]
      congr 1
      funext n
      unfold nameK
      cases hl : lastP least coded n with
      | some p =>
        show bindP (bindP p _) f = bindP p _
        rw [bind_assoc]
        refine congrArg (bindP p) (funext fun v => ?_)
        rw [bind_assoc]
        congr 1
      | none =>
        show bindP (if n = hostN ∨ n = lengthN ∨ n = codingN then failP 2 else next n) f = if n = hostN ∨ n = lengthN ∨ n = codingN then failP 2 else nextK least coded f k acc n
        split
        · funext b
          simp [bindP, failP]
        · exact hn n
  cases k with
  | zero =>
    unfold headP
    exact go _ (fun n => by funext b; simp [bindP, failP, nextK])
  | succ k =>
    unfold headP
    exact go _ (fun n => by unfold nextK; rw [bind_assoc]; congr 1; funext _; rw [bind_assoc])
theorem head_crlf {least : Int} {coded : Bool} {f : Hd → Pz β} {k : Nat} {acc : List Fd} {b : List Int} (h : b ≠ [] ∧ b.headD 0 = 13) : bindP (headP least coded k acc) f b = bindP (mtsP [13, 10]) (fun _ => f (acc, -1, false)) b := by
  rw [head_is]
  match b, h with
  | c :: r, h =>
    have hc : c = 13 := by simpa using h.2
    rw [lookP, if_pos hc]
theorem head_name {least : Int} {coded : Bool} {f : Hd → Pz β} {k : Nat} {acc : List Fd} {b : List Int} (h : b = [] ∨ b.headD 0 ≠ 13) : bindP (headP least coded k acc) f b = bindP (txtP 58 isSmall 1) (nameK least coded f k acc) b := by
  rw [head_is]
  match b with
  | [] => rfl
  | c :: r =>
    have hc : c ≠ 13 := by simpa using h
    rw [lookP, if_neg hc]
variable {G : Int × β × List Int} {w0 wx : World} {lb : Nat} {a : Option Addr} {len cap : Nat} {Z : List Int}
/-- Behind the loop. -/
def FdX (G : Int × β × List Int) (f : Hd → Pz β) (w0 wx : World) (lb : Nat) (a : Option Addr) (len cap : Nat) (Z : List Int) (Cap : Int × Bool → World → Prop) (S : Nat → Prop) (x : Value) (wc : World) : Prop :=
  ∃ (FL : List (ByteArray × ByteArray)) (v : Int × Bool), FOwn wc wx.heap.size x FL ∧ fsmall FL ∧ FL.length ≤ 41 ∧ Dst G (bindP (mtsP [13, 10]) fun _ => f (fdsOf FL, v.1, v.2)) w0 wc lb a len cap Z ∧ Cap v wc ∧ Tn S wx wc
/-- In the loop. -/
def FdI (G : Int × β × List Int) (least : Int) (coded : Bool) (f : Hd → Pz β) (Z : List Int) (FL : List (ByteArray × ByteArray)) (q : Nat) (bad : Int) : Prop :=
  (bad = 0 ∧ FL.length ≤ 40 ∧ G = bindP (headP least coded (40 - FL.length) (fdsOf FL)) f (Z.drop q)) ∨ (bad ≠ 0 ∧ G.1 = bad)
/-- What is kept in the loop. -/
def FdP (wx : World) (Cap : Int × Bool → World → Prop) (S : Nat → Prop) (x : Value) (FL : List (ByteArray × ByteArray)) (w : World) : Prop := FOwn w wx.heap.size x FL ∧ Cap (-1, false) w ∧ Tn S wx w
theorem FdP.tr {Cap : Int × Bool → World → Prop} {S : Nat → Prop} {x : Value} {FL : List (ByteArray × ByteArray)} {w w' : World} {least : Int} {coded : Bool} {lg : Nat} {lbs : Array Value} (h : FdP wx Cap S x FL w) (HL : LastSaid β w0 lb a len cap Z least coded lg lbs Cap S) (hSl : S lb) (hS : ∀ k, S k → w0.heap.size ≤ k ∧ k < wx.heap.size) (ht : Tr lb w w') : FdP wx Cap S x FL w' :=
  ⟨fown_tn h.1 (fun k hk => (hS k hk).2) (tn_tr hSl ht), HL.keepR _ _ _ h.2.1 ht, tn_trans h.2.2 (tn_tr hSl ht)⟩
/-- What is read behind a good name. -/
def goK (least : Int) (coded : Bool) (f : Hd → Pz β) (m : Nat) (acc : List Fd) (n : List Int) : Pz β := bindP (mtsP [32]) fun _ => bindP (valP 0) fun v => if m = 40 then retP default else bindP (headP least coded (40 - m - 1) (acc ++ [(n, v)])) f
set_option maxHeartbeats 8000000 in
theorem fields_st {f : Hd → Pz β} (least : Int) (coded : Bool) (lg : Nat) (lbs : Array Value) (Cap : Int × Bool → World → Prop) (S : Nat → Prop) (HLS : LastSaid β w0 lb a len cap Z least coded lg lbs Cap S) (h : Dst G (bindP (headP least coded 40 []) f) w0 wx lb a len cap Z)
    (hc : Cap (-1, false) wx) (hSl : S lb) (hS : ∀ k, S k → w0.heap.size ≤ k ∧ k < wx.heap.size) :
    Calls Tryz.prog 16 #[rptr lb, .func (.func lg) #[] lbs] wx fun e w' => ∃ (x : Value) (FL : List (ByteArray × ByteArray)) (v : Int × Bool), e = .returned x ∧ FOwn w' wx.heap.size x FL ∧ fsmall FL ∧ FL.length ≤ 41 ∧ Dst G (f (fdsOf FL, v.1, v.2)) w0 w' lb a len cap Z ∧ Cap v w' ∧ Tn S wx w' := by
  obtain ⟨i0, hi, hz0, hz1, hz2⟩ := info_parts n_infoF
  have HI := vl hi
  have HZ : Vl (i0.zero = some (.agg #[.string ⟨#[]⟩, .string ⟨#[]⟩]) ∧ i0.size = 2 ∧ i0.bytes = 32) := ⟨hz0, hz1, hz2⟩
  clear hi hz0 hz1 hz2
  obtain ⟨q0, bad0, hR, hG⟩ := h
  have HR := vl hR
  have hlt := hR.lt
  have HZL := vl hR.zlen
  have hmost := hR.most
  unfold ULim at hmost
  have HI0 : Vl (FdI G least coded f Z [] q0 bad0) := by
    rcases hG with ⟨h1, h2⟩ | h1
    · exact Or.inl ⟨h1, by simp, h2⟩
    · exact Or.inr h1
  have HC0 := vl hc
  have HL := vl HLS
  have HSS := vl hS
  have HSL := vl hSl
  have eg := HLS.enters
  clear hR hG hc HLS hS hSl
  unfold rptr
  go_enter Tryz.func16, Tryz.ntmps16
  go_upto_block 0 with fail
  go_cut [4] (fun x wc => Vl (FdX G f w0 wx lb a len cap Z Cap S x wc))
  case first =>
    as_aux_lemma =>
      go_wp2_with fail
      go_loopg [4] 43 (fun gf x wr => ∃ (FL : List (ByteArray × ByteArray)) (q : Nat) (bad : Int) (sa : Option Addr) (sc : Nat), x = .slice sa FL.length sc ∧ Vl (FdP wx Cap S x FL wr) ∧ Vl (fsmall FL) ∧ FL.length ≤ 41 ∧ Vl (RS w0 wr lb a len cap Z q bad) ∧ Vl (FdI G least coded f Z FL q bad) ∧ Vl (42 ≤ FL.length + gf))
      case atStart => exact ⟨[], q0, bad0, none, 0, rfl, ⟨World.ownsRow_nil _ _ _ _, HC0.out, Tn.refl _ _⟩, (fun f hf => by cases hf), by simp, HR.out, HI0.out, by simp [Vl]⟩
      case round =>
        obtain ⟨FL, q, bad, sa, sc, rfl, HP, HF, hF, HS, HI, HGK⟩ := hrel
        clear HR HI0 HC0
        have c2 := HS.out.mem.c2
        have hle := HS.out.le
        go_upto_region 1 with fail
        go_cut [16] (fun b wc => ∃ bb : Bool, b = .bool bb ∧ Vl (Below wr.heap.size wr wc) ∧ Vl (SeeT Z len q bad 13 bb))
        case first =>
          as_aux_lemma =>
            by_cases hbad : bad = 0
            · subst hbad
              rw [errW_0] at c2
              have HSE := vl (nsees_any lb a len cap Z q 0 13 wr HS.out.mem HS.out.now hle HS.out.most)
              unfold rptr at HSE
              obtain ⟨sb, hsb⟩ : ∃ sb, seesL Z q 13 = sb := ⟨_, rfl⟩
              rw [hsb] at HSE
              have HSB := vl hsb
              clear hsb
              go_wp2_with fail
              refine HSE.out.mono ?_
              rintro e w1 ⟨rfl, hb1⟩
              cases sb with
              | true =>
                have hx := HSB.out
                unfold seesL at hx
                rw [Bool.and_eq_true, decide_eq_true_eq, decide_eq_true_eq, HZL.out] at hx
                have HX := vl hx
                clear hx
                go_wp2
                go_meet
                exact ⟨false, rfl, hb1, Or.inr ⟨rfl, Or.inr HX.out⟩⟩
              | false =>
                have hx : q = len ∨ Z.getD q 0 ≠ 13 := by
                  rcases Nat.lt_or_ge q len with h | h
                  · right
                    intro e
                    have hs := HSB.out
                    unfold seesL at hs
                    rw [decide_eq_true e, decide_eq_true (by rw [HZL.out]; exact h)] at hs
                    cases hs
                  · left; omega
                have HX := vl hx
                clear hx
                go_wp2
                go_meet
                exact ⟨true, rfl, hb1, Or.inl ⟨rfl, rfl, HX.out⟩⟩
            · rw [errW_ne hbad] at c2
              have HX := vl hbad
              clear hbad
              go_wp2
              go_meet
              exact ⟨false, rfl, Below.refl _ _, Or.inr ⟨rfl, Or.inl HX.out⟩⟩
        case rest =>
        obtain ⟨bb, rfl, hbc, HSEE⟩ := hcut
        have HS1 := vl (HS.out.on hbc.out)
        have HP1 := vl (HP.out.tr HL.out HSL.out HSS.out (Tr.of hbc.out))
        clear HS HP hbc c2
        cases bb with
        | false =>
          have HX : Vl (FdX G f w0 wx lb a len cap Z Cap S (.slice sa FL.length sc) wc) := by
            refine ⟨FL, (-1, false), HP1.out.1, HF.out, hF, ⟨q, bad, HS1.out, ?_⟩, HP1.out.2.1, HP1.out.2.2⟩
            rcases HI.out with ⟨h1, h2, h3⟩ | h1
            · refine Or.inl ⟨h1, ?_⟩
              have h4 : q < len ∧ Z.getD q 0 = 13 := by
                rcases HSEE.out with ⟨h, _⟩ | ⟨_, h⟩
                · cases h
                · exact h.resolve_left (fun k => k h1)
              rw [h3]
              exact head_crlf (by have := drop_head (Z := Z) (q := q) (by rw [HZL.out]; exact h4.1); rw [h4.2] at this; exact this)
            · exact Or.inr h1
          clear HSEE HI
          go_wp2
          go_meet
          exact HX.out
        | true =>
        obtain ⟨hbad, hns⟩ : bad = 0 ∧ (q = len ∨ Z.getD q 0 ≠ 13) := by
          rcases HSEE.out with ⟨_, h⟩ | ⟨h, _⟩
          · exact h
          · cases h
        subst hbad
        obtain ⟨h40, hG⟩ : FL.length ≤ 40 ∧ G = bindP (headP least coded (40 - FL.length) (fdsOf FL)) f (Z.drop q) := by
          rcases HI.out with ⟨_, h⟩ | ⟨h, _⟩
          · exact h
          · exact absurd rfl h
        rw [head_name (by
          rcases hns with h | h
          · exact Or.inl (List.drop_eq_nil_of_le (by rw [HZL.out]; omega))
          · by_cases h5 : q < len
            · rw [(drop_head (Z := Z) (q := q) (by rw [HZL.out]; exact h5)).2]; exact Or.inr h
            · exact Or.inl (List.drop_eq_nil_of_le (by rw [HZL.out]; omega)))] at hG
        have HD1 : Vl (Dst G (bindP (txtP 58 isSmall 1) (nameK least coded f (40 - FL.length) (fdsOf FL))) w0 wc lb a len cap Z) := ⟨q, 0, HS1.out, Or.inl ⟨rfl, hG⟩⟩
        have H1 := vl (nnamef_any wc)
        have hltc : lb < wc.heap.size := HS1.out.lt
        unfold formV at H1
        clear hG hns HSEE HI HS1
        go_wp2_with fail
        refine H1.out.mono ?_
        rintro e w1 ⟨Gf, rfl, hmf, hb1⟩
        have H2 := vl (text_st 58 isSmall 1 Gf _ hmf hltc (HD1.out.on hb1))
        have HP2 := vl (HP1.out.tr HL.out HSL.out HSS.out (Tr.of hb1))
        unfold rptr formV at H2
        clear H1 hmf hb1 HD1 HP1 hltc
        go_wp2_with fail
        refine H2.out.mono ?_
        rintro e w2 ⟨s, rfl, hd2, ht2, hs2⟩
        have HP3 := vl (HP2.out.tr HL.out HSL.out HSS.out ht2)
        obtain ⟨q2, bad2, hR2, hG2⟩ := hd2
        have HR2 := vl hR2
        have HS4 := vl hs2
        have c2 := hR2.mem.c2
        clear H2 HP2 ht2 hR2 hs2
        by_cases hbad2 : bad2 = 0
        case neg =>
          have HX : Vl (FdX G f w0 wx lb a len cap Z Cap S (.slice sa FL.length sc) w2) := ⟨FL, (-1, false), HP3.out.1, HF.out, hF, ⟨q2, bad2, HR2.out, Or.inr (hG2.resolve_left (fun h => hbad2 h.1))⟩, HP3.out.2.1, HP3.out.2.2⟩
          rw [errW_ne hbad2] at c2
          clear hG2 hbad2
          go_wp2
          go_meet
          exact HX.out
        subst hbad2
        rw [errW_0] at c2
        have hG3 : G = nameK least coded f (40 - FL.length) (fdsOf FL) (unums s) (Z.drop q2) := by
          rcases hG2 with ⟨_, h⟩ | ⟨h, _⟩
          · exact h
          · exact absurd rfl h
        clear hG2
        unfold nameK at hG3
        cases hl : lastP least coded (unums s) with
        | some p =>
          rw [hl] at hG3
          have H3 := vl (HL.out.yes G (fun v => bindP (mtsP [13, 10]) fun _ => f (fdsOf FL, v.1, v.2)) s p w2 hl HP3.out.2.1 ⟨q2, 0, HR2.out, Or.inl ⟨rfl, hG3⟩⟩)
          clear hG3 hl
          go_wp2_with fail
          go_at_fn lg
          refine H3.out.mono ?_
          rintro e w3 ⟨rfl, v, hd3, hc3, ht3⟩
          have HX : Vl (FdX G f w0 wx lb a len cap Z Cap S (.slice sa FL.length sc) w3) := ⟨FL, v, fown_tn HP3.out.1 (fun k hk => (HSS.out k hk).2) ht3, HF.out, hF, hd3, hc3, tn_trans HP3.out.2.2 ht3⟩
          clear hd3 hc3 ht3 H3 c2
          go_wp2
          go_meet
          exact HX.out
        | none =>
          rw [hl] at hG3
          have H3 := vl (HL.out.no s w2 HP3.out.2.1 hl)
          have HG3 : Vl (G = (if unums s = hostN ∨ unums s = lengthN ∨ unums s = codingN then failP 2 else nextK least coded f (40 - FL.length) (fdsOf FL) (unums s)) (Z.drop q2)) := hG3
          clear hG3 hl
          go_wp2_with fail
          go_at_fn lg
          refine H3.out.mono ?_
          rintro e w3 ⟨rfl, hb3⟩
          have HP4 := vl (HP3.out.tr HL.out HSL.out HSS.out (Tr.of hb3))
          have HR3 := vl (HR2.out.on hb3)
          clear HR2 HP3 hb3 c2 H3
          go_wp2_with fail
          refine (ntaken_any s w3).mono ?_
          rintro e w4 ⟨rfl, rfl⟩
          obtain ⟨tb, htb⟩ : ∃ tb, takenB s = tb := ⟨_, rfl⟩
          rw [htb]
          have HTB := vl htb
          clear htb
          go_upto_if 31 with fail
          go_cut [] (fun wy => Vl (Dst G (nextK least coded f (40 - FL.length) (fdsOf FL) (unums s)) w0 wy lb a len cap Z) ∧ Vl (Tr lb w3 wy))
          case first =>
            as_aux_lemma =>
              cases tb with
              | false =>
                have HD : Vl (Dst G (nextK least coded f (40 - FL.length) (fdsOf FL) (unums s)) w0 w3 lb a len cap Z) := by
                  refine ⟨q2, 0, HR3.out, Or.inl ⟨rfl, ?_⟩⟩
                  have hn := of_decide_eq_false HTB.out
                  have := HG3.out
                  rw [if_neg hn] at this
                  exact this
                clear HG3
                go_wp2
                go_meet
                exact ⟨HD.out, Tr.refl _ _⟩
              | true =>
                have hg2 : G.1 = 2 := by
                  have hn := of_decide_eq_true HTB.out
                  have := HG3.out
                  rw [if_pos hn] at this
                  rw [this]
                  rfl
                have HG2 := vl hg2
                have H5 := vl (fail_rs w0 lb a len cap Z q2 0 2 w3 HR3.out (by decide))
                unfold rptr at H5
                clear HG3 hg2
                go_wp2_with fail
                refine H5.out.mono ?_
                rintro e w5 ⟨rfl, hR5, ht5⟩
                have HD : Vl (Dst G (nextK least coded f (40 - FL.length) (fdsOf FL) (unums s)) w0 w5 lb a len cap Z) := ⟨q2, 2, hR5, Or.inr ⟨by decide, HG2.out⟩⟩
                have HT := vl ht5
                clear hR5 ht5 H5
                go_wp2
                go_meet
                exact ⟨HD.out, HT.out⟩
          case rest =>
          obtain ⟨HD5, ht5⟩ := hcut
          obtain ⟨wy, hwy⟩ : ∃ wy, wy = wc := ⟨_, rfl⟩
          subst hwy
          have HP5 := vl (HP4.out.tr HL.out HSL.out HSS.out ht5.out)
          clear HP4 ht5 HR3 HG3 HTB
          go_upto_if 37 with fail
          go_cut [] (fun wz => Vl (Dst G (goK least coded f FL.length (fdsOf FL) (unums s)) w0 wz lb a len cap Z) ∧ Vl (Tr lb wy wz) ∧ Vl (FL.length = 40 → G.1 ≠ 0))
          case first =>
            as_aux_lemma =>
              obtain ⟨q5, bad5, hR5, hG5⟩ := HD5.out
              have HR5 := vl hR5
              have HG5 := vl hG5
              clear hR5 hG5 HD5
              by_cases hf40 : FL.length = 40
              · have p1 : ((FL.length : Int) == 40) = true := by simp [hf40]
                have H6 := vl (fail_rs w0 lb a len cap Z q5 bad5 4 wy HR5.out (by decide))
                unfold rptr at H6
                have HNE : Vl (FL.length = 40 → G.1 ≠ 0) := fun _ => by
                  rcases HG5.out with ⟨h1, h2⟩ | ⟨h1, h2⟩
                  · rw [h2, show 40 - FL.length = 0 by omega]
                    show (4 : Int) ≠ 0
                    decide
                  · rw [h2]
                    exact h1
                have HX : Vl (∀ w', RS w0 w' lb a len cap Z q5 (if bad5 = 0 then 4 else bad5) → Dst G (goK least coded f FL.length (fdsOf FL) (unums s)) w0 w' lb a len cap Z) := fun w' hR => by
                  refine ⟨q5, _, hR, Or.inr ?_⟩
                  rcases HG5.out with ⟨h1, h2⟩ | ⟨h1, h2⟩
                  · rw [if_pos h1]
                    refine ⟨by decide, ?_⟩
                    rw [h2, show 40 - FL.length = 0 by omega]
                    rfl
                  · rw [if_neg h1]
                    exact ⟨h1, h2⟩
                clear hf40 HG5
                go_wp2_with fail
                refine H6.out.mono ?_
                rintro e w5 ⟨rfl, hR6, ht6⟩
                have HD := vl (HX.out _ hR6)
                have HT := vl ht6
                clear hR6 ht6 H6 HX
                go_wp2
                go_meet
                exact ⟨HD.out, HT.out, HNE.out⟩
              · have p1 : ((FL.length : Int) == 40) = false := by simp; omega
                have HD : Vl (Dst G (goK least coded f FL.length (fdsOf FL) (unums s)) w0 wy lb a len cap Z) := by
                  refine ⟨q5, bad5, HR5.out, ?_⟩
                  have e : nextK least coded f (40 - FL.length) (fdsOf FL) (unums s) = goK least coded f FL.length (fdsOf FL) (unums s) := by
                    obtain ⟨k, hk⟩ : ∃ k, 40 - FL.length = k + 1 := ⟨40 - FL.length - 1, by omega⟩
                    unfold goK
                    simp only [if_neg hf40]
                    rw [hk]
                    rfl
                  rw [← e]
                  exact HG5.out
                have HNE : Vl (FL.length = 40 → G.1 ≠ 0) := fun h => absurd h hf40
                clear hf40 HG5
                go_wp2
                go_meet
                exact ⟨HD.out, Tr.refl _ _, HNE.out⟩
          case rest =>
          obtain ⟨HD6, ht6, HNE⟩ := hcut
          have HP6 := vl (HP5.out.tr HL.out HSL.out HSS.out ht6.out)
          have H6 := vl (word_st (s := ⟨#[32]⟩) (by decide) (show Dst G (bindP (mtsP (unums ⟨#[32]⟩)) _) w0 wc lb a len cap Z from HD6.out))
          unfold rptr at H6
          clear HD5 HD6 HP5 ht6
          go_wp2_with fail
          refine H6.out.mono ?_
          rintro e w7 ⟨rfl, hd7, ht7⟩
          have HP7 := vl (HP6.out.tr HL.out HSL.out HSS.out ht7)
          have H7 := vl (value_st 0 hd7)
          unfold rptr at H7
          clear H6 HP6 hd7 ht7
          go_wp2_with fail
          refine H7.out.mono ?_
          rintro e w8 ⟨v, rfl, hd8, ht8, hv4⟩
          have HP8 := vl (HP7.out.tr HL.out HSL.out HSS.out ht8)
          have HD8 := vl hd8
          clear H7 HP7 hd8 ht8
          have hs8 : wx.heap.size ≤ w8.heap.size := HP8.out.2.2.size
          have HCN : Vl (∀ j u, [Value.string s, .string v][j]? = some u → (w8.alloc (.cells #[.string s, .string v] 75)).cell? ((⟨w8.heap.size, 0, none⟩ : Addr).add j) = some u) := by
            intro j u hj
            have hh : (w8.alloc (.cells #[.string s, .string v] 75)).heap[w8.heap.size]? = some (.cells #[.string s, .string v] 75 (0, 0)) := heap_alloc_new w8 _
            rw [n_add]
            simp only [World.cell?, hh, Nat.zero_add]
            match j with
            | 0 => exact hj
            | 1 => exact hj
            | j + 2 => simp at hj
          have HCO : Vl (∀ u ∈ [Value.string s, .string v], u.oneCell' = true) := by intro u hu; simp at hu; rcases hu with rfl | rfl <;> rfl
          go_wp2_with (at_builtin; refine wpList_append_own _ rfl _ _ 22 rfl wx.heap.size 75 i0 (.agg #[.string ⟨#[]⟩, .string ⟨#[]⟩]) 2 32 Tryz.underlying22 HI.out HZ.out.1 HZ.out.2.1 HZ.out.2.2 rfl (by decide) (.slice sa FL.length sc) FL.length _ rfl (HP8.out.1.alloc _) ⟨w8.heap.size, 0, none⟩ 1 1 [.string s, .string v] rfl rfl HCN.out HCO.out (by unfold maxLen; omega) (by omega) (by rw [World.size_alloc]; omega) ?_)
          intro v3 w9 hown3 hgrow3 _
          have hfc : fcells FL ++ [Value.string s, .string v] = fcells (FL ++ [(s, v)]) := by rw [fcells_append]; rfl
          rw [hfc] at hown3
          have hle3 : (FL ++ [(s, v)]).length = FL.length + 1 := by simp
          have hal : Below w8.heap.size w8 (w8.alloc (.cells #[.string s, .string v] 75)) := (Below.refl _ _).alloc (Nat.le_refl _) _
          have HO3 : Vl (FOwn w9 wx.heap.size v3 (FL ++ [(s, v)])) := by show FOwn _ _ _ _; unfold FOwn; rw [hle3]; exact hown3
          have hrow : ∀ k, (Value.slice sa FL.length sc).ownBlock = some k → wx.heap.size ≤ k := fun k hk => (HP8.out.1.lt k hk).1
          have HT3 := vl (tn_grow (tn_trans HP8.out.2.2 (tn_tr HSL.out (Tr.of hal))) hgrow3 hrow)
          have HC3 := vl (HL.out.keepG w8 w9 HP8.out.2.1 (fun k hk => (hgrow3.block k (by have := (HSS.out k hk).2; rw [World.size_alloc]; omega) (fun e => by have := hrow k e.symm; have := (HSS.out k hk).2; omega)).trans (hal.block k (by have := (HSS.out k hk).2; omega))))
          obtain ⟨q9, bad9, hR9, hG9⟩ := HD8.out
          have HR9 := vl ((hR9.on hal).grown hgrow3 (fun k hk => ⟨by have := hrow k hk; have := hR9.base; omega, by have := hrow k hk; omega⟩))
          obtain ⟨sa3, sc3, rfl⟩ := fown_shape HO3.out
          have HI3 : Vl (FdI G least coded f Z (FL ++ [(s, v)]) q9 bad9) := by
            rcases hG9 with ⟨h1, h2⟩ | h1
            · by_cases hf40 : FL.length = 40
              · rw [if_pos hf40] at h2
                exact absurd (by rw [h2]; rfl) (HNE.out hf40)
              · refine Or.inl ⟨h1, by rw [hle3]; omega, ?_⟩
                rw [if_neg hf40] at h2
                rw [hle3, fds_snoc, h2, show 40 - FL.length - 1 = 40 - (FL.length + 1) by omega]
            · exact Or.inr h1
          have HF3 := vl (fsmall_snoc HF.out HS4.out hv4)
          have hgk : 42 ≤ FL.length + gk := HGK.out
          obtain ⟨g', rfl⟩ : ∃ g', gk = g' + 1 := ⟨gk - 1, by omega⟩
          clear hown3 hgrow3 hfc hal hrow HP8 HCN HCO HD8 hR9 hG9 HI
          go_wp2
          go_roundg g'
          case measure => omega
          case rel =>
            exact ⟨FL ++ [(s, v)], q9, bad9, sa3, sc3, by rw [hle3], ⟨HO3.out, HC3.out, HT3.out⟩, HF3.out, by omega, HR9.out, HI3.out, by show 42 ≤ _; omega⟩
  case rest =>
    obtain ⟨FL, v, h1, h2, h3, h4, h5, h6⟩ := hcut.out
    have HO := vl h1
    have H2 := vl h2
    have HC := vl h5
    have HT := vl h6
    have H4 := vl (word_st (s := ⟨#[13, 10]⟩) (by decide) (show Dst G (bindP (mtsP (unums ⟨#[13, 10]⟩)) _) w0 wc lb a len cap Z from h4))
    obtain ⟨sa, sc, rfl⟩ := fown_shape h1
    unfold rptr at H4
    clear hcut h1 h2 h4 h5 h6 HR HI0 HC0
    go_wp2_with fail
    refine H4.out.mono ?_
    rintro e w1 ⟨rfl, hd1, ht1⟩
    have HO1 := vl (fown_tn HO.out (fun k hk => (HSS.out k hk).2) (tn_tr HSL.out ht1))
    have HT1 := vl (tn_trans HT.out (tn_tr HSL.out ht1))
    have HC1 := vl (HL.out.keepR _ _ _ HC.out ht1)
    have HD1 := vl hd1
    clear hd1 ht1 HO HT HC H4
    go_wp2
    go_ret
    exact ⟨_, FL, v, rfl, HO1.out, H2.out, h3, HD1.out, HC1.out, HT1.out⟩
end
end Go.Proofs.YtkaihfminlincafGreatDoor
/-
  MESSAGES AS LINES: the developers' ReadAsk: its memory, and the function that reads the last line. No claim by itself.
-/
namespace Go.Proofs.YtkaihfminlincafGreatDoor
open Go Go.RowKit Go.Shelf
set_option maxRecDepth 100000
/-- A request's five cells. -/
def RB (w : World) (x : Nat) (m p h : ByteArray) (fv bv : Value) : Prop := w.heap[x]? = some (.cells #[.string m, .string p, .string h, fv, bv] 25 (0, 0))
section
variable {w w' : World} {x lb : Nat} {m p h : ByteArray} {fv bv : Value}
theorem RB.lt (k : RB w x m p h fv bv) : x < w.heap.size := (Array.getElem?_eq_some_iff.1 k).1
theorem RB.cells (k : RB w x m p h fv bv) : w.cell? ⟨x, 0, none⟩ = some (.string m) ∧ w.cell? ⟨x, 1, none⟩ = some (.string p) ∧ w.cell? ⟨x, 2, none⟩ = some (.string h) ∧ w.cell? ⟨x, 3, none⟩ = some fv ∧ w.cell? ⟨x, 4, none⟩ = some bv := by
  unfold RB at k
  simp only [World.cell?, k]
  exact ⟨rfl, rfl, rfl, rfl, rfl⟩
theorem RB.frozen (k : RB w x m p h fv bv) (i : Nat) : w.frozen? ⟨x, i, none⟩ = false := by
  unfold RB at k
  unfold World.frozen?
  rw [k]
  simp
theorem RB.tl (k : RB w x m p h fv bv) (hx : x ≠ lb) (ht : Tr lb w w') : RB w' x m p h fv bv := (ht.block x k.lt hx).trans k
theorem RB.on (k : RB w x m p h fv bv) (hb : Below w.heap.size w w') : RB w' x m p h fv bv := (hb.block x k.lt).trans k
theorem RB.other {y i : Nat} {v : Value} (k : RB w x m p h fv bv) (hx : x ≠ y) : RB (w.setCell ⟨y, i, none⟩ v) x m p h fv bv := (Below.heap_setCell _ _ _ _ hx).trans k
theorem RB.s0 (k : RB w x m p h fv bv) (s : ByteArray) : RB (w.setCell ⟨x, 0, none⟩ (.string s)) x s p h fv bv := by unfold RB at *; simp [World.setCell, Array.getElem?_modify, k]
theorem RB.s1 (k : RB w x m p h fv bv) (s : ByteArray) : RB (w.setCell ⟨x, 1, none⟩ (.string s)) x m s h fv bv := by unfold RB at *; simp [World.setCell, Array.getElem?_modify, k]
theorem RB.s2 (k : RB w x m p h fv bv) (s : ByteArray) : RB (w.setCell ⟨x, 2, none⟩ (.string s)) x m p s fv bv := by unfold RB at *; simp [World.setCell, Array.getElem?_modify, k]
theorem RB.s3 (k : RB w x m p h fv bv) (s : Value) : RB (w.setCell ⟨x, 3, none⟩ s) x m p h s bv := by unfold RB at *; simp [World.setCell, Array.getElem?_modify, k]
theorem RB.s4 (k : RB w x m p h fv bv) (s : Value) : RB (w.setCell ⟨x, 4, none⟩ s) x m p h fv s := by unfold RB at *; simp [World.setCell, Array.getElem?_modify, k]
end
theorem n_setg (w : World) (y i : Nat) (v : Value) : w.grownBy (w.setCell ⟨y, i, none⟩ v) (some y) := ⟨rfl, rfl, rfl, by simp [World.setCell], fun k _ hk => Below.heap_setCell _ _ _ _ (fun e => hk (by rw [e]))⟩
/-- A row of fields that the call itself made. -/
theorem nfrow_of {w : World} {base : Nat} {sa : Option Addr} {n sc : Nat} {L : List (ByteArray × ByteArray)} (h : FOwn w base (.slice sa n sc) L) : n = L.length ∧ FArg w sa n sc L := by
  obtain ⟨_, ⟨hv, h0⟩ | ⟨g, cap, cur, hv, _, _, hc, hm, _⟩⟩ := id h
  · cases hv
    have e := List.eq_nil_of_length_eq_zero h0
    subst e
    exact ⟨rfl, Or.inl ⟨rfl, rfl⟩⟩
  · cases hv
    refine ⟨rfl, Or.inr ⟨g, 0, rfl, rfl, hc, hm, fun t ht => ?_, fun t ht => ?_⟩⟩
    · have hc := h.cellAt (2 * t) (by omega)
      rw [show 0 + t * 2 = 2 * t from by omega, hc, (fcells_at L t (by omega)).1]
    · have hc := h.cellAt (2 * t + 1) (by omega)
      rw [show 0 + t * 2 + 1 = 2 * t + 1 from by omega, hc, (fcells_at L t (by omega)).2]
theorem fown_set {w : World} {base y i : Nat} {u v : Value} {L : List (ByteArray × ByteArray)} (h : FOwn w base v L) (hy : y < base) : FOwn (w.setCell ⟨y, i, none⟩ u) base v L :=
  World.ownsRow.kept h (n_setg w y i u) (Or.inr (fun e => by have := (h.lt y e).1; omega))
theorem fsmall_at {L : List (ByteArray × ByteArray)} (h : fsmall L) (t : Nat) : (L.getD t fnone).1.size ≤ 140737488351232 ∧ (L.getD t fnone).2.size ≤ 140737488351232 := by
  by_cases ht : t < L.length
  · have hm : L.getD t fnone ∈ L := by rw [List.getD, List.getElem?_eq_getElem ht]; exact List.getElem_mem _
    have := h _ hm
    omega
  · have e : L.getD t fnone = fnone := by simp [List.getD, List.getElem?_eq_none (show L.length ≤ t by omega)]
    rw [e]; decide
/-- A request, stored into its five cells as one. -/
theorem run_rqstore' {w : World} {x : Nat} {m p h m' p' h' : ByteArray} {fv bv fv' bv' : Value} (k : RB w x m p h fv bv) (h1 : fv'.oneCell' = true) (h2 : bv'.oneCell' = true) :
    (Instr.storeAt 25 (.pointer (some ⟨x, 0, none⟩)) (.agg #[.string m', .string p', .string h', fv', bv'])).run Tryz.prog w = .ok () (w.setRow x #[.string m', .string p', .string h', fv', bv']) := by
  have hk : w.heap[x]? = some (.cells #[.string m, .string p, .string h, fv, bv] 25 (0, 0)) := k
  have hst := run_storeCells_from (P := Tryz.prog) x 25 [.string m', .string p', .string h', fv', bv'] 0 _ w hk rfl (by intro v hv; simp at hv; rcases hv with rfl | rfl | rfl | rfl | rfl <;> first | rfl | assumption)
  have hsz : (sizeOf 25).run Tryz.prog w = .ok 5 w := by kernel_rfl
  have hcs : (Value.agg #[.string m', .string p', .string h', fv', bv']).cells = #[.string m', .string p', .string h', fv', bv'] := rfl
  simp only [Instr.storeAt, Instr.sureAddr, Sem.run_bind, Sem.run_pure, Result.andThen, storeVar, hsz, hcs]
  simpa using hst
theorem rq_row {w : World} {x : Nat} {m p h m' p' h' : ByteArray} {fv bv fv' bv' : Value} (k : RB w x m p h fv bv) : RB (w.setRow x #[.string m', .string p', .string h', fv', bv']) x m' p' h' fv' bv' := setRow_heap w x _ _ _ _ k
theorem row_grown (w : World) (x : Nat) (cs : Array Value) : w.grownBy (w.setRow x cs) (some x) := ⟨rfl, rfl, rfl, by simp [World.setRow], fun k _ hk => setRow_other w x k _ (fun e => hk (by rw [e]))⟩
theorem run_rqstore {w : World} {x : Nat} {m p h m' p' h' : ByteArray} {fv bv fv' bv' : Value} (k : RB w x m p h fv bv) (h1 : fv'.oneCell' = true) (h2 : bv'.oneCell' = true) :
    ∃ w', (Instr.storeAt 25 (.pointer (some ⟨x, 0, none⟩)) (.agg #[.string m', .string p', .string h', fv', bv'])).run Tryz.prog w = .ok () w' ∧ RB w' x m' p' h' fv' bv' ∧ w.grownBy w' (some x) :=
  ⟨_, run_rqstore' k h1 h2, rq_row k, row_grown w x _⟩
section
variable (w : World) {ops : Array Oper} {rest : List Oper} {o : Oper} {a : Act} {Q : Exit → Act → World → Prop}
theorem wpList_rqstore (hgd : o.guard = none) (s x : Operand) (ho : o.op = .store 25 s x) (n : Nat) (m p h m' p' h' : ByteArray) (fv bv fv' bv' : Value) (hs : a.eval s = .pointer (some ⟨n, 0, none⟩)) (hx : a.eval x = .agg #[.string m', .string p', .string h', fv', bv']) (hB : RB w n m p h fv bv) (h1 : fv'.oneCell' = true) (h2 : bv'.oneCell' = true)
    (h0 : ∀ w', RB w' n m' p' h' fv' bv' → w.grownBy w' (some n) → wpList Tryz.prog ops Q rest (a.put o.dst undef) w') : wpList Tryz.prog ops Q (o :: rest) a w := by
  refine wpList_plain hgd fun K hK => ?_
  obtain ⟨w', hr, h3, h4⟩ := run_rqstore (m' := m') (p' := p') (h' := h') hB h1 h2
  unfold Oper.wp execOp
  simp only [ho, Sem.run_bind, Sem.run_pure, Result.andThen_ok, hs, hx, hr]
  exact hK _ _ (h0 w' h3 h4)
end
theorem wpAny_cast {P : Program} {md : Region.Mode} {ops : Array Oper} {Q : Exit → Act → World → Prop} {fuel : Nat} {l l' : Array Bool} {a : Act} {w : World} (e : l = l') (h : wpAny P md ops Q fuel l' a w) : wpAny P md ops Q fuel l a w := by rw [e]; exact h
section
variable {ops : Array Oper} {o : Oper} {a : Act} {w : World} {K : Act → World → Prop} {Q : Exit → Act → World → Prop} {E : Prop}
theorem step_rqload (hg : o.guard = none) (s : Operand) (ho : o.op = .load 25 s) (n : Nat) (m p h : ByteArray) (fv bv : Value) (hs : a.eval s = .pointer (some ⟨n, 0, none⟩)) (hB : RB w n m p h fv bv)
    (hK : K (a.put o.dst (.agg #[.string m, .string p, .string h, fv, bv])) w) : if Region.wanted o (yielded ops a.tmps) = true then Oper.wp Tryz.prog o a w K Q else E := by
  have hw : Region.wanted o (yielded ops a.tmps) = true := by simp [Region.wanted, hg]
  rw [if_pos hw]
  obtain ⟨c0, c1, c2, c3, c4⟩ := hB.cells
  have hr : (Instr.loadAt 25 (.pointer (some ⟨n, 0, none⟩))).run Tryz.prog w = .ok (.agg #[.string m, .string p, .string h, fv, bv]) w := by
    simp [go_sem, c0, c1, c2, c3, c4]
  unfold Oper.wp execOp
  simp only [ho, Sem.run_bind, Sem.run_pure, Result.andThen_ok, hs, hr]
  exact hK
theorem step_rqstore (hg : o.guard = none) (s x : Operand) (ho : o.op = .store 25 s x) (n : Nat) (m p h m' p' h' : ByteArray) (fv bv fv' bv' : Value) (hs : a.eval s = .pointer (some ⟨n, 0, none⟩)) (hx : a.eval x = .agg #[.string m', .string p', .string h', fv', bv']) (hB : RB w n m p h fv bv) (h1 : fv'.oneCell' = true) (h2 : bv'.oneCell' = true)
    (hK : K (a.put o.dst undef) (w.setRow n #[.string m', .string p', .string h', fv', bv'])) : if Region.wanted o (yielded ops a.tmps) = true then Oper.wp Tryz.prog o a w K Q else E := by
  have hw : Region.wanted o (yielded ops a.tmps) = true := by simp [Region.wanted, hg]
  rw [if_pos hw]
  have hr := run_rqstore' (m' := m') (p' := p') (h' := h') hB h1 h2
  unfold Oper.wp execOp
  simp only [ho, Sem.run_bind, Sem.run_pure, Result.andThen_ok, hs, hx, hr]
  exact hK
end
section
variable {β : Type} {G : Int × β × List Int} {K : Pz β} {w0 wx : World} {lb : Nat} {a : Option Addr} {len cap : Nat} {Z : List Int}
theorem Dst.grown {w' : World} {row : Option Nat} (h : Dst G K w0 wx lb a len cap Z) (hg : wx.grownBy w' row) (hr : ∀ k, row = some k → w0.heap.size ≤ k ∧ k ≠ lb) : Dst G K w0 w' lb a len cap Z := by
  obtain ⟨q, bad, h1, h2⟩ := h
  exact ⟨q, bad, h1.grown hg hr, h2⟩
theorem Dst.set {y i : Nat} {v : Value} (h : Dst G K w0 wx lb a len cap Z) (h1 : w0.heap.size ≤ y) (h2 : y ≠ lb) : Dst G K w0 (wx.setCell ⟨y, i, none⟩ v) lb a len cap Z :=
  h.grown (n_setg wx y i v) (fun k hk => by cases hk; exact ⟨h1, h2⟩)
theorem Dst.any {K' : Pz β} {q : Nat} {bad : Int} (h1 : RS w0 wx lb a len cap Z q bad) (h2 : bad ≠ 0) (h3 : G.1 = bad) : Dst G K' w0 wx lb a len cap Z := ⟨q, bad, h1, Or.inr ⟨h2, h3⟩⟩
theorem Dst.to {K' : Pz β} (h : Dst G K w0 wx lb a len cap Z) (e : ∀ b, K b = K' b) : Dst G K' w0 wx lb a len cap Z := by
  obtain ⟨q, bad, h1, h2⟩ := h
  exact ⟨q, bad, h1, h2.imp (fun h => ⟨h.1, h.2.trans (e _)⟩) id⟩
variable [Inhabited β]
theorem bind_congr {α : Type} {p : Pz α} {f g : α → Pz β} {b : List Int} (h : ∀ v r, p b = (0, v, r) → f v r = g v r) : bindP p f b = bindP p g b := by
  unfold bindP
  split
  · rename_i h1
    exact h _ _ (Prod.ext h1 rfl)
  · rfl
/-- A reading that cannot come about. -/
def noP (G : Int × β × List Int) : Pz β := fun _ => (G.1 + 1, default, [])
theorem Dst.never (h : Dst G (noP G) w0 wx lb a len cap Z) : ∃ q bad, RS w0 wx lb a len cap Z q bad ∧ bad ≠ 0 ∧ G.1 = bad := by
  obtain ⟨q, bad, h1, h2⟩ := h
  rcases h2 with ⟨rfl, h2⟩ | ⟨h2, h3⟩
  · have := congrArg (·.1) h2
    simp [noP] at this
    omega
  · exact ⟨q, bad, h1, h2, h3⟩
/-- A length that was read is none below 0. -/
def lenK (G : Int × β × List Int) (f : Int × Bool → Pz β) (v : Int) : Pz β := if v < 0 then noP G else f (v, false)
theorem len_lenK {least : Int} (hl : 0 ≤ least) {f : Int × Bool → Pz β} (b : List Int) : bindP (bindP (lenQ least) fun v => retP (v, false)) f b = bindP (lenQ least) (lenK G f) b := by
  rw [bind_assoc]
  refine bind_congr (fun v r h => ?_)
  obtain ⟨n, hn, _⟩ := lenQ_inv hl h
  unfold lenK
  rw [if_neg (by omega), bind_ret]
/-- A head that was read has no length of -2. -/
def hdK (G : Int × β × List Int) (f : Hd → Pz β) (h : Hd) : Pz β := if h.2.1 = -2 then noP G else f h
theorem hd_hdK {least : Int} (hl : 0 ≤ least) {coded : Bool} {f : Hd → Pz β} (b : List Int) : bindP (headP least coded 40 []) f b = bindP (headP least coded 40 []) (hdK G f) b := by
  refine bind_congr (fun v r h => ?_)
  obtain ⟨l, n, pc⟩ := v
  obtain ⟨l', _, _, _, hat⟩ := head_inv hl 40 [] h
  unfold hdK
  rw [if_neg]
  show n ≠ -2
  rcases hat with ⟨h1, _⟩ | ⟨v, h1, _⟩ | ⟨_, h1, _⟩ <;> omega
end
/-- What the last line said, in memory. -/
def CapA (lb rb sb : Nat) (v : Int × Bool) (W : World) : Prop :=
  W.heap[rb]? = some (.cells #[rptr lb] 41 (0, 0)) ∧ ∃ n : Int, W.heap[sb]? = some (.cells #[.int .i64 n] 3 (0, 0)) ∧ -100000 ≤ n ∧ n ≤ 100000 ∧ (v.1 = -2 ∨ (0 ≤ n ∧ v.1.toNat = n.toNat))
theorem CapA.kept {lb rb sb : Nat} {v : Int × Bool} {W W' : World} (h : CapA lb rb sb v W) (h1 : W'.heap[rb]? = W.heap[rb]?) (h2 : W'.heap[sb]? = W.heap[sb]?) : CapA lb rb sb v W' := by
  obtain ⟨k1, n, k2, k3⟩ := h
  exact ⟨h1.trans k1, n, h2.trans k2, k3⟩
theorem nra1_no (rb sb : Nat) (n : ByteArray) (W : World) (hn : unums n ≠ lengthN) : Calls Tryz.prog 17 #[.string n, .pointer (some ⟨rb, 0, none⟩), .pointer (some ⟨sb, 0, none⟩)] W fun e w' => e = .returned (.bool false) ∧ Below W.heap.size W w' := by
  have q2 : ¬ n.toList = [108, 101, 110, 103, 116, 104] := fun e => hn (toL_length.1 e)
  have q2' : (n.toList == [108, 101, 110, 103, 116, 104]) = false := by simpa using q2
  go_enter Tryz.func17, Tryz.ntmps17
  go_wp2
  go_ret
  exact ⟨rfl, Below.refl _ _⟩
set_option maxHeartbeats 2000000 in
theorem nra1_yes {β : Type} [Inhabited β] {G : Int × β × List Int} {w0 W : World} {lb : Nat} {a : Option Addr} {len cap : Nat} {Z : List Int} (rb sb : Nat) (d1 : rb ≠ lb) (d2 : sb ≠ lb) (d3 : rb ≠ sb) (d4 : w0.heap.size ≤ sb) (f : Int × Bool → Pz β) (n : ByteArray) (hn : unums n = lengthN) (hc : CapA lb rb sb (-1, false) W) (h : Dst G (bindP (bindP (lenQ 1) fun v => retP (v, false)) f) w0 W lb a len cap Z) :
    Calls Tryz.prog 17 #[.string n, .pointer (some ⟨rb, 0, none⟩), .pointer (some ⟨sb, 0, none⟩)] W fun e w' => e = .returned (.bool true) ∧ ∃ v, Dst G (f v) w0 w' lb a len cap Z ∧ CapA lb rb sb v w' ∧ Tn (fun k => k = lb ∨ k = rb ∨ k = sb) W w' := by
  have q2 : n.toList = [108, 101, 110, 103, 116, 104] := toL_length.2 hn
  have H1 := vl (length_st 1 (by omega) (h.to (fun b => len_lenK (G := G) (by omega) b)))
  obtain ⟨hr, n0, hs, _⟩ := hc
  have r0 := (o1 hr).1
  have HR := vl hr
  have HS := vl hs
  unfold rptr at H1 r0
  clear hr hs h hn
  go_enter Tryz.func17, Tryz.ntmps17
  go_wp2_with fail
  refine H1.out.mono ?_
  rintro e w1 ⟨x, rfl, x1, x2, hd, ht⟩
  have hs1 : w1.heap[sb]? = some (.cells #[.int .i64 n0] 3 (0, 0)) := (ht.block sb (Array.getElem?_eq_some_iff.1 HS.out).1 d2).trans HS.out
  have hr1 : w1.heap[rb]? = some (.cells #[rptr lb] 41 (0, 0)) := (ht.block rb (Array.getElem?_eq_some_iff.1 HR.out).1 d1).trans HR.out
  have s1 := (o1 hs1).2
  have s2 := (o1 hs1).1
  have HD : Vl (∃ v, Dst G (f v) w0 (w1.setCell ⟨sb, 0, none⟩ (.int .i64 x)) lb a len cap Z ∧ CapA lb rb sb v (w1.setCell ⟨sb, 0, none⟩ (.int .i64 x)) ∧ Tn (fun k => k = lb ∨ k = rb ∨ k = sb) W (w1.setCell ⟨sb, 0, none⟩ (.int .i64 x))) := by
    have hd2 := hd.set (y := sb) (i := 0) (v := .int .i64 x) d4 d2
    have e1 : (w1.setCell ⟨sb, 0, none⟩ (.int .i64 x)).heap[rb]? = some (.cells #[rptr lb] 41 (0, 0)) := (Below.heap_setCell _ _ _ _ d3).trans hr1
    have e2 : (w1.setCell ⟨sb, 0, none⟩ (.int .i64 x)).heap[sb]? = some (.cells #[.int .i64 x] 3 (0, 0)) := by simp [World.setCell, Array.getElem?_modify, hs1]
    have e3 : Tn (fun k => k = lb ∨ k = rb ∨ k = sb) W (w1.setCell ⟨sb, 0, none⟩ (.int .i64 x)) := tn_trans (tn_tr (Or.inl rfl) ht) ⟨rfl, rfl, rfl, by simp [World.setCell], fun k _ hk => Below.heap_setCell _ _ _ _ (fun e => hk (Or.inr (Or.inr e)))⟩
    unfold lenK at hd2
    by_cases hx : x < 0
    · rw [if_pos hx] at hd2
      obtain ⟨q, bad, k1, k2, k3⟩ := hd2.never
      exact ⟨(-2, false), Dst.any k1 k2 k3, ⟨e1, x, e2, by omega, by omega, Or.inl rfl⟩, e3⟩
    · rw [if_neg hx] at hd2
      exact ⟨(x, false), hd2, ⟨e1, x, e2, by omega, by omega, Or.inr ⟨by omega, rfl⟩⟩, e3⟩
  clear hd ht hs1 hr1 H1
  go_wp2
  go_ret
  exact ⟨rfl, HD.out⟩
theorem last_ask {β : Type} [Inhabited β] {w0 : World} {lb : Nat} {a : Option Addr} {len cap : Nat} {Z : List Int} (rb sb : Nat) (d1 : rb ≠ lb) (d2 : sb ≠ lb) (d3 : rb ≠ sb) (d4 : w0.heap.size ≤ sb) :
    LastSaid β w0 lb a len cap Z 1 false 17 #[.pointer (some ⟨rb, 0, none⟩), .pointer (some ⟨sb, 0, none⟩)] (CapA lb rb sb) (fun k => k = lb ∨ k = rb ∨ k = sb) where
  enters := enters_of Tryz.func17 (by kernel_rfl) rfl
  no := fun n W _ hl => by
    refine nra1_no rb sb n W (fun e => ?_)
    unfold lastP at hl
    rw [if_pos e] at hl
    cases hl
  yes := fun G f n p W hl hc hd => by
    unfold lastP at hl
    split at hl
    · rename_i e
      cases hl
      exact nra1_yes rb sb d1 d2 d3 d4 f n e hc hd
    · rw [if_neg (fun e => by cases e.2)] at hl
      cases hl
  keepR := fun v W W' h ht => h.kept (ht.block rb (Array.getElem?_eq_some_iff.1 h.1).1 d1) (by obtain ⟨_, n, k, _⟩ := h; exact ht.block sb (Array.getElem?_eq_some_iff.1 k).1 d2)
  keepG := fun W W' h hk => h.kept (hk rb (Or.inr (Or.inl rfl))) (hk sb (Or.inr (Or.inr rfl)))
end Go.Proofs.YtkaihfminlincafGreatDoor
/-
  MESSAGES AS LINES: the developers' ReadAsk. No claim by itself.
-/
namespace Go.Proofs.YtkaihfminlincafGreatDoor
open Go Go.RowKit Go.Shelf
set_option maxRecDepth 100000
/- what is still to be read -/
def askK4 (m p h : List Int) (f : Hd) : Pz Rq := bindP (bodyP f.2.1.toNat) fun x => retP ⟨m, p, h, f.1, x⟩
def askK3 (m p h : List Int) : Pz Rq := bindP (headP 1 false 40 []) (askK4 m p h)
def askK2 (m p : List Int) : Pz Rq := bindP (mtsP edgeHostQ) fun _ => bindP (valP 1) fun h => askK3 m p h
def askK1 (m : List Int) : Pz Rq := bindP (txtP 32 ok2 1) fun p => askK2 m p
theorem askP_eq : askP = bindP (txtP 32 ok0 1) askK1 := rfl
/-- The request and the reader's variable. -/
structure AB (W : World) (n0 lb rb : Nat) (m p h : ByteArray) (fv bv : Value) : Prop where
  q : RB W n0 m p h fv bv
  r : W.heap[rb]? = some (.cells #[rptr lb] 41 (0, 0))
section
variable {W W' : World} {n0 lb rb : Nat} {m p h : ByteArray} {fv bv : Value}
theorem AB.tr (k : AB W n0 lb rb m p h fv bv) (d1 : n0 ≠ lb) (d2 : rb ≠ lb) (ht : Tr lb W W') : AB W' n0 lb rb m p h fv bv := ⟨k.q.tl d1 ht, (ht.block rb (Array.getElem?_eq_some_iff.1 k.r).1 d2).trans k.r⟩
theorem AB.on (k : AB W n0 lb rb m p h fv bv) (hb : Below W.heap.size W W') : AB W' n0 lb rb m p h fv bv := ⟨k.q.on hb, (hb.block rb (Array.getElem?_eq_some_iff.1 k.r).1).trans k.r⟩
theorem AB.s0 (k : AB W n0 lb rb m p h fv bv) (d : n0 ≠ rb) (s : ByteArray) : AB (W.setCell ⟨n0, 0, none⟩ (.string s)) n0 lb rb s p h fv bv := ⟨k.q.s0 s, (Below.heap_setCell _ _ _ _ d.symm).trans k.r⟩
theorem AB.s1 (k : AB W n0 lb rb m p h fv bv) (d : n0 ≠ rb) (s : ByteArray) : AB (W.setCell ⟨n0, 1, none⟩ (.string s)) n0 lb rb m s h fv bv := ⟨k.q.s1 s, (Below.heap_setCell _ _ _ _ d.symm).trans k.r⟩
theorem AB.s2 (k : AB W n0 lb rb m p h fv bv) (d : n0 ≠ rb) (s : ByteArray) : AB (W.setCell ⟨n0, 2, none⟩ (.string s)) n0 lb rb m p s fv bv := ⟨k.q.s2 s, (Below.heap_setCell _ _ _ _ d.symm).trans k.r⟩
theorem AB.s3 (k : AB W n0 lb rb m p h fv bv) (d : n0 ≠ rb) (s : Value) : AB (W.setCell ⟨n0, 3, none⟩ s) n0 lb rb m p h s bv := ⟨k.q.s3 s, (Below.heap_setCell _ _ _ _ d.symm).trans k.r⟩
theorem AB.s4 (k : AB W n0 lb rb m p h fv bv) (d : n0 ≠ rb) (s : Value) : AB (W.setCell ⟨n0, 4, none⟩ s) n0 lb rb m p h fv s := ⟨k.q.s4 s, (Below.heap_setCell _ _ _ _ d.symm).trans k.r⟩
theorem AB.at (k : AB W n0 lb rb m p h fv bv) : W.cell? ⟨rb, 0, none⟩ = some (.pointer (some ⟨lb, 0, none⟩)) := (o1 k.r).1
end
/-- What is told in the end. -/
def DAskAns (Z : List Int) (w : World) (e : Ending) (w' : World) : Prop := ∃ q : RqM, e = .returned (.tuple #[q.val, .int .i64 (endF askP Z).2.2, errW (endF askP Z).1]) ∧ RqIn w' q ∧ q.rq = (endF askP Z).2.1 ∧ Below w.heap.size w w'
set_option maxHeartbeats 8000000 in
theorem nreadask_ans (a : Option Addr) (len cap : Nat) (Z : List Int) (w : World) (hA : Arg w a len cap Z) (hnil : a = none → len = 0) (hl : len ≤ ULim) : Calls Tryz.prog 4 #[.slice a len cap] w (DAskAns Z w) := by
  have hzl := hA.len
  obtain ⟨W3, hW3⟩ : ∃ W3, W3 = ((w.alloc (.cells #[.string ⟨#[]⟩, .string ⟨#[]⟩, .string ⟨#[]⟩, .slice none 0 0, .slice none 0 0] 25)).alloc (.cells #[.slice a len cap, .int .i64 0, .nilIface] 43)).alloc (.cells #[.pointer (some ⟨w.heap.size + 1, 0, none⟩)] 41) := ⟨_, rfl⟩
  obtain ⟨lb, hlb⟩ : ∃ lb, lb = w.heap.size + 1 := ⟨_, rfl⟩
  obtain ⟨rb, hrb⟩ : ∃ rb, rb = w.heap.size + 1 + 1 := ⟨_, rfl⟩
  obtain ⟨n0, hn0⟩ : ∃ n0, n0 = w.heap.size := ⟨_, rfl⟩
  have hsz3 : W3.heap.size = n0 + 3 := by rw [hW3, hn0]; simp
  have X0 : Vl (AB W3 n0 lb rb ⟨#[]⟩ ⟨#[]⟩ ⟨#[]⟩ (.slice none 0 0) (.slice none 0 0)) := by
    constructor
    · unfold RB
      rw [hW3, hn0, Below.heap_alloc _ _ _ (by simp; omega), Below.heap_alloc _ _ _ (by simp)]
      exact heap_alloc_new w _
    · unfold rptr
      rw [hW3, hrb, hlb]
      have := heap_alloc_new ((w.alloc (.cells #[.string ⟨#[]⟩, .string ⟨#[]⟩, .string ⟨#[]⟩, .slice none 0 0, .slice none 0 0] 25)).alloc (.cells #[.slice a len cap, .int .i64 0, .nilIface] 43)) (.cells #[.pointer (some ⟨w.heap.size + 1, 0, none⟩)] 41 (0, 0))
      simpa using this
  have hB3 : Below w.heap.size w W3 := by rw [hW3]; exact (((Below.refl _ w).alloc (Nat.le_refl _) _).alloc (by simp) _).alloc (by simp; omega) _
  have hL3 : W3.heap[lb]? = some (.cells #[.slice a len cap, .int .i64 0, .nilIface] 43 (0, 0)) := by
    rw [hW3, hlb, Below.heap_alloc _ _ _ (by simp)]
    have := heap_alloc_new (w.alloc (.cells #[.string ⟨#[]⟩, .string ⟨#[]⟩, .string ⟨#[]⟩, .slice none 0 0, .slice none 0 0] 25)) (.cells #[.slice a len cap, .int .i64 0, .nilIface] 43 (0, 0))
    simpa using this
  have S0 : Vl (Dst (askP Z) askP w W3 lb a len cap Z) := by
    refine ⟨0, 0, ⟨hB3, by omega, hA, ⟨?_, ?_, ?_, ?_, ?_⟩, Nat.zero_le _, hl⟩, Or.inl ⟨rfl, rfl⟩⟩
    all_goals simp [World.cell?, World.frozen?, hL3, errW_0]
  obtain ⟨G, hG⟩ : ∃ G, G = askP Z := ⟨_, rfl⟩
  rw [← hG] at S0
  have HG : Vl (G = askP Z) := hG
  have HNIL := vl hnil
  have hws : w.heap.size = n0 := hn0.symm
  have hl1 : lb = n0 + 1 := by omega
  have hr1 : rb = n0 + 2 := by omega
  have d1 : n0 ≠ lb := by omega
  have d2 : rb ≠ lb := by omega
  have d3 : n0 ≠ rb := by omega
  have d4 : w.heap.size ≤ rb := by omega
  have d5 : w.heap.size ≤ n0 := by omega
  have HA := vl hA
  have EW3 := vl hW3
  have ELB := vl hlb
  have ERB := vl hrb
  have EN0 := vl hn0
  have D4 := vl d4
  have D5 := vl d5
  have HNUM : Vl (lb = n0 + 1 ∧ rb = n0 + 2 ∧ W3.heap.size = n0 + 3) := ⟨hl1, hr1, hsz3⟩
  clear hnil hG hB3 hL3 hA hW3 hlb hrb hn0 hws d4 d5 hl1 hr1 hsz3
  rw [askP_eq] at S0
  go_enter Tryz.func4, Tryz.ntmps4
  go_upto_region 2 with fail
  rw [← EW3.out, ← ERB.out, ← ELB.out, ← EN0.out]
  clear EW3
  go_cut [] (fun wz => ∃ m : ByteArray, Vl (Dst G (askK1 (unums m)) w wz lb a len cap Z) ∧ Vl (AB wz n0 lb rb m ⟨#[]⟩ ⟨#[]⟩ (.slice none 0 0) (.slice none 0 0)) ∧ m.size ≤ 400)
  case first =>
    as_aux_lemma =>
      have k0 := X0.out.at
      have H1 := vl (ntokf_any W3.drew)
      have hlt := S0.out.lt
      have H2 : Vl (∀ W, Below W3.drew.heap.size W3.drew W → Calls Tryz.prog 11 #[rptr lb, formV 1 (.func (.func 46) #[] #[]), .int .u8 32] W fun e w' => ∃ s : ByteArray, e = .returned (.string s) ∧ Dst G (askK1 (unums s)) w w' lb a len cap Z ∧ Tr lb W w' ∧ s.size ≤ 400) := fun W hb => text_st 32 ok0 1 _ _ (mayf_tok W W.heap.size) (by have := hb.size; have := hlt; show lb < W.heap.size; exact Nat.lt_of_lt_of_le hlt hb.size) ((S0.out.on (Below.refl _ W3).drew).on hb)
      have HX : Vl (∀ W, Below W3.drew.heap.size W3.drew W → AB W n0 lb rb ⟨#[]⟩ ⟨#[]⟩ ⟨#[]⟩ (.slice none 0 0) (.slice none 0 0)) := fun W hb => (X0.out.on (Below.refl _ W3).drew).on hb
      unfold rptr formV at H2
      unfold formV at H1
      go_region_held3 (fun W => W.cell? ⟨rb, 0, none⟩ = some (.pointer (some ⟨lb, 0, none⟩)))
        (first | exact (((HX.out _ hb).tr d1 d2 ht2).s0 d3 s).at | exact ((HX.out _ hb).tr d1 d2 ht2).at | exact k0 | exact (HX.out _ hb).at)
        (first
          | (go_at_call 11; refine (H2.out _ hb).mono ?_; rintro e w2 ⟨s, rfl, hd2, ht2, hs2⟩; have y0 := ((HX.out _ hb).tr d1 d2 ht2).q.cells.1; have y1 := ((HX.out _ hb).tr d1 d2 ht2).q.frozen 0)
          | (go_at_call 12; refine H1.out.mono ?_; rintro e w1 ⟨rfl, hb⟩))
      all_goals
        have HD := vl (hd2.set (y := n0) (i := 0) (v := .string s) D5.out d1)
        have HY := vl (((HX.out _ hb).tr d1 d2 ht2).s0 d3 s)
        clear hd2 ht2 y0 y1 HX H2 H1 hb
        go_wp2
        go_meet
        exact ⟨s, HD.out, HY.out, by omega⟩
  case rest =>
  obtain ⟨m, S1, X1, hm⟩ := hcut
  clear S0 X0 HNUM
  obtain ⟨V1, hV1⟩ : ∃ V1, V1 = wc := ⟨_, rfl⟩
  subst hV1
  go_upto_region 3 with fail
  go_cut [] (fun wz => ∃ p : ByteArray, Vl (Dst G (askK2 (unums m) (unums p)) w wz lb a len cap Z) ∧ Vl (AB wz n0 lb rb m p ⟨#[]⟩ (.slice none 0 0) (.slice none 0 0)) ∧ p.size ≤ 400)
  case first =>
    as_aux_lemma =>
      have k0 := X1.out.at
      have H1 := vl (npathf_any V1.drew)
      have hlt := S1.out.lt
      have H2 : Vl (∀ F W, Below V1.drew.heap.size V1.drew W → MayF W V1.drew.heap.size F ok2 → Calls Tryz.prog 11 #[rptr lb, formV 1 F, .int .u8 32] W fun e w' => ∃ s : ByteArray, e = .returned (.string s) ∧ Dst G (askK2 (unums m) (unums s)) w w' lb a len cap Z ∧ Tr lb W w' ∧ s.size ≤ 400) := fun F W hb hF => text_st 32 ok2 1 _ _ hF hlt ((S1.out.on (Below.refl _ V1).drew).on hb)
      have HX : Vl (∀ W, Below V1.drew.heap.size V1.drew W → AB W n0 lb rb m ⟨#[]⟩ ⟨#[]⟩ (.slice none 0 0) (.slice none 0 0)) := fun W hb => (X1.out.on (Below.refl _ V1).drew).on hb
      unfold rptr formV at H2
      unfold formV at H1
      go_region_held3 (fun W => W.cell? ⟨rb, 0, none⟩ = some (.pointer (some ⟨lb, 0, none⟩)))
        (first | exact (((HX.out _ hb).tr d1 d2 ht2).s1 d3 s).at | exact ((HX.out _ hb).tr d1 d2 ht2).at | exact k0 | exact (HX.out _ hb).at)
        (first
          | (go_at_call 11; refine (H2.out _ _ hb hmf).mono ?_; rintro e w2 ⟨s, rfl, hd2, ht2, hs2⟩; have y0 := ((HX.out _ hb).tr d1 d2 ht2).q.cells.2.1; have y1 := ((HX.out _ hb).tr d1 d2 ht2).q.frozen 1)
          | (go_at_call 13; refine H1.out.mono ?_; rintro e w1 ⟨Gf, rfl, hmf, hb⟩))
      all_goals
        have HD := vl (hd2.set (y := n0) (i := 1) (v := .string s) D5.out d1)
        have HY := vl (((HX.out _ hb).tr d1 d2 ht2).s1 d3 s)
        clear hd2 ht2 y0 y1 HX H2 H1 hb hmf
        go_wp2
        go_meet
        exact ⟨s, HD.out, HY.out, by omega⟩
  case rest =>
  obtain ⟨p, S2, X2, hp⟩ := hcut
  clear S1 X1
  have k2 := X2.out.at
  have H3 := vl (word_st (s := ⟨#[69, 68, 71, 69, 47, 49, 13, 10, 104, 111, 115, 116, 58, 32]⟩) (by decide) (show Dst G (bindP (mtsP (unums ⟨#[69, 68, 71, 69, 47, 49, 13, 10, 104, 111, 115, 116, 58, 32]⟩)) _) w wc lb a len cap Z from S2.out))
  unfold rptr at H3
  go_wp2_with fail
  refine H3.out.mono ?_
  rintro e w3 ⟨rfl, hd3, ht3⟩
  have X3 := vl (X2.out.tr d1 d2 ht3)
  have H4 := vl (value_st 1 hd3)
  have k3 := X3.out.at
  unfold rptr at H4
  clear H3 S2 X2 hd3 ht3 k2
  go_wp2_with fail
  refine H4.out.mono ?_
  rintro e w4 ⟨h, rfl, hd4, ht4, hh⟩
  have X4 := vl (X3.out.tr d1 d2 ht4)
  have y0 := X4.out.q.cells.2.2.1
  have y1 := X4.out.q.frozen 2
  have S4 := vl (hd4.set (y := n0) (i := 2) (v := .string h) D5.out d1)
  have X5 := vl (X4.out.s2 d3 h)
  obtain ⟨V5, hV5⟩ : ∃ V5, V5 = w4.setCell ⟨n0, 2, none⟩ (.string h) := ⟨_, rfl⟩
  rw [← hV5] at S4 X5
  clear H4 X3 hd4 ht4 k3
  go_upto_region 6 with fail
  rw [← hV5]
  clear hV5 y0 y1 X4
  -- REST
  obtain ⟨sb, hsb⟩ : ∃ sb, sb = V5.heap.size := ⟨_, rfl⟩
  obtain ⟨V6, hV6⟩ : ∃ V6, V6 = V5.alloc (.cells #[.int .i64 0] 3) := ⟨_, rfl⟩
  have hb6 : Below V5.heap.size V5 V6 := by rw [hV6]; exact (Below.refl _ _).alloc (Nat.le_refl _) _
  have hs6 : V6.heap[sb]? = some (.cells #[.int .i64 0] 3 (0, 0)) := by rw [hV6, hsb]; exact heap_alloc_new V5 _
  have hn6 : V6.heap.size = sb + 1 := by rw [hV6, hsb]; simp
  have X6 := vl (X5.out.on hb6)
  have S6 := vl (S4.out.on hb6)
  have hlt5 := S4.out.lt
  have hnlt := X5.out.q.lt
  have hrlt := (Array.getElem?_eq_some_iff.1 X5.out.r).1
  have e1 : sb ≠ lb := by omega
  have e2 : rb ≠ sb := by omega
  have e3 : n0 ≠ sb := by omega
  have D6 : Vl (w.heap.size ≤ sb) := by have := D5.out; show w.heap.size ≤ sb; omega
  have DL : Vl (w.heap.size ≤ lb) := S4.out.base
  have HF := vl (fields_st 1 false 17 #[.pointer (some ⟨rb, 0, none⟩), .pointer (some ⟨sb, 0, none⟩)] (CapA lb rb sb) (fun k => k = lb ∨ k = rb ∨ k = sb) (last_ask rb sb d2 e1 e2 D6.out) (S6.out.to (fun b => hd_hdK (G := G) (by omega) b)) ⟨X6.out.r, 0, hs6, by omega, by omega, Or.inr ⟨by omega, rfl⟩⟩ (Or.inl rfl) (by
    have := D4.out
    have := DL.out
    rintro k (rfl | rfl | rfl) <;> omega))
  have k6 := X6.out.at
  have HN6 : Vl (n0 < V6.heap.size ∧ V6.heap.size = sb + 1 ∧ lb < V6.heap.size) := ⟨by omega, hn6, by omega⟩
  have EV6 := vl hV6
  have ESB := vl hsb
  unfold rptr at HF
  clear hb6 hs6 hn6 hlt5 hnlt hrlt hV6 hsb S6 S4 X5
  go_upto_region 7 with fail
  rw [← EV6.out, ← ESB.out]
  clear EV6 ESB
  go_wp2_with fail
  refine HF.out.mono ?_
  rintro e w7 ⟨x, FL, v, rfl, ho7, hf7, hl7, hd7, hc7, ht7⟩
  obtain ⟨fa, fc, rfl⟩ := fown_shape ho7
  have hq7 : RB w7 n0 m p h (.slice none 0 0) (.slice none 0 0) := (ht7.block n0 HN6.out.1 (fun hk => by rcases hk with e | e | e <;> omega)).trans X6.out.q
  have y0 := hq7.cells.2.2.2.1
  have y1 := hq7.frozen 3
  obtain ⟨V8, hV8⟩ : ∃ V8, V8 = w7.setCell ⟨n0, 3, none⟩ (.slice fa FL.length fc) := ⟨_, rfl⟩
  have X8 : Vl (AB V8 n0 lb rb m p h (.slice fa FL.length fc) (.slice none 0 0)) := by
    rw [hV8]
    exact ⟨hq7.s3 _, (Below.heap_setCell _ _ _ _ d3.symm).trans hc7.1⟩
  have S8 : Vl (Dst G (hdK G (askK4 (unums m) (unums p) (unums h)) (fdsOf FL, v.1, v.2)) w V8 lb a len cap Z) := by rw [hV8]; exact hd7.set D5.out d1
  have C8 : Vl (CapA lb rb sb v V8) := by rw [hV8]; exact hc7.kept (Below.heap_setCell _ _ _ _ d3.symm) (Below.heap_setCell _ _ _ _ e3.symm)
  obtain ⟨b6, hb6⟩ : ∃ b6, b6 = V6.heap.size := ⟨_, rfl⟩
  have O8 : Vl (FOwn V8 b6 (.slice fa FL.length fc) FL) := by rw [hV8, hb6]; exact fown_set ho7 HN6.out.1
  have HNB : Vl (n0 < b6 ∧ lb < b6) := by rw [hb6]; exact ⟨HN6.out.1, HN6.out.2.2⟩
  have HFS := vl hf7
  clear HF X6 ho7 hf7 hd7 hc7 ht7 hq7 k6
  go_upto_region 8 with fail
  rw [← hV8]
  clear hV8 y0 y1 hb6 HN6
  obtain ⟨k1, n, k2, k3, k4, k5⟩ := C8.out
  have r8 := (o1 k1).1
  have s8 := (o1 k2).1
  unfold rptr at r8
  have HB8 : Vl (Dst G (bindP (bodyP n.toNat) fun x => retP ⟨unums m, unums p, unums h, fdsOf FL, x⟩) w V8 lb a len cap Z ∧ (0 ≤ n ∨ ∃ q bad, RS w V8 lb a len cap Z q bad ∧ bad ≠ 0)) := by
    by_cases hv2 : v.1 = -2
    · have := S8.out
      unfold hdK at this
      rw [if_pos hv2] at this
      obtain ⟨q, bad, j1, j2, j3⟩ := this.never
      exact ⟨Dst.any j1 j2 j3, Or.inr ⟨q, bad, j1, j2⟩⟩
    · obtain ⟨j1, j2⟩ := k5.resolve_left hv2
      have := S8.out
      unfold hdK at this
      rw [if_neg hv2] at this
      unfold askK4 at this
      rw [← j2]
      exact ⟨this, Or.inl j1⟩
  have HBD := vl (body_st n ⟨k3, by omega⟩ HNIL.out HB8.out.1 HB8.out.2)
  unfold rptr at HBD
  clear k1 k2 k5 C8 S8 HB8
  go_wp2_with fail
  refine HBD.out.mono ?_
  rintro e w9 ⟨bv, B, rfl, ho9, hd9, ht9, hB9, hm9⟩
  obtain ⟨ba, bc, rfl, hbc, _⟩ := ho9.slice
  have X9 := vl (X8.out.tr d1 d2 ht9)
  have y0 := X9.out.q.cells.2.2.2.2
  have y1 := X9.out.q.frozen 4
  have O9 := vl (fown_tn (S := fun k => k = lb) O8.out (fun k hk => by rw [hk]; exact HNB.out.2) (tn_tr rfl ht9))
  obtain ⟨V10, hV10⟩ : ∃ V10, V10 = w9.setCell ⟨n0, 4, none⟩ (.slice ba B.length bc) := ⟨_, rfl⟩
  have X10 : Vl (AB V10 n0 lb rb m p h (.slice fa FL.length fc) (.slice ba B.length bc)) := by rw [hV10]; exact X9.out.s4 d3 _
  have S10 : Vl (Dst G (retP ⟨unums m, unums p, unums h, fdsOf FL, B⟩) w V10 lb a len cap Z) := by rw [hV10]; exact hd9.set D5.out d1
  have O10 : Vl (FOwn V10 b6 (.slice fa FL.length fc) FL) := by rw [hV10]; exact fown_set O9.out HNB.out.1
  have A10 : Vl (UOwn V10 V8.heap.size (.slice ba B.length bc) B ∧ Bytes B ∧ n0 < V8.heap.size ∧ (ba = none → B.length = 0 ∧ bc = 0) ∧ B.length ≤ 140737488351232) := by
    have hby : Bytes B := fun x hx => HA.out.bytes x (hm9 x hx)
    have ho10 : UOwn V10 V8.heap.size (.slice ba B.length bc) B := by
      rw [hV10]
      exact ho9.grown (n_setg _ _ _ _) (fun k hk => fun e => by
        cases e
        have := (ho9.base _ hk).1
        have := X8.out.q.lt
        omega)
    refine ⟨ho10, hby, X8.out.q.lt, ?_, hB9⟩
    rintro rfl
    rcases ho10 with ⟨j1, j2⟩ | ⟨g, cp, j1, _⟩
    · rw [j2] at j1 ⊢; cases j1; exact ⟨rfl, rfl⟩
    · cases j1
  clear HBD X8 O8 X9 O9 ho9 hd9 ht9 hm9 r8 s8
  go_upto_region 9 with fail
  rw [← hV10]
  clear hV10 y0 y1
  obtain ⟨q, bad, hR, hcase⟩ := S10.out
  have HR := vl hR
  have HCASE := vl hcase
  have HFT := vl (fault_any lb a len cap q bad V10 hR.mem)
  have k10 := X10.out.at
  unfold rptr at HFT
  clear hR hcase S10
  go_wp2_with fail
  refine HFT.out.mono ?_
  rintro e w11 ⟨rfl, rfl⟩
  clear HFT
  by_cases hx0 : bad = 0
  · subst hx0
    have HEQ : Vl (G = (0, ⟨unums m, unums p, unums h, fdsOf FL, B⟩, Z.drop q)) := by
      rcases HCASE.out with ⟨_, h1⟩ | ⟨h1, _⟩
      · exact h1
      · exact absurd rfl h1
    rw [if_neg (by omega), errW_0]
    have l0 := HR.out.mem.c1
    have hq1 := HR.out.le
    have l1 : (World.setRow V10.drew n0 #[.string m, .string p, .string h, .slice fa FL.length fc, .slice ba B.length bc]).cell? ⟨lb, 1, none⟩ = some (.int .i64 q) := (cell_setRow_other _ _ _ _ (by show lb ≠ n0; exact d1.symm)).trans l0
    have l0d : V10.drew.cell? ⟨lb, 1, none⟩ = some (.int .i64 q) := l0
    have l2 : (World.setRow V10.drew n0 #[.string m, .string p, .string h, .slice fa FL.length fc, .slice ba B.length bc]).cell? ⟨rb, 0, none⟩ = some (.pointer (some ⟨lb, 0, none⟩)) := (cell_setRow_other _ _ _ _ (by show rb ≠ n0; exact d3.symm)).trans k10
    have l2d : V10.drew.cell? ⟨rb, 0, none⟩ = some (.pointer (some ⟨lb, 0, none⟩)) := k10
    have mixed : Tryz.prog.follows Departure.mixedOrders = true := by kernel_rfl
    have YD : Vl (RB V10.drew n0 m p h (.slice fa FL.length fc) (.slice ba B.length bc)) := X10.out.q
    have HEND : Vl (∀ W, W = World.setRow V10.drew n0 #[.string m, .string p, .string h, .slice fa FL.length fc, .slice ba B.length bc] → RB W n0 m p h (.slice fa FL.length fc) (.slice ba B.length bc) ∧ Below w.heap.size w W ∧ FOwn W b6 (.slice fa FL.length fc) FL ∧ Arg W ba B.length bc B) := by
      rintro W rfl
      refine ⟨rq_row YD.out, u_below_grown (HR.out.below.drew) (row_grown _ _ _) HR.out.below.size (fun k hk => by cases hk; exact D5.out), ?_, ?_⟩
      · have ho : FOwn V10.drew b6 (.slice fa FL.length fc) FL := O10.out.kept (⟨rfl, rfl, rfl, Nat.le_refl _, fun _ _ _ => rfl⟩ : V10.grownBy V10.drew none) (by cases hv : (Value.slice fa FL.length fc).ownBlock <;> simp)
        exact World.ownsRow.kept ho (row_grown _ _ _) (Or.inr (fun e => by have := (ho.lt n0 e).1; have := HNB.out.1; omega))
      · have ho : UOwn V10.drew V8.heap.size (.slice ba B.length bc) B := A10.out.1.block (Nat.le_refl _) (fun _ _ => rfl)
        refine UOwn.arg (base := V8.heap.size) (ho.grown (row_grown _ _ _) (fun k hk e => ?_)) A10.out.2.1
        cases e
        have := (ho.base _ hk).1
        have := A10.out.2.2.1
        omega
    go_upto_region 12 with fail
    refine wp_region_any mixed ?_
    change wpAny _ _ _ _ _ _ _ (World.drew _)
    refine wpAny_cast (l' := #[false, false, false, false, false, false, false, false]) rfl ?_
    refine wpAny_ready (rs := [0, 1]) (by kernel_rfl) (by simp) ?_
    refine AllReady.cons rfl (fun K hK => ?_) (AllReady.cons rfl (fun K hK => ?_) AllReady.nil)
    refine step_rqload rfl (.tmp 2) rfl n0 m p h (.slice fa FL.length fc) (.slice ba B.length bc) rfl YD.out ?_
    go_simp
    refine hK _ _ ?_
    clear hK K
    refine wpAny_cast (l' := #[true, false, false, false, false, false, false, false]) rfl ?S0
    rotate_left
    go_simp
    refine hK _ _ ?_
    clear hK K
    refine wpAny_cast (l' := #[false, true, false, false, false, false, false, false]) rfl ?S1
    rotate_left
    refine wpAny_ready (rs := [1, 5]) (by kernel_rfl) (by simp) ?_
    refine AllReady.cons rfl (fun K hK => ?_) (AllReady.cons rfl (fun K hK => ?_) AllReady.nil)
    go_simp
    refine hK _ _ ?_
    clear hK K
    refine wpAny_cast (l' := #[true, true, false, false, false, false, false, false]) rfl ?S01
    rotate_left
    refine step_rqstore rfl (.tmp 2) (.tmp 38) rfl n0 _ _ _ m p h _ _ (.slice fa FL.length fc) (.slice ba B.length bc) rfl rfl YD.out rfl rfl ?_
    go_simp
    refine hK _ _ ?_
    clear hK K
    refine wpAny_cast (l' := #[true, false, false, false, false, true, false, false]) rfl ?S05
    rotate_left
    refine wpAny_ready (rs := [0, 2]) (by kernel_rfl) (by simp) ?_
    refine AllReady.cons rfl (fun K hK => ?_) (AllReady.cons rfl (fun K hK => ?_) AllReady.nil)
    refine step_rqload rfl (.tmp 2) rfl n0 m p h (.slice fa FL.length fc) (.slice ba B.length bc) rfl YD.out ?_
    go_simp
    refine hK _ _ ?_
    clear hK K
    refine wpAny_cast (l' := #[true, true, false, false, false, false, false, false]) rfl ?_
    exact ?S01
    go_simp
    refine hK _ _ ?_
    clear hK K
    refine wpAny_cast (l' := #[false, true, true, false, false, false, false, false]) rfl ?S12
    rotate_left
    refine wpAny_ready (rs := [2, 5]) (by kernel_rfl) (by simp) ?_
    refine AllReady.cons rfl (fun K hK => ?_) (AllReady.cons rfl (fun K hK => ?_) AllReady.nil)
    go_simp
    refine hK _ _ ?_
    clear hK K
    refine wpAny_cast (l' := #[true, true, true, false, false, false, false, false]) rfl ?S012
    rotate_left
    refine step_rqstore rfl (.tmp 2) (.tmp 38) rfl n0 _ _ _ m p h _ _ (.slice fa FL.length fc) (.slice ba B.length bc) rfl rfl YD.out rfl rfl ?_
    go_simp
    refine hK _ _ ?_
    clear hK K
    refine wpAny_cast (l' := #[true, true, false, false, false, true, false, false]) rfl ?S015
    rotate_left
    refine wpAny_ready (rs := [1]) (by kernel_rfl) (by simp) ?_
    refine AllReady.cons rfl (fun K hK => ?_) AllReady.nil
    go_simp
    refine hK _ _ ?_
    clear hK K
    refine wpAny_cast (l' := #[true, true, false, false, false, true, false, false]) rfl ?_
    exact ?S015
    refine wpAny_ready (rs := [0, 3]) (by kernel_rfl) (by simp) ?_
    refine AllReady.cons rfl (fun K hK => ?_) (AllReady.cons rfl (fun K hK => ?_) AllReady.nil)
    refine step_rqload rfl (.tmp 2) rfl n0 m p h (.slice fa FL.length fc) (.slice ba B.length bc) rfl YD.out ?_
    go_simp
    refine hK _ _ ?_
    clear hK K
    refine wpAny_cast (l' := #[true, true, true, false, false, false, false, false]) rfl ?_
    exact ?S012
    go_simp
    refine hK _ _ ?_
    clear hK K
    refine wpAny_cast (l' := #[false, true, true, true, false, false, false, false]) rfl ?S123
    rotate_left
    refine wpAny_ready (rs := [3, 5]) (by kernel_rfl) (by simp) ?_
    refine AllReady.cons rfl (fun K hK => ?_) (AllReady.cons rfl (fun K hK => ?_) AllReady.nil)
    go_simp
    refine hK _ _ ?_
    clear hK K
    refine wpAny_cast (l' := #[true, true, true, true, false, false, false, false]) rfl ?S0123
    rotate_left
    refine step_rqstore rfl (.tmp 2) (.tmp 38) rfl n0 _ _ _ m p h _ _ (.slice fa FL.length fc) (.slice ba B.length bc) rfl rfl YD.out rfl rfl ?_
    go_simp
    refine hK _ _ ?_
    clear hK K
    refine wpAny_cast (l' := #[true, true, true, false, false, true, false, false]) rfl ?S0125
    rotate_left
    refine wpAny_ready (rs := [2]) (by kernel_rfl) (by simp) ?_
    refine AllReady.cons rfl (fun K hK => ?_) AllReady.nil
    go_simp
    refine hK _ _ ?_
    clear hK K
    refine wpAny_cast (l' := #[true, true, true, false, false, true, false, false]) rfl ?_
    exact ?S0125
    refine wpAny_ready (rs := [0, 4]) (by kernel_rfl) (by simp) ?_
    refine AllReady.cons rfl (fun K hK => ?_) (AllReady.cons rfl (fun K hK => ?_) AllReady.nil)
    refine step_rqload rfl (.tmp 2) rfl n0 m p h (.slice fa FL.length fc) (.slice ba B.length bc) rfl YD.out ?_
    go_simp
    refine hK _ _ ?_
    clear hK K
    refine wpAny_cast (l' := #[true, true, true, true, false, false, false, false]) rfl ?_
    exact ?S0123
    go_simp
    refine hK _ _ ?_
    clear hK K
    refine wpAny_cast (l' := #[false, true, true, true, true, false, false, false]) rfl ?S1234
    rotate_left
    refine wpAny_ready (rs := [4, 5]) (by kernel_rfl) (by simp) ?_
    refine AllReady.cons rfl (fun K hK => ?_) (AllReady.cons rfl (fun K hK => ?_) AllReady.nil)
    go_simp
    refine hK _ _ ?_
    clear hK K
    refine wpAny_cast (l' := #[true, true, true, true, true, false, false, false]) rfl ?S01234
    rotate_left
    refine step_rqstore rfl (.tmp 2) (.tmp 38) rfl n0 _ _ _ m p h _ _ (.slice fa FL.length fc) (.slice ba B.length bc) rfl rfl YD.out rfl rfl ?_
    go_simp
    refine hK _ _ ?_
    clear hK K
    refine wpAny_cast (l' := #[true, true, true, true, false, true, false, false]) rfl ?S01235
    rotate_left
    refine wpAny_ready (rs := [3]) (by kernel_rfl) (by simp) ?_
    refine AllReady.cons rfl (fun K hK => ?_) AllReady.nil
    go_simp
    refine hK _ _ ?_
    clear hK K
    refine wpAny_cast (l' := #[true, true, true, true, false, true, false, false]) rfl ?_
    exact ?S01235
    refine wpAny_ready (rs := [0]) (by kernel_rfl) (by simp) ?_
    refine AllReady.cons rfl (fun K hK => ?_) AllReady.nil
    refine step_rqload rfl (.tmp 2) rfl n0 m p h (.slice fa FL.length fc) (.slice ba B.length bc) rfl YD.out ?_
    go_simp
    refine hK _ _ ?_
    clear hK K
    refine wpAny_cast (l' := #[true, true, true, true, true, false, false, false]) rfl ?_
    exact ?S01234
    refine wpAny_ready (rs := [5]) (by kernel_rfl) (by simp) ?_
    refine AllReady.cons rfl (fun K hK => ?_) AllReady.nil
    refine step_rqstore rfl (.tmp 2) (.tmp 38) rfl n0 _ _ _ m p h _ _ (.slice fa FL.length fc) (.slice ba B.length bc) rfl rfl YD.out rfl rfl ?_
    go_simp
    refine hK _ _ ?_
    clear hK K
    refine wpAny_cast (l' := #[true, true, true, true, true, true, false, false]) rfl ?S012345
    rotate_left
    refine wpAny_ready (rs := [4]) (by kernel_rfl) (by simp) ?_
    refine AllReady.cons rfl (fun K hK => ?_) AllReady.nil
    go_simp
    refine hK _ _ ?_
    clear hK K
    refine wpAny_cast (l' := #[true, true, true, true, true, true, false, false]) rfl ?_
    exact ?S012345
    refine wpAny_ready (rs := [6]) (by kernel_rfl) (by simp) ?_
    refine AllReady.cons rfl (fun K hK => ?_) AllReady.nil
    go_simp
    refine hK _ _ ?_
    clear hK K
    refine wpAny_cast (l' := #[true, true, true, true, true, true, true, false]) rfl ?S0123456
    rotate_left
    refine wpAny_ready (rs := [7]) (by kernel_rfl) (by simp) ?_
    refine AllReady.cons rfl (fun K hK => ?_) AllReady.nil
    go_simp
    refine hK _ _ ?_
    clear hK K
    refine wpAny_cast (l' := #[true, true, true, true, true, true, true, true]) rfl ?S01234567
    rotate_left
    refine wpAny_done (by kernel_rfl) ?_ _
    clear YD mixed l0 l1 l0d l2 l2d X10 O10
    obtain ⟨W, hW⟩ : ∃ W, W = World.setRow V10.drew n0 #[.string m, .string p, .string h, .slice fa FL.length fc, .slice ba B.length bc] := ⟨_, rfl⟩
    obtain ⟨hRW, hBW, hOW, hAW⟩ := HEND.out W hW
    rw [← hW]
    clear hW HEND
    obtain ⟨z0, z1, z2, z3, z4⟩ := hRW.cells
    simp only [Exit.then]
    refine ‹∀ (a : Act) (w : World), Code.wp _ Code.ret _ a w → _› _ _ ?_
    refine wp_ret ?_
    try simp only [Exit.then]
    change bodyPost Tryz.prog Tryz.f4 (DAskAns Z w) Exit.ret _ _
    refine bodyPost_ret (v := .tuple #[.agg #[.string m, .string p, .string h, .slice fa FL.length fc, .slice ba B.length bc], .int .i64 q, .nilIface]) (by simp [results, Tryz.results4, go_sem, z0, z1, z2, z3, z4]; try rfl) rfl ?_
    have hend : endF askP Z = (0, ⟨unums m, unums p, unums h, fdsOf FL, B⟩, (q : Int)) := by
      rw [endF_ok (HG.out.symm.trans HEQ.out), hzl]
      congr 2
      simp
      omega
    unfold DAskAns
    rw [hend]
    obtain ⟨_, hfa⟩ := nfrow_of hOW
    exact ⟨⟨m, p, h, fa, FL.length, fc, ba, B.length, bc, FL, B⟩, rfl, ⟨hfa, hAW, A10.out.2.2.2.1, ⟨by show FL.length ≤ _; omega, A10.out.2.2.2.2⟩, ⟨by show m.size ≤ _; omega, by show p.size ≤ _; omega, by show h.size ≤ _; omega⟩, fsmall_at HFS.out⟩, rfl, hBW⟩
  · obtain ⟨x, hx⟩ : ∃ x, x = if bad = 8 ∧ 20000 < len then 4 else bad := ⟨_, rfl⟩
    have hxn : x ≠ 0 := by
      rw [hx]
      split <;> omega
    have HE : Vl (endF askP Z = (x, default, 0)) := by
      rcases HCASE.out with ⟨h1, _⟩ | ⟨_, h1⟩
      · exact absurd h1 hx0
      · have hg : (askP Z).1 = bad := by rw [← HG.out]; exact h1
        unfold endF
        rw [hg, if_neg hx0, hzl, hx]
        split <;> rfl
    rw [← hx, errW_ne hxn]
    have HXN := vl hxn
    have YQ := vl X10.out.q
    clear hx hx0 hxn HCASE k10 X10
    go_wp2_with (refine wpList_rqstore _ rfl _ _ rfl n0 _ _ _ ⟨#[]⟩ ⟨#[]⟩ ⟨#[]⟩ _ _ (.slice none 0 0) (.slice none 0 0) rfl rfl YQ.out rfl rfl ?_)
    intro w12 hR hg12
    have HB12 : Vl (Below w.heap.size w w12) := u_below_grown HR.out.below hg12 HR.out.below.size (fun k hk => by cases hk; exact D5.out)
    obtain ⟨z0, z1, z2, z3, z4⟩ := hR.cells
    clear hR hg12 YQ O10 HR
    go_simp
    refine wpList_plain rfl fun K hK => ?_
    go_simp
    refine hK _ _ ?_
    clear hK K
    refine wpList_plain rfl fun K hK => ?_
    go_simp
    refine hK _ _ ?_
    clear hK K
    simp only [wpList, Exit.then]
    refine ‹∀ (a : Act) (w : World), Code.wp _ Code.ret _ a w → _› _ _ ?_
    refine wp_ret ?_
    try simp only [Exit.then]
    change bodyPost Tryz.prog Tryz.f4 (DAskAns Z w) Exit.ret _ _
    refine bodyPost_ret (v := .tuple #[.agg #[.string ⟨#[]⟩, .string ⟨#[]⟩, .string ⟨#[]⟩, .slice none 0 0, .slice none 0 0], .int .i64 0, .iface 57 (.int .i64 x)]) (by simp [results, Tryz.results4, go_sem, z0, z1, z2, z3, z4]; try rfl) rfl ?_
    unfold DAskAns
    rw [HE.out]
    exact ⟨⟨⟨#[]⟩, ⟨#[]⟩, ⟨#[]⟩, none, 0, 0, none, 0, 0, [], []⟩, by rw [errW_ne HXN.out]; rfl, ⟨Or.inl ⟨rfl, rfl⟩, Or.inl ⟨rfl, rfl⟩, fun _ => ⟨rfl, rfl⟩, ⟨Nat.zero_le _, Nat.zero_le _⟩, ⟨Nat.zero_le _, Nat.zero_le _, Nat.zero_le _⟩, fun t => ⟨Nat.zero_le _, Nat.zero_le _⟩⟩, rfl, HB12.out⟩
theorem nreadask_any : NReadAskSaid nld := fun a len cap Z w _ hA hnil hl => nreadask_ans a len cap Z w hA hnil hl
end Go.Proofs.YtkaihfminlincafGreatDoor
/-
  MESSAGES AS LINES: the developers' pieces. No claim by itself.
-/
namespace Go.Proofs.YtkaihfminlincafGreatDoor
open Go Go.RowKit Go.Shelf
set_option maxRecDepth 100000
/-- What is told of a body that was read. -/
def BdT {β : Type} (G : Int × β × List Int) (f : List Int → Pz β) (w0 wx : World) (lb : Nat) (a : Option Addr) (len cap : Nat) (Z : List Int) (e : Ending) (w' : World) : Prop :=
  ∃ v B, e = .returned v ∧ UOwn w' wx.heap.size v B ∧ Dst G (f B) w0 w' lb a len cap Z ∧ Tr lb wx w' ∧ (B.length ≤ 140737488351232 ∧ ∀ x ∈ B, x ∈ Z)
section
variable {β : Type} [Inhabited β] {G : Int × β × List Int} {w0 wx : World} {lb : Nat} {a : Option Addr} {len cap : Nat} {Z : List Int}
set_option maxHeartbeats 2000000 in
theorem pieces_st {f : List Int → Pz β} (h : Dst G (bindP unchP f) w0 wx lb a len cap Z) : Calls Tryz.prog 38 #[rptr lb] wx (BdT G f w0 wx lb a len cap Z) := by
  obtain ⟨q, bad, hR, hG⟩ := h
  have c2 := hR.mem.c2
  by_cases hbad : bad = 0
  case neg =>
    have HD : Vl (Dst G (f []) w0 wx lb a len cap Z) := ⟨q, bad, hR, Or.inr (hG.resolve_left (fun h => hbad h.1))⟩
    rw [errW_ne hbad] at c2
    unfold rptr
    clear hR hG hbad
    go_enter Tryz.func38, Tryz.ntmps38
    go_wp2
    go_ret
    exact ⟨_, [], rfl, Or.inl ⟨rfl, rfl⟩, HD.out, Tr.refl _ _, by simp, fun x hx => by cases hx⟩
  subst hbad
  rw [errW_0] at c2
  have hg : G = bindP unchP f (Z.drop q) := by
    rcases hG with ⟨_, h⟩ | ⟨h, _⟩
    · exact h
    · exact absurd rfl h
  have c0 := hR.mem.c0
  have c1 := hR.mem.c1
  have hle := hR.le
  have hlt := hR.lt
  have hm := hR.most
  have hz := hR.zlen
  have hct := run_cut_l a len cap q hle
  have hda : ∀ W, Below wx.heap.size wx W → Arg W (cutA a cap q) (len - q) (cap - q) (Z.drop q) := fun W hb => by
    have := ((hR.on hb).now).part q (len - q) (by omega)
    rw [List.take_of_length_le (by rw [List.length_drop, hz]; omega)] at this
    exact this
  obtain ⟨x, B, u, hun, hcase⟩ : ∃ x B u, unchF (Z.drop q) = (x, B, u) ∧ ((x ≠ 0 ∧ B = [] ∧ u = 0 ∧ G.1 = x) ∨ (x = 0 ∧ ∃ k : Nat, u = k ∧ q + k ≤ len ∧ B.length ≤ 8000 ∧ (∀ y ∈ B, y ∈ Z) ∧ G = f B (Z.drop (q + k)))) := by
    rcases unch_is (Z.drop q) with ⟨e, h1, h2, h3⟩ | ⟨B, u, h1, h2, h3, h4, h5⟩
    · refine ⟨e, [], 0, h2, Or.inl ⟨h1, rfl, rfl, ?_⟩⟩
      rw [hg, bindP_no (by rw [h3]; exact h1), h3]
    · refine ⟨0, B, u, h1, Or.inr ⟨rfl, u, rfl, ?_, h4, fun y hy => List.mem_of_mem_drop (h5 y hy), ?_⟩⟩
      · rw [List.length_drop, hz] at h3; omega
      · rw [hg, bindP_ok h2, List.drop_drop]
  have HU : Vl (∀ W, Below wx.heap.size wx W → Calls Tryz.prog 65 #[.slice (cutA a cap q) (len - q) (cap - q)] W fun e w' => ∃ v, e = .returned (.tuple #[v, .int .i64 u, errW x]) ∧ UOwn w' W.heap.size v B ∧ Below W.heap.size W w') := fun W hb => by
    have := udec_any (cutA a cap q) (len - q) (cap - q) (Z.drop q) W (hda W hb) (by omega)
    rw [hun] at this
    exact this
  have HR := vl hR
  have HC := vl hcase
  unfold ULim at hm
  have hub : 0 ≤ u ∧ q + u ≤ len := by
    rcases hcase with ⟨_, _, h, _⟩ | ⟨_, k, h, _⟩ <;> omega
  have HK : Vl (∀ W, Below wx.heap.size wx W → W.cell? ⟨lb, 0, none⟩ = some (.slice a len cap) ∧ W.cell? ⟨lb, 1, none⟩ = some (.int .i64 (q : Int))) := fun W hb => ⟨(hb.cell (p := ⟨lb, 0, none⟩) hlt).trans c0, (hb.cell (p := ⟨lb, 1, none⟩) hlt).trans c1⟩
  obtain ⟨ca, hca⟩ : ∃ ca, cutA a cap q = ca := ⟨_, rfl⟩
  rw [hca] at HU hct
  unfold rptr
  clear hR hG hg hda hcase hun hca
  go_enter Tryz.func38, Tryz.ntmps38
  go_wp2_with fail
  go_region_held3 (fun W => W.cell? ⟨lb, 0, none⟩ = some (.slice a len cap) ∧ W.cell? ⟨lb, 1, none⟩ = some (.int .i64 (q : Int)))
    (first | exact HK.out _ (Below.refl _ wx).drew | exact HK.out _ ((Below.refl _ wx).drew.trans hb))
    ((go_at_call 65; refine (HU.out _ (Below.refl _ wx).drew).mono ?_; rintro e w1 ⟨v, rfl, ho, hb⟩))
  have hb1 : Below wx.heap.size wx w1 := (Below.refl _ wx).drew.trans hb
  have HS1 := vl (HR.out.on hb1)
  have HO1 : Vl (UOwn w1 wx.heap.size v B) := ho
  have HT1 : Vl (Tr lb wx w1) := Tr.of hb1
  have HBX : Vl (∀ k, v.ownBlock = some k → k ≠ lb) := fun k hk => by have := (HO1.out.base k hk).1; omega
  obtain ⟨va, vc, rfl, _, _⟩ := HO1.out.slice
  have k1 := HS1.out.mem.c1
  have k2 := HS1.out.mem.c2
  have g1 := HS1.out.mem.f1
  have g2 := HS1.out.mem.f2
  rw [errW_0] at k2
  clear ho hb hb1 HU HK c0 c1 c2 hct
  obtain ⟨k, hk, hkl⟩ : ∃ k : Nat, u = k ∧ q + k ≤ len := ⟨u.toNat, by omega, by omega⟩
  subst hk
  have HS2 := vl (HS1.out.at (q := q + k) hkl)
  have hadd : ((q + k : Nat) : Int) = (q : Int) + (k : Int) := by omega
  rw [hadd] at HS2
  have HS3 := vl (HS2.out.wrong x)
  have HT3 : Vl (Tr lb wx ((w1.setCell ⟨lb, 1, none⟩ (.int .i64 ((q : Int) + (k : Int)))).setCell ⟨lb, 2, none⟩ (errW x))) := HT1.out.set.set
  have HO3 : Vl (UOwn ((w1.setCell ⟨lb, 1, none⟩ (.int .i64 ((q : Int) + (k : Int)))).setCell ⟨lb, 2, none⟩ (errW x)) wx.heap.size (.slice va B.length vc) B) := (HO1.out.grown (n_setg _ _ _ _) (fun j hj e => by cases e; exact HBX.out _ hj rfl)).grown (n_setg _ _ _ _) (fun j hj e => by cases e; exact HBX.out _ hj rfl)
  have m2 := HS2.out.mem.c2
  have n2 := HS2.out.mem.f2
  rw [errW_0] at m2
  clear HS1 HS2 HT1 HO1 HBX HR
  rcases HC.out with ⟨hx, hB, hu, hg⟩ | ⟨hx, k', hk', hl', hB, hm', hg⟩
  · have HD : Vl (Dst G (f B) w0 ((w1.setCell ⟨lb, 1, none⟩ (.int .i64 ((q : Int) + (k : Int)))).setCell ⟨lb, 2, none⟩ (errW x)) lb a len cap Z) := ⟨q + k, x, HS3.out, Or.inr ⟨hx, hg⟩⟩
    have HB : Vl (B.length ≤ 140737488351232 ∧ ∀ y ∈ B, y ∈ Z) := by rw [hB]; exact ⟨by simp, fun y hy => by cases hy⟩
    rw [errW_ne hx] at HD HT3 HO3 ⊢
    clear hx hB hu hg HC HS3
    go_wp2
    go_ret
    exact ⟨_, B, rfl, HO3.out, HD.out, HT3.out, HB.out⟩
  · have HD : Vl (Dst G (f B) w0 ((w1.setCell ⟨lb, 1, none⟩ (.int .i64 ((q : Int) + (k : Int)))).setCell ⟨lb, 2, none⟩ (errW x)) lb a len cap Z) := ⟨q + k, x, HS3.out, Or.inl ⟨hx, by rw [hg, show k' = k by omega]⟩⟩
    have HB : Vl (B.length ≤ 140737488351232 ∧ ∀ y ∈ B, y ∈ Z) := ⟨by omega, hm'⟩
    rw [hx, errW_0] at HD HT3 HO3 ⊢
    clear hx hB hk' hl' hm' hg HC HS3
    go_wp2
    go_ret
    exact ⟨_, B, rfl, HO3.out, HD.out, HT3.out, HB.out⟩
end
end Go.Proofs.YtkaihfminlincafGreatDoor
/-
  MESSAGES AS LINES: the developers' ReadTell: how its body is read, and the function that reads the last line. No claim by itself.
-/
namespace Go.Proofs.YtkaihfminlincafGreatDoor
open Go Go.RowKit Go.Shelf
set_option maxRecDepth 100000
attribute [local go_sem] run_store_func run_store_nilFunc
/-- How the body is read, in memory. -/
def BdF (lb rb cb : Nat) (v : Int × Bool) (F : Value) (W : World) : Prop :=
  (v = (-1, false) ∧ F = .func (.func 34) #[] #[.pointer (some ⟨rb, 0, none⟩), .pointer (some ⟨cb, 0, none⟩)]) ∨
  (∃ (sb : Nat) (n : Int), F = .func (.func 37) #[] #[.pointer (some ⟨rb, 0, none⟩), .pointer (some ⟨sb, 0, none⟩)] ∧ W.heap[sb]? = some (.cells #[.int .i64 n] 3 (0, 0)) ∧ sb ≠ lb ∧ v.2 = false ∧ -100000 ≤ n ∧ n ≤ 100000 ∧ (v.1 = -2 ∨ (0 ≤ n ∧ v.1 = n))) ∨
  (v = (-1, true) ∧ F = .func (.func 38) #[.pointer (some ⟨lb, 0, none⟩)] #[])
structure CapT (lb rb cb fb : Nat) (closed : Bool) (v : Int × Bool) (W : World) : Prop where
  r : W.heap[rb]? = some (.cells #[rptr lb] 41 (0, 0))
  c : W.heap[cb]? = some (.cells #[.bool closed] 4 (0, 0))
  f : ∃ F, W.heap[fb]? = some (.cells #[F] 68 (0, 0)) ∧ BdF lb rb cb v F W
section
variable {β : Type} [Inhabited β] {G : Int × β × List Int} {w0 W : World} {lb : Nat} {a : Option Addr} {len cap : Nat} {Z : List Int}
theorem nrt1_st {f : List Int → Pz β} (rb cb : Nat) (closed : Bool) (hr : W.heap[rb]? = some (.cells #[rptr lb] 41 (0, 0))) (hc : W.heap[cb]? = some (.cells #[.bool closed] 4 (0, 0))) (hcl : closed = true → len ≤ 140737488351232) (hnil : a = none → len = 0) (h : Dst G (bindP (restP closed) f) w0 W lb a len cap Z) :
    Calls Tryz.prog 34 #[.pointer (some ⟨rb, 0, none⟩), .pointer (some ⟨cb, 0, none⟩)] W (BdT G f w0 W lb a len cap Z) := by
  have H1 := vl (rest_st closed hcl hnil h)
  have k1 := (o1 hr).1
  have k2 := (o1 hc).1
  unfold rptr at k1 H1
  clear h hr hc
  go_enter Tryz.func34, Tryz.ntmps34
  go_wp2_with fail
  refine H1.out.mono ?_
  rintro e w1 ⟨v, B, rfl, h1⟩
  have HH := vl h1
  clear h1 H1
  go_wp2
  go_ret
  exact ⟨v, B, rfl, HH.out⟩
theorem nrt21_st {f : List Int → Pz β} (rb sb : Nat) (n : Int) (hr : W.heap[rb]? = some (.cells #[rptr lb] 41 (0, 0))) (hs : W.heap[sb]? = some (.cells #[.int .i64 n] 3 (0, 0))) (hn : -100000 ≤ n ∧ n ≤ 140737488351232) (hnil : a = none → len = 0) (h : Dst G (bindP (bodyP n.toNat) f) w0 W lb a len cap Z) (hpos : 0 ≤ n ∨ ∃ q bad, RS w0 W lb a len cap Z q bad ∧ bad ≠ 0) :
    Calls Tryz.prog 37 #[.pointer (some ⟨rb, 0, none⟩), .pointer (some ⟨sb, 0, none⟩)] W (BdT G f w0 W lb a len cap Z) := by
  have H1 := vl (body_st n hn hnil h hpos)
  have k1 := (o1 hr).1
  have k2 := (o1 hs).1
  unfold rptr at k1 H1
  clear h hr hs hpos
  go_enter Tryz.func37, Tryz.ntmps37
  go_wp2_with fail
  refine H1.out.mono ?_
  rintro e w1 ⟨v, B, rfl, h1⟩
  have HH := vl h1
  clear h1 H1
  go_wp2
  go_ret
  exact ⟨v, B, rfl, HH.out⟩
theorem nrt2_no (rb fb : Nat) (n : ByteArray) (W : World) (hn : unums n ≠ lengthN) (hn2 : unums n ≠ codingN) : Calls Tryz.prog 36 #[.string n, .pointer (some ⟨rb, 0, none⟩), .pointer (some ⟨fb, 0, none⟩)] W fun e w' => e = .returned (.bool false) ∧ Below W.heap.size W w' := by
  have q2 : ¬ n.toList = [108, 101, 110, 103, 116, 104] := fun e => hn (toL_length.1 e)
  have q2' : (n.toList == [108, 101, 110, 103, 116, 104]) = false := by simpa using q2
  have q3 : ¬ n.toList = [99, 111, 100, 105, 110, 103] := fun e => hn2 (toL_coding.1 e)
  have q3' : (n.toList == [99, 111, 100, 105, 110, 103]) = false := by simpa using q3
  go_enter Tryz.func36, Tryz.ntmps36
  go_wp2
  go_ret
  exact ⟨rfl, Below.refl _ _⟩
set_option maxHeartbeats 2000000 in
theorem nrt2_len (rb cb fb : Nat) (closed : Bool) (d1 : rb ≠ lb) (d2 : cb ≠ lb) (d3 : fb ≠ lb) (d4 : rb ≠ fb) (d5 : cb ≠ fb) (d6 : w0.heap.size ≤ fb) (f : Int × Bool → Pz β) (n : ByteArray) (hn : unums n = lengthN) (hc : CapT lb rb cb fb closed (-1, false) W) (h : Dst G (bindP (bindP (lenQ 0) fun v => retP (v, false)) f) w0 W lb a len cap Z) :
    Calls Tryz.prog 36 #[.string n, .pointer (some ⟨rb, 0, none⟩), .pointer (some ⟨fb, 0, none⟩)] W fun e w' => e = .returned (.bool true) ∧ ∃ v, Dst G (f v) w0 w' lb a len cap Z ∧ CapT lb rb cb fb closed v w' ∧ Tn (fun k => k = lb ∨ k = rb ∨ k = cb ∨ k = fb) W w' := by
  have q2 : n.toList = [108, 101, 110, 103, 116, 104] := toL_length.2 hn
  have H1 := vl (length_st 0 (by omega) (h.to (fun b => len_lenK (G := G) (by omega) b)))
  obtain ⟨F, hF, _⟩ := hc.f
  have r0 := (o1 hc.r).1
  have HR := vl hc.r
  have HC := vl hc.c
  have HF := vl hF
  have hlt := h.lt
  unfold rptr at H1 r0
  clear hc h hn hF
  go_enter Tryz.func36, Tryz.ntmps36
  go_wp2_with fail
  refine H1.out.mono ?_
  rintro e w1 ⟨x, rfl, x1, x2, hd, ht⟩
  have hf1 : w1.heap[fb]? = some (.cells #[F] 68 (0, 0)) := (ht.block fb (Array.getElem?_eq_some_iff.1 HF.out).1 d3).trans HF.out
  have hr1 : w1.heap[rb]? = some (.cells #[rptr lb] 41 (0, 0)) := (ht.block rb (Array.getElem?_eq_some_iff.1 HR.out).1 d1).trans HR.out
  have hc1 : w1.heap[cb]? = some (.cells #[.bool closed] 4 (0, 0)) := (ht.block cb (Array.getElem?_eq_some_iff.1 HC.out).1 d2).trans HC.out
  have l1 := (Array.getElem?_eq_some_iff.1 hf1).1
  have l2 := (Array.getElem?_eq_some_iff.1 hr1).1
  have l3 := (Array.getElem?_eq_some_iff.1 hc1).1
  have hb2 : Below w1.heap.size w1 (w1.alloc (.cells #[.int .i64 x] 3)) := (Below.refl _ _).alloc (Nat.le_refl _) _
  have hf2 := (hb2.block fb l1).trans hf1
  have hr2 := (hb2.block rb l2).trans hr1
  have hc2 := (hb2.block cb l3).trans hc1
  have hs2 : (w1.alloc (.cells #[.int .i64 x] 3)).heap[w1.heap.size]? = some (.cells #[.int .i64 x] 3 (0, 0)) := heap_alloc_new w1 _
  obtain ⟨sb, hsb⟩ : ∃ sb, sb = w1.heap.size := ⟨_, rfl⟩
  obtain ⟨W2, hW2⟩ : ∃ W2, W2 = w1.alloc (.cells #[.int .i64 x] 3) := ⟨_, rfl⟩
  rw [← hsb] at hs2
  rw [← hW2] at hf2 hr2 hc2 hs2 hb2
  have s1 := (o1 hf2).2
  have s2 := (o1 hf2).1
  obtain ⟨V, hV⟩ : ∃ V, V = W2.setCell ⟨fb, 0, none⟩ (.func (.func 37) #[] #[.pointer (some ⟨rb, 0, none⟩), .pointer (some ⟨sb, 0, none⟩)]) := ⟨_, rfl⟩
  have hltl : lb < w1.heap.size := Nat.lt_of_lt_of_le hlt ht.size
  have HD : Vl (∃ v, Dst G (f v) w0 V lb a len cap Z ∧ CapT lb rb cb fb closed v V ∧ Tn (fun k => k = lb ∨ k = rb ∨ k = cb ∨ k = fb) W V) := by
    have hd2 := (hd.on hb2).set (y := fb) (i := 0) (v := .func (.func 37) #[] #[.pointer (some ⟨rb, 0, none⟩), .pointer (some ⟨sb, 0, none⟩)]) d6 d3
    rw [← hV] at hd2
    have e1 : V.heap[rb]? = some (.cells #[rptr lb] 41 (0, 0)) := by rw [hV]; exact (Below.heap_setCell _ _ _ _ d4).trans hr2
    have e2 : V.heap[cb]? = some (.cells #[.bool closed] 4 (0, 0)) := by rw [hV]; exact (Below.heap_setCell _ _ _ _ d5).trans hc2
    have e3 : V.heap[fb]? = some (.cells #[.func (.func 37) #[] #[.pointer (some ⟨rb, 0, none⟩), .pointer (some ⟨sb, 0, none⟩)]] 68 (0, 0)) := by rw [hV]; simp [World.setCell, Array.getElem?_modify, hf2]
    have e4 : V.heap[sb]? = some (.cells #[.int .i64 x] 3 (0, 0)) := by rw [hV]; exact (Below.heap_setCell _ _ _ _ (by show sb ≠ fb; omega)).trans hs2
    have e5 : Tn (fun k => k = lb ∨ k = rb ∨ k = cb ∨ k = fb) W V := by
      rw [hV]
      exact tn_trans (tn_trans (tn_tr (Or.inl rfl) ht) (tn_tr (lb := lb) (Or.inl rfl) (Tr.of hb2))) ⟨rfl, rfl, rfl, by simp [World.setCell], fun k _ hk => Below.heap_setCell _ _ _ _ (fun e => hk (Or.inr (Or.inr (Or.inr e))))⟩
    unfold lenK at hd2
    by_cases hx : x < 0
    · rw [if_pos hx] at hd2
      obtain ⟨q, bad, k1, k2, k3⟩ := hd2.never
      exact ⟨(-2, false), Dst.any k1 k2 k3, ⟨e1, e2, _, e3, Or.inr (Or.inl ⟨sb, x, rfl, e4, by omega, rfl, by omega, by omega, Or.inl rfl⟩)⟩, e5⟩
    · rw [if_neg hx] at hd2
      exact ⟨(x, false), hd2, ⟨e1, e2, _, e3, Or.inr (Or.inl ⟨sb, x, rfl, e4, by omega, rfl, by omega, by omega, Or.inr ⟨by omega, rfl⟩⟩)⟩, e5⟩
  have EW := vl hW2
  have ES := vl hsb
  have EV := vl hV
  clear hd ht hf1 hr1 hc1 hf2 hr2 hc2 hs2 hb2 H1 l1 l2 l3 hltl hV hW2 hsb
  go_upto_region 5 with fail
  rw [← EW.out, ← ES.out]
  clear EW ES
  go_wp2_with fail
  rw [← EV.out]
  clear EV
  go_wp2
  go_ret
  exact ⟨rfl, HD.out⟩
set_option maxHeartbeats 2000000 in
theorem nrt2_cod (rb cb fb : Nat) (closed : Bool) (d1 : rb ≠ lb) (d2 : cb ≠ lb) (d3 : fb ≠ lb) (d4 : rb ≠ fb) (d5 : cb ≠ fb) (d6 : w0.heap.size ≤ fb) (f : Int × Bool → Pz β) (n : ByteArray) (hn : unums n = codingN) (hc : CapT lb rb cb fb closed (-1, false) W) (h : Dst G (bindP (bindP (mtsP chunkedQ) fun _ => retP (-1, true)) f) w0 W lb a len cap Z) :
    Calls Tryz.prog 36 #[.string n, .pointer (some ⟨rb, 0, none⟩), .pointer (some ⟨fb, 0, none⟩)] W fun e w' => e = .returned (.bool true) ∧ ∃ v, Dst G (f v) w0 w' lb a len cap Z ∧ CapT lb rb cb fb closed v w' ∧ Tn (fun k => k = lb ∨ k = rb ∨ k = cb ∨ k = fb) W w' := by
  have q3 : n.toList = [99, 111, 100, 105, 110, 103] := toL_coding.2 hn
  rw [bind_assoc] at h
  have H1 := vl (word_st (s := ⟨#[32, 99, 104, 117, 110, 107, 101, 100, 13, 10]⟩) (by decide) (show Dst G (bindP (mtsP (unums ⟨#[32, 99, 104, 117, 110, 107, 101, 100, 13, 10]⟩)) _) w0 W lb a len cap Z from h))
  obtain ⟨F, hF, _⟩ := hc.f
  have r0 := (o1 hc.r).1
  have HR := vl hc.r
  have HC := vl hc.c
  have HF := vl hF
  unfold rptr at H1 r0
  clear hc h hn hF
  go_enter Tryz.func36, Tryz.ntmps36
  go_wp2_with fail
  refine H1.out.mono ?_
  rintro e w1 ⟨rfl, hd, ht⟩
  have hf1 : w1.heap[fb]? = some (.cells #[F] 68 (0, 0)) := (ht.block fb (Array.getElem?_eq_some_iff.1 HF.out).1 d3).trans HF.out
  have hr1 : w1.heap[rb]? = some (.cells #[rptr lb] 41 (0, 0)) := (ht.block rb (Array.getElem?_eq_some_iff.1 HR.out).1 d1).trans HR.out
  have hc1 : w1.heap[cb]? = some (.cells #[.bool closed] 4 (0, 0)) := (ht.block cb (Array.getElem?_eq_some_iff.1 HC.out).1 d2).trans HC.out
  have s1 := (o1 hf1).2
  have s2 := (o1 hf1).1
  have r1 := (o1 hr1).1
  unfold rptr at r1
  obtain ⟨V, hV⟩ : ∃ V, V = w1.setCell ⟨fb, 0, none⟩ (.func (.func 38) #[.pointer (some ⟨lb, 0, none⟩)] #[]) := ⟨_, rfl⟩
  have HD : Vl (∃ v, Dst G (f v) w0 V lb a len cap Z ∧ CapT lb rb cb fb closed v V ∧ Tn (fun k => k = lb ∨ k = rb ∨ k = cb ∨ k = fb) W V) := by
    have hd2 := hd.set (y := fb) (i := 0) (v := .func (.func 38) #[.pointer (some ⟨lb, 0, none⟩)] #[]) d6 d3
    rw [← hV, bind_ret] at hd2
    have e1 : V.heap[rb]? = some (.cells #[rptr lb] 41 (0, 0)) := by rw [hV]; exact (Below.heap_setCell _ _ _ _ d4).trans hr1
    have e2 : V.heap[cb]? = some (.cells #[.bool closed] 4 (0, 0)) := by rw [hV]; exact (Below.heap_setCell _ _ _ _ d5).trans hc1
    have e3 : V.heap[fb]? = some (.cells #[.func (.func 38) #[.pointer (some ⟨lb, 0, none⟩)] #[]] 68 (0, 0)) := by rw [hV]; simp [World.setCell, Array.getElem?_modify, hf1]
    have e5 : Tn (fun k => k = lb ∨ k = rb ∨ k = cb ∨ k = fb) W V := by
      rw [hV]
      exact tn_trans (tn_tr (Or.inl rfl) ht) ⟨rfl, rfl, rfl, by simp [World.setCell], fun k _ hk => Below.heap_setCell _ _ _ _ (fun e => hk (Or.inr (Or.inr (Or.inr e))))⟩
    exact ⟨(-1, true), hd2, ⟨e1, e2, _, e3, Or.inr (Or.inr ⟨rfl, rfl⟩)⟩, e5⟩
  have EV := vl hV
  clear hd ht hf1 hr1 hc1 H1 hV
  go_wp2_with fail
  rw [← EV.out]
  clear EV
  go_wp2
  go_ret
  exact ⟨rfl, HD.out⟩
end
theorem last_tell {β : Type} [Inhabited β] {w0 : World} {lb : Nat} {a : Option Addr} {len cap : Nat} {Z : List Int} (rb cb fb : Nat) (closed : Bool) (d1 : rb ≠ lb) (d2 : cb ≠ lb) (d3 : fb ≠ lb) (d4 : rb ≠ fb) (d5 : cb ≠ fb) (d6 : w0.heap.size ≤ fb) :
    LastSaid β w0 lb a len cap Z 0 true 36 #[.pointer (some ⟨rb, 0, none⟩), .pointer (some ⟨fb, 0, none⟩)] (CapT lb rb cb fb closed) (fun k => k = lb ∨ k = rb ∨ k = cb ∨ k = fb) where
  enters := enters_of Tryz.func36 (by kernel_rfl) rfl
  no := fun n W _ hl => by
    unfold lastP at hl
    refine nrt2_no rb fb n W (fun e => ?_) (fun e => ?_)
    · rw [if_pos e] at hl
      cases hl
    · by_cases e2 : unums n = lengthN
      · rw [if_pos e2] at hl
        cases hl
      · rw [if_neg e2, if_pos ⟨e, rfl⟩] at hl
        cases hl
  yes := fun G f n p W hl hc hd => by
    unfold lastP at hl
    split at hl
    · rename_i e
      cases hl
      exact nrt2_len rb cb fb closed d1 d2 d3 d4 d5 d6 f n e hc hd
    · split at hl
      · rename_i e
        cases hl
        exact nrt2_cod rb cb fb closed d1 d2 d3 d4 d5 d6 f n e.1 hc hd
      · cases hl
  keepR := fun v W W' h ht => by
    obtain ⟨F, hF, hB⟩ := h.f
    refine ⟨(ht.block rb (Array.getElem?_eq_some_iff.1 h.r).1 d1).trans h.r, (ht.block cb (Array.getElem?_eq_some_iff.1 h.c).1 d2).trans h.c, F, (ht.block fb (Array.getElem?_eq_some_iff.1 hF).1 d3).trans hF, ?_⟩
    rcases hB with k | ⟨sb, n, k1, k2, k3, k4⟩ | k
    · exact Or.inl k
    · exact Or.inr (Or.inl ⟨sb, n, k1, (ht.block sb (Array.getElem?_eq_some_iff.1 k2).1 k3).trans k2, k3, k4⟩)
    · exact Or.inr (Or.inr k)
  keepG := fun W W' h hk => by
    obtain ⟨F, hF, hB⟩ := h.f
    refine ⟨(hk rb (Or.inr (Or.inl rfl))).trans h.r, (hk cb (Or.inr (Or.inr (Or.inl rfl)))).trans h.c, F, (hk fb (Or.inr (Or.inr (Or.inr rfl)))).trans hF, ?_⟩
    rcases hB with k | ⟨sb, n, k1, k2, k3, k4, k5, k6, k7⟩ | k
    · exact Or.inl k
    · exfalso
      have e1 : ((-1, false) : Int × Bool).1 = -1 := rfl
      rw [e1] at k7
      omega
    · exact Or.inr (Or.inr k)
end Go.Proofs.YtkaihfminlincafGreatDoor
/-
  MESSAGES AS LINES: the developers' ReadTell. No claim by itself.
-/
namespace Go.Proofs.YtkaihfminlincafGreatDoor
open Go Go.RowKit Go.Shelf
set_option maxRecDepth 100000
attribute [local go_sem] run_store_func run_store_nilFunc
/-- A reply's three cells. -/
def PB (w : World) (x : Nat) (c : Int) (fv bv : Value) : Prop := w.heap[x]? = some (.cells #[.int .i64 c, fv, bv] 27 (0, 0))
section
variable {w w' : World} {x lb : Nat} {c : Int} {fv bv : Value}
theorem PB.lt (k : PB w x c fv bv) : x < w.heap.size := (Array.getElem?_eq_some_iff.1 k).1
theorem PB.cells (k : PB w x c fv bv) : w.cell? ⟨x, 0, none⟩ = some (.int .i64 c) ∧ w.cell? ⟨x, 1, none⟩ = some fv ∧ w.cell? ⟨x, 2, none⟩ = some bv := by
  unfold PB at k
  simp only [World.cell?, k]
  exact ⟨rfl, rfl, rfl⟩
theorem PB.frozen (k : PB w x c fv bv) (i : Nat) : w.frozen? ⟨x, i, none⟩ = false := by
  unfold PB at k
  unfold World.frozen?
  rw [k]
  simp
theorem PB.tl (k : PB w x c fv bv) (hx : x ≠ lb) (ht : Tr lb w w') : PB w' x c fv bv := (ht.block x k.lt hx).trans k
theorem PB.on (k : PB w x c fv bv) (hb : Below w.heap.size w w') : PB w' x c fv bv := (hb.block x k.lt).trans k
theorem PB.other {y i : Nat} {v : Value} (k : PB w x c fv bv) (hx : x ≠ y) : PB (w.setCell ⟨y, i, none⟩ v) x c fv bv := (Below.heap_setCell _ _ _ _ hx).trans k
theorem PB.s0 (k : PB w x c fv bv) (s : Int) : PB (w.setCell ⟨x, 0, none⟩ (.int .i64 s)) x s fv bv := by unfold PB at *; simp [World.setCell, Array.getElem?_modify, k]
theorem PB.s1 (k : PB w x c fv bv) (s : Value) : PB (w.setCell ⟨x, 1, none⟩ s) x c s bv := by unfold PB at *; simp [World.setCell, Array.getElem?_modify, k]
theorem PB.s2 (k : PB w x c fv bv) (s : Value) : PB (w.setCell ⟨x, 2, none⟩ s) x c fv s := by unfold PB at *; simp [World.setCell, Array.getElem?_modify, k]
end
/-- A reply, stored into its three cells as one. -/
theorem run_rpstore' {w : World} {x : Nat} {c c' : Int} {fv bv fv' bv' : Value} (k : PB w x c fv bv) (h1 : fv'.oneCell' = true) (h2 : bv'.oneCell' = true) :
    (Instr.storeAt 27 (.pointer (some ⟨x, 0, none⟩)) (.agg #[.int .i64 c', fv', bv'])).run Tryz.prog w = .ok () (w.setRow x #[.int .i64 c', fv', bv']) := by
  have hk : w.heap[x]? = some (.cells #[.int .i64 c, fv, bv] 27 (0, 0)) := k
  have hst := run_storeCells_from (P := Tryz.prog) x 27 [.int .i64 c', fv', bv'] 0 _ w hk rfl (by intro v hv; simp at hv; rcases hv with rfl | rfl | rfl <;> first | rfl | assumption)
  have hsz : (sizeOf 27).run Tryz.prog w = .ok 3 w := by kernel_rfl
  have hcs : (Value.agg #[.int .i64 c', fv', bv']).cells = #[.int .i64 c', fv', bv'] := rfl
  simp only [Instr.storeAt, Instr.sureAddr, Sem.run_bind, Sem.run_pure, Result.andThen, storeVar, hsz, hcs]
  simpa using hst
theorem rp_row {w : World} {x : Nat} {c c' : Int} {fv bv fv' bv' : Value} (k : PB w x c fv bv) : PB (w.setRow x #[.int .i64 c', fv', bv']) x c' fv' bv' := setRow_heap w x _ _ _ _ k
section
variable (w : World) {ops : Array Oper} {rest : List Oper} {o : Oper} {a : Act} {Q : Exit → Act → World → Prop}
theorem wpList_rpstore (hgd : o.guard = none) (s x : Operand) (ho : o.op = .store 27 s x) (n : Nat) (c c' : Int) (fv bv fv' bv' : Value) (hs : a.eval s = .pointer (some ⟨n, 0, none⟩)) (hx : a.eval x = .agg #[.int .i64 c', fv', bv']) (hB : PB w n c fv bv) (h1 : fv'.oneCell' = true) (h2 : bv'.oneCell' = true)
    (h0 : ∀ w', PB w' n c' fv' bv' → w.grownBy w' (some n) → wpList Tryz.prog ops Q rest (a.put o.dst undef) w') : wpList Tryz.prog ops Q (o :: rest) a w := by
  refine wpList_plain hgd fun K hK => ?_
  have hr := run_rpstore' (c' := c') hB h1 h2
  unfold Oper.wp execOp
  simp only [ho, Sem.run_bind, Sem.run_pure, Result.andThen_ok, hs, hx, hr]
  exact hK _ _ (h0 _ (rp_row hB) (row_grown w n _))
end
section
variable {ops : Array Oper} {o : Oper} {a : Act} {w : World} {K : Act → World → Prop} {Q : Exit → Act → World → Prop} {E : Prop}
theorem step_rpload (hg : o.guard = none) (s : Operand) (ho : o.op = .load 27 s) (n : Nat) (c : Int) (fv bv : Value) (hs : a.eval s = .pointer (some ⟨n, 0, none⟩)) (hB : PB w n c fv bv)
    (hK : K (a.put o.dst (.agg #[.int .i64 c, fv, bv])) w) : if Region.wanted o (yielded ops a.tmps) = true then Oper.wp Tryz.prog o a w K Q else E := by
  have hw : Region.wanted o (yielded ops a.tmps) = true := by simp [Region.wanted, hg]
  rw [if_pos hw]
  obtain ⟨c0, c1, c2⟩ := hB.cells
  have hr : (Instr.loadAt 27 (.pointer (some ⟨n, 0, none⟩))).run Tryz.prog w = .ok (.agg #[.int .i64 c, fv, bv]) w := by
    simp [go_sem, c0, c1, c2]
  unfold Oper.wp execOp
  simp only [ho, Sem.run_bind, Sem.run_pure, Result.andThen_ok, hs, hr]
  exact hK
theorem step_rpstore (hg : o.guard = none) (s x : Operand) (ho : o.op = .store 27 s x) (n : Nat) (c c' : Int) (fv bv fv' bv' : Value) (hs : a.eval s = .pointer (some ⟨n, 0, none⟩)) (hx : a.eval x = .agg #[.int .i64 c', fv', bv']) (hB : PB w n c fv bv) (h1 : fv'.oneCell' = true) (h2 : bv'.oneCell' = true)
    (hK : K (a.put o.dst undef) (w.setRow n #[.int .i64 c', fv', bv'])) : if Region.wanted o (yielded ops a.tmps) = true then Oper.wp Tryz.prog o a w K Q else E := by
  have hw : Region.wanted o (yielded ops a.tmps) = true := by simp [Region.wanted, hg]
  rw [if_pos hw]
  have hr := run_rpstore' (c' := c') hB h1 h2
  unfold Oper.wp execOp
  simp only [ho, Sem.run_bind, Sem.run_pure, Result.andThen_ok, hs, hx, hr]
  exact hK
end
/- what is still to be read -/
def tellK3 (bare closed : Bool) (code : Int) (f : Hd) : Pz Rp := if noBody bare code = true then retP ⟨code, f.1, []⟩ else bindP (bodyK closed f.2) fun x => retP ⟨code, f.1, x⟩
def tellK2 (bare closed : Bool) (code : Int) : Pz Rp := bindP (headP 0 true 40 []) (tellK3 bare closed code)
theorem tellP_eq (bare closed : Bool) : tellP bare closed = bindP (mtsP edgeSp) fun _ => bindP codeQ (tellK2 bare closed) := rfl
/-- The reply, the reader's variable and what is closed. -/
structure TB (W : World) (n0 lb rb cb : Nat) (closed : Bool) (c : Int) (fv bv : Value) : Prop where
  q : PB W n0 c fv bv
  r : W.heap[rb]? = some (.cells #[rptr lb] 41 (0, 0))
  c : W.heap[cb]? = some (.cells #[.bool closed] 4 (0, 0))
section
variable {W W' : World} {n0 lb rb cb : Nat} {closed : Bool} {c : Int} {fv bv : Value}
theorem TB.tr (k : TB W n0 lb rb cb closed c fv bv) (d1 : n0 ≠ lb) (d2 : rb ≠ lb) (d3 : cb ≠ lb) (ht : Tr lb W W') : TB W' n0 lb rb cb closed c fv bv := ⟨k.q.tl d1 ht, (ht.block rb (Array.getElem?_eq_some_iff.1 k.r).1 d2).trans k.r, (ht.block cb (Array.getElem?_eq_some_iff.1 k.c).1 d3).trans k.c⟩
theorem TB.on (k : TB W n0 lb rb cb closed c fv bv) (hb : Below W.heap.size W W') : TB W' n0 lb rb cb closed c fv bv := ⟨k.q.on hb, (hb.block rb (Array.getElem?_eq_some_iff.1 k.r).1).trans k.r, (hb.block cb (Array.getElem?_eq_some_iff.1 k.c).1).trans k.c⟩
theorem TB.at (k : TB W n0 lb rb cb closed c fv bv) : W.cell? ⟨rb, 0, none⟩ = some (.pointer (some ⟨lb, 0, none⟩)) := (o1 k.r).1
theorem TB.set {i : Nat} {v : Value} {c' : Int} {fv' bv' : Value} (k : TB W n0 lb rb cb closed c fv bv) (d1 : n0 ≠ rb) (d2 : n0 ≠ cb) (h : PB (W.setCell ⟨n0, i, none⟩ v) n0 c' fv' bv') : TB (W.setCell ⟨n0, i, none⟩ v) n0 lb rb cb closed c' fv' bv' := ⟨h, (Below.heap_setCell _ _ _ _ d1.symm).trans k.r, (Below.heap_setCell _ _ _ _ d2.symm).trans k.c⟩
end
def hasB (c : Int) : Bool := decide (200 ≤ c) && (!decide (c = 204) && !decide (c = 304))
theorem has_no (bare : Bool) (c : Int) : noBody bare c = !(!bare && hasB c) := by
  unfold noBody hasB
  by_cases h1 : c < 200 <;> by_cases h2 : c = 204 <;> by_cases h3 : c = 304 <;> cases bare <;> simp [h1, h2, h3] <;> omega
theorem nhasb_any (c : Int) (w : World) : Calls Tryz.prog 39 #[.int .i64 c] w fun e w' => e = .returned (.bool (hasB c)) ∧ w = w' := by
  by_cases h1 : 200 ≤ c
  · by_cases h2 : c = 204
    · have e : hasB c = false := by unfold hasB; simp [h2]
      rw [e]
      subst h2
      go_enter Tryz.func39, Tryz.ntmps39
      go_wp2
      go_ret
      exact ⟨rfl, rfl⟩
    · by_cases h3 : c = 304
      · have e : hasB c = false := by unfold hasB; simp [h3]
        rw [e]
        subst h3
        go_enter Tryz.func39, Tryz.ntmps39
        go_wp2
        go_ret
        exact ⟨rfl, rfl⟩
      · have e : hasB c = true := by unfold hasB; simp [h1, h2, h3]
        have h2' : (c == 204) = false := by simpa using h2
        have h3' : (c == 304) = false := by simpa using h3
        rw [e]
        go_enter Tryz.func39, Tryz.ntmps39
        go_wp2
        go_ret
        exact ⟨by simp [h2, h3], rfl⟩
  · have e : hasB c = false := by unfold hasB; simp [h1]
    have h1' : c < 200 := by omega
    rw [e]
    go_enter Tryz.func39, Tryz.ntmps39
    go_wp2
    go_ret
    exact ⟨rfl, rfl⟩
def rpK (code : Int) (l : List Fd) (x : List Int) : Pz Rp := retP ⟨code, l, x⟩
theorem hd_bodyK {G : Int × Rp × List Int} {bare closed : Bool} {code : Int} {l : List Fd} {v : Int × Bool} (hv : v.1 ≠ -2) (hno : ¬ noBody bare code = true) : hdK G (tellK3 bare closed code) (l, v.1, v.2) = bindP (bodyK closed v) (rpK code l) := by
  unfold hdK tellK3
  rw [if_neg hv, if_neg hno]
  rfl
theorem bodyK_rest (closed : Bool) : bodyK closed (-1, false) = restP closed := by
  unfold bodyK
  rw [if_neg (by simp), if_neg (by simp)]
theorem bodyK_len (closed : Bool) {v : Int × Bool} (h1 : v.2 = false) (h2 : 0 ≤ v.1) : bodyK closed v = bodyP v.1.toNat := by
  unfold bodyK
  rw [if_neg (by rw [h1]; simp), if_pos h2]
theorem bodyK_pieces (closed : Bool) : bodyK closed (-1, true) = unchP := by
  unfold bodyK
  rw [if_pos rfl]
/-- What is told in the end. -/
def DTellAns (bare closed : Bool) (Z : List Int) (w : World) (e : Ending) (w' : World) : Prop := ∃ q : RpM, e = .returned (.tuple #[q.val, .int .i64 (endF (tellP bare closed) Z).2.2, errW (endF (tellP bare closed) Z).1]) ∧ RpIn w' q ∧ q.rp = (endF (tellP bare closed) Z).2.1 ∧ Below w.heap.size w w'
/-- The body's bytes, behind the reply's cells. -/
def BdO (n0 : Nat) (ba : Option Addr) (bc : Nat) (B : List Int) (W : World) : Prop := ∃ b, n0 < b ∧ UOwn W b (.slice ba B.length bc) B ∧ Bytes B ∧ (ba = none → B.length = 0 ∧ bc = 0) ∧ B.length ≤ 140737488351232
set_option maxHeartbeats 8000000 in
theorem nreadtell_ans (a : Option Addr) (len cap : Nat) (Z : List Int) (bare closed : Bool) (w : World) (hA : Arg w a len cap Z) (hnil : a = none → len = 0) (hcl : closed = true → len ≤ 140737488351232) (hl : len ≤ ULim) : Calls Tryz.prog 9 #[.slice a len cap, .bool bare, .bool closed] w (DTellAns bare closed Z w) := by
  have hzl := hA.len
  obtain ⟨W4, hW4⟩ : ∃ W4, W4 = (((w.alloc (.cells #[.bool closed] 4)).alloc (.cells #[.int .i64 0, .slice none 0 0, .slice none 0 0] 27)).alloc (.cells #[.slice a len cap, .int .i64 0, .nilIface] 43)).alloc (.cells #[.pointer (some ⟨w.heap.size + 1 + 1, 0, none⟩)] 41) := ⟨_, rfl⟩
  obtain ⟨rb, hrb⟩ : ∃ rb, rb = w.heap.size + 1 + 1 + 1 := ⟨_, rfl⟩
  obtain ⟨lb, hlb⟩ : ∃ lb, lb = w.heap.size + 1 + 1 := ⟨_, rfl⟩
  obtain ⟨n0, hn0⟩ : ∃ n0, n0 = w.heap.size + 1 := ⟨_, rfl⟩
  obtain ⟨cb, hcb⟩ : ∃ cb, cb = w.heap.size := ⟨_, rfl⟩
  have X0 : Vl (TB W4 n0 lb rb cb closed 0 (.slice none 0 0) (.slice none 0 0)) := by
    constructor
    · unfold PB
      rw [hW4, hn0, Below.heap_alloc _ _ _ (by simp <;> omega), Below.heap_alloc _ _ _ (by simp)]
      have := heap_alloc_new (w.alloc (.cells #[.bool closed] 4)) (.cells #[.int .i64 0, .slice none 0 0, .slice none 0 0] 27 (0, 0))
      simpa using this
    · unfold rptr
      rw [hW4, hrb, hlb]
      have := heap_alloc_new (((w.alloc (.cells #[.bool closed] 4)).alloc (.cells #[.int .i64 0, .slice none 0 0, .slice none 0 0] 27)).alloc (.cells #[.slice a len cap, .int .i64 0, .nilIface] 43)) (.cells #[.pointer (some ⟨w.heap.size + 1 + 1, 0, none⟩)] 41 (0, 0))
      simpa using this
    · rw [hW4, hcb, Below.heap_alloc _ _ _ (by simp <;> omega), Below.heap_alloc _ _ _ (by simp <;> omega), Below.heap_alloc _ _ _ (by simp)]
      exact heap_alloc_new w _
  have hB4 : Below w.heap.size w W4 := by rw [hW4]; exact ((((Below.refl _ w).alloc (Nat.le_refl _) _).alloc (by simp) _).alloc (by simp <;> omega) _).alloc (by simp <;> omega) _
  have hL4 : W4.heap[lb]? = some (.cells #[.slice a len cap, .int .i64 0, .nilIface] 43 (0, 0)) := by
    rw [hW4, hlb, Below.heap_alloc _ _ _ (by simp)]
    have := heap_alloc_new ((w.alloc (.cells #[.bool closed] 4)).alloc (.cells #[.int .i64 0, .slice none 0 0, .slice none 0 0] 27)) (.cells #[.slice a len cap, .int .i64 0, .nilIface] 43 (0, 0))
    simpa using this
  have S0 : Vl (Dst (tellP bare closed Z) (tellP bare closed) w W4 lb a len cap Z) := by
    refine ⟨0, 0, ⟨hB4, by omega, hA, ⟨?_, ?_, ?_, ?_, ?_⟩, Nat.zero_le _, hl⟩, Or.inl ⟨rfl, rfl⟩⟩
    all_goals simp [World.cell?, World.frozen?, hL4, errW_0]
  obtain ⟨G, hG⟩ : ∃ G, G = tellP bare closed Z := ⟨_, rfl⟩
  rw [← hG] at S0
  have HG : Vl (G = tellP bare closed Z) := hG
  have HNIL := vl hnil
  have HCL := vl hcl
  have d1 : n0 ≠ lb := by omega
  have d2 : rb ≠ lb := by omega
  have d3 : n0 ≠ rb := by omega
  have d6 : cb ≠ lb := by omega
  have d7 : n0 ≠ cb := by omega
  have d8 : rb ≠ cb := by omega
  have D4 : Vl (w.heap.size ≤ rb) := by show w.heap.size ≤ rb; omega
  have D5 : Vl (w.heap.size ≤ n0) := by show w.heap.size ≤ n0; omega
  have D6 : Vl (w.heap.size ≤ cb) := by show w.heap.size ≤ cb; omega
  have HA := vl hA
  have EW4 := vl hW4
  have ELB := vl hlb
  have ERB := vl hrb
  have EN0 := vl hn0
  have ECB := vl hcb
  clear hnil hcl hG hB4 hL4 hA hW4 hlb hrb hn0 hcb
  rw [tellP_eq] at S0
  have k0 := X0.out.at
  have H1 := vl (word_st (s := ⟨#[69, 68, 71, 69, 47, 49, 32]⟩) (by decide) (show Dst G (bindP (mtsP (unums ⟨#[69, 68, 71, 69, 47, 49, 32]⟩)) _) w W4 lb a len cap Z from S0.out))
  unfold rptr at H1
  go_enter Tryz.func9, Tryz.ntmps9
  go_upto_region 2 with fail
  rw [← EW4.out, ← ERB.out, ← ELB.out, ← EN0.out, ← ECB.out]
  clear EW4
  go_wp2_with fail
  refine H1.out.mono ?_
  rintro e w1 ⟨rfl, hd1, ht1⟩
  have X1 := vl (X0.out.tr d1 d2 d6 ht1)
  have H2 := vl (code_st hd1)
  have k1 := X1.out.at
  unfold rptr at H2
  clear H1 S0 X0 hd1 ht1 k0
  go_wp2_with fail
  refine H2.out.mono ?_
  rintro e w2 ⟨code, rfl, hc1, hc2, hd2, ht2⟩
  have X2 := vl (X1.out.tr d1 d2 d6 ht2)
  have y0 := X2.out.q.cells.1
  have y1 := X2.out.q.frozen 0
  obtain ⟨V3, hV3⟩ : ∃ V3, V3 = w2.setCell ⟨n0, 0, none⟩ (.int .i64 code) := ⟨_, rfl⟩
  have X3 : Vl (TB V3 n0 lb rb cb closed code (.slice none 0 0) (.slice none 0 0)) := by rw [hV3]; exact X2.out.set d3 d7 (X2.out.q.s0 code)
  have S3 : Vl (Dst G (tellK2 bare closed code) w V3 lb a len cap Z) := by rw [hV3]; exact hd2.set D5.out d1
  clear H2 X1 hd2 ht2 k1
  go_upto_region 4 with fail
  rw [← hV3]
  clear hV3 y0 y1 X2
  obtain ⟨fb, hfb⟩ : ∃ fb, fb = V3.heap.size := ⟨_, rfl⟩
  obtain ⟨V6, hV6⟩ : ∃ V6, V6 = V3.alloc (.cells #[.func (.func 34) #[] #[.pointer (some ⟨rb, 0, none⟩), .pointer (some ⟨cb, 0, none⟩)]] 68) := ⟨_, rfl⟩
  have hb6 : Below V3.heap.size V3 V6 := by rw [hV6]; exact (Below.refl _ _).alloc (Nat.le_refl _) _
  have hf6 : V6.heap[fb]? = some (.cells #[.func (.func 34) #[] #[.pointer (some ⟨rb, 0, none⟩), .pointer (some ⟨cb, 0, none⟩)]] 68 (0, 0)) := by rw [hV6, hfb]; exact heap_alloc_new V3 _
  have hn6 : V6.heap.size = fb + 1 := by rw [hV6, hfb]; simp
  have X6 := vl (X3.out.on hb6)
  have S6 := vl (S3.out.on hb6)
  have hlt5 := S3.out.lt
  have hnlt := X3.out.q.lt
  have hrlt := (Array.getElem?_eq_some_iff.1 X3.out.r).1
  have hclt := (Array.getElem?_eq_some_iff.1 X3.out.c).1
  have e1 : fb ≠ lb := by omega
  have e2 : rb ≠ fb := by omega
  have e3 : n0 ≠ fb := by omega
  have e4 : cb ≠ fb := by omega
  have D7 : Vl (w.heap.size ≤ fb) := by have := D5.out; show w.heap.size ≤ fb; omega
  have DL : Vl (w.heap.size ≤ lb) := S3.out.base
  have HF := vl (fields_st 0 true 36 #[.pointer (some ⟨rb, 0, none⟩), .pointer (some ⟨fb, 0, none⟩)] (CapT lb rb cb fb closed) (fun k => k = lb ∨ k = rb ∨ k = cb ∨ k = fb) (last_tell rb cb fb closed d2 d6 e1 e2 e4 D7.out) (S6.out.to (fun b => hd_hdK (G := G) (by omega) b)) ⟨X6.out.r, X6.out.c, _, hf6, Or.inl ⟨rfl, rfl⟩⟩ (Or.inl rfl) (by
    have := D4.out
    have := DL.out
    have := D6.out
    have := D7.out
    rintro k (rfl | rfl | rfl | rfl) <;> omega))
  have k6 := X6.out.at
  have HN6 : Vl (n0 < V6.heap.size ∧ lb < V6.heap.size) := ⟨by omega, by omega⟩
  have EV6 := vl hV6
  have EFB := vl hfb
  unfold rptr at HF
  clear hb6 hf6 hn6 hlt5 hnlt hrlt hclt hV6 hfb S6 S3 X3
  go_upto_region 5 with fail
  rw [← EV6.out, ← EFB.out]
  clear EV6 EFB
  go_wp2_with fail
  refine HF.out.mono ?_
  rintro e w7 ⟨x, FL, v, rfl, ho7, hf7, hl7, hd7, hc7, ht7⟩
  obtain ⟨fa, fc, rfl⟩ := fown_shape ho7
  have hq7 : PB w7 n0 code (.slice none 0 0) (.slice none 0 0) := (ht7.block n0 HN6.out.1 (fun hk => by rcases hk with e | e | e | e <;> omega)).trans X6.out.q
  have y0 := hq7.cells.2.1
  have y1 := hq7.frozen 1
  obtain ⟨V8, hV8⟩ : ∃ V8, V8 = w7.setCell ⟨n0, 1, none⟩ (.slice fa FL.length fc) := ⟨_, rfl⟩
  have X8 : Vl (TB V8 n0 lb rb cb closed code (.slice fa FL.length fc) (.slice none 0 0)) := by
    rw [hV8]
    exact ⟨hq7.s1 _, (Below.heap_setCell _ _ _ _ d3.symm).trans hc7.r, (Below.heap_setCell _ _ _ _ d7.symm).trans hc7.c⟩
  have S8 : Vl (Dst G (hdK G (tellK3 bare closed code) (fdsOf FL, v.1, v.2)) w V8 lb a len cap Z) := by rw [hV8]; exact hd7.set D5.out d1
  obtain ⟨b6, hb6⟩ : ∃ b6, b6 = V6.heap.size := ⟨_, rfl⟩
  have O8 : Vl (FOwn V8 b6 (.slice fa FL.length fc) FL) := by rw [hV8, hb6]; exact fown_set ho7 HN6.out.1
  have HNB : Vl (n0 < b6 ∧ lb < b6) := by rw [hb6]; exact ⟨HN6.out.1, HN6.out.2⟩
  have F8 : Vl (∃ F, V8.heap[fb]? = some (.cells #[F] 68 (0, 0)) ∧ BdF lb rb cb v F V8) := by
    obtain ⟨F, h1, h2⟩ := hc7.f
    refine ⟨F, by rw [hV8]; exact (Below.heap_setCell _ _ _ _ e3.symm).trans h1, ?_⟩
    rcases h2 with k | ⟨sb, n, k1, k2, k3, k4⟩ | k
    · exact Or.inl k
    · refine Or.inr (Or.inl ⟨sb, n, k1, ?_, k3, k4⟩)
      have hne : sb ≠ n0 := fun e => by
        rw [e] at k2
        have hq : w7.heap[n0]? = some (.cells #[.int .i64 code, .slice none 0 0, .slice none 0 0] 27 (0, 0)) := hq7
        rw [hq] at k2
        simp at k2
      rw [hV8]
      exact (Below.heap_setCell _ _ _ _ hne).trans k2
    · exact Or.inr (Or.inr k)
  have HFS := vl hf7
  clear HF X6 ho7 hf7 hd7 hc7 ht7 hq7 k6
  go_upto_region 6 with fail
  rw [← hV8]
  clear hV8 y0 y1 hb6 HN6
  obtain ⟨hb, hhb⟩ : ∃ hb, (!bare && hasB code) = hb := ⟨_, rfl⟩
  have HHB := vl hhb
  have y0 := X8.out.q.cells.1
  go_cut [31] (fun bv wz => Vl (wz = V8) ∧ bv = .bool hb)
  case first =>
    as_aux_lemma =>
      cases bare with
      | true =>
        have e : hb = false := by rw [← hhb]; rfl
        subst e
        clear hhb
        go_wp2
        go_meet
        exact ⟨rfl, rfl⟩
      | false =>
        have e : hasB code = hb := by rw [← hhb]; rfl
        have H5 := vl (nhasb_any code V8)
        rw [e] at H5
        clear hhb e
        go_wp2_with fail
        refine H5.out.mono ?_
        rintro e w9 ⟨rfl, rfl⟩
        go_wp2
        go_meet
        exact ⟨rfl, rfl⟩
  case rest =>
  obtain ⟨hwz, rfl⟩ := hcut
  rw [hwz.out]
  clear hwz hhb y0
  go_upto_if 31 with fail
  go_cut [] (fun wz => ∃ (ba : Option Addr) (bc : Nat) (B : List Int), Vl (Dst G (retP ⟨code, fdsOf FL, B⟩) w wz lb a len cap Z) ∧ Vl (TB wz n0 lb rb cb closed code (.slice fa FL.length fc) (.slice ba B.length bc)) ∧ Vl (FOwn wz b6 (.slice fa FL.length fc) FL) ∧ Vl (BdO n0 ba bc B wz))
  case first =>
    as_aux_lemma =>
      cases hb with
      | false =>
        have hno : noBody bare code = true := by rw [has_no, HHB.out]; rfl
        have S9 : Vl (Dst G (retP ⟨code, fdsOf FL, []⟩) w V8 lb a len cap Z) := by
          have := S8.out
          unfold hdK at this
          split at this
          · obtain ⟨q, bad, j1, j2, j3⟩ := this.never
            exact Dst.any j1 j2 j3
          · unfold tellK3 at this
            rw [if_pos hno] at this
            exact this
        clear S8 hno
        go_wp2
        go_meet
        exact ⟨none, 0, [], S9.out, X8.out, O8.out, b6, HNB.out.1, Or.inl ⟨rfl, rfl⟩, (fun x hx => by cases hx), (fun _ => ⟨rfl, rfl⟩), by simp⟩
      | true =>
        have hno : ¬ noBody bare code = true := by rw [has_no, HHB.out]; simp
        obtain ⟨F, hF, hB⟩ := F8.out
        have kf := (o1 hF).1
        have HE : Vl (∀ e w9, BdT G (rpK code (fdsOf FL)) w V8 lb a len cap Z e w9 → ∃ (ba : Option Addr) (bc : Nat) (B : List Int), e = .returned (.slice ba B.length bc) ∧ w9.cell? ⟨n0, 2, none⟩ = some (.slice none 0 0) ∧ w9.frozen? ⟨n0, 2, none⟩ = false ∧ (∀ W, W = w9.setCell ⟨n0, 2, none⟩ (.slice ba B.length bc) → Dst G (retP ⟨code, fdsOf FL, B⟩) w W lb a len cap Z ∧ TB W n0 lb rb cb closed code (.slice fa FL.length fc) (.slice ba B.length bc) ∧ FOwn W b6 (.slice fa FL.length fc) FL ∧ BdO n0 ba bc B W)) := by
          rintro e w9 ⟨bv, B, rfl, ho9, hd9, ht9, hB9, hm9⟩
          obtain ⟨ba, bc, rfl, _, _⟩ := ho9.slice
          have X9 := X8.out.tr d1 d2 d6 ht9
          have O9 := fown_tn (S := fun k => k = lb) O8.out (fun k hk => by rw [hk]; exact HNB.out.2) (tn_tr rfl ht9)
          refine ⟨ba, bc, B, rfl, X9.q.cells.2.2, X9.q.frozen 2, ?_⟩
          rintro W rfl
          have hnl := X8.out.q.lt
          have ho10 := ho9.grown (n_setg w9 n0 2 (.slice ba B.length bc)) (fun k hk e => by
            cases e
            have := (ho9.base _ hk).1
            omega)
          refine ⟨hd9.set D5.out d1, X9.set d3 d7 (X9.q.s2 _), fown_set O9 HNB.out.1, V8.heap.size, hnl, ho10, fun x hx => HA.out.bytes x (hm9 x hx), ?_, hB9⟩
          rintro rfl
          rcases ho10 with ⟨j1, j2⟩ | ⟨g, cp, j1, _⟩
          · rw [j2] at j1 ⊢; cases j1; exact ⟨rfl, rfl⟩
          · cases j1
        rcases hB with ⟨hv, rfl⟩ | ⟨sb, n, rfl, k2, k3, k4, k5, k5', k6⟩ | ⟨hv, rfl⟩
        · have H1 := vl (nrt1_st (f := rpK code (fdsOf FL)) rb cb closed X8.out.r X8.out.c HCL.out HNIL.out (by
            have := S8.out
            rw [hd_bodyK (by rw [hv]; decide) hno, hv, bodyK_rest] at this
            exact this))
          have eg := enters_of (P := Tryz.prog) Tryz.func34 (by kernel_rfl) rfl
          clear S8 F8 hF hno
          go_wp2_with fail
          refine H1.out.mono ?_
          intro e w9 hbd
          obtain ⟨ba, bc, B, rfl, z0, z1, hend⟩ := HE.out e w9 hbd
          obtain ⟨W, hW⟩ : ∃ W, W = w9.setCell ⟨n0, 2, none⟩ (.slice ba B.length bc) := ⟨_, rfl⟩
          have HEND := vl (hend W hW)
          have EW := vl hW
          clear hbd HE H1 hend hW
          go_wp2_with fail
          rw [← EW.out]
          go_meet
          exact ⟨ba, bc, B, HEND.out.1, HEND.out.2.1, HEND.out.2.2.1, HEND.out.2.2.2⟩
        · have HB8 : Vl (Dst G (bindP (bodyP n.toNat) (rpK code (fdsOf FL))) w V8 lb a len cap Z ∧ (0 ≤ n ∨ ∃ q bad, RS w V8 lb a len cap Z q bad ∧ bad ≠ 0)) := by
            by_cases hv2 : v.1 = -2
            · have := S8.out
              unfold hdK at this
              rw [if_pos hv2] at this
              obtain ⟨q, bad, j1, j2, j3⟩ := this.never
              exact ⟨Dst.any j1 j2 j3, Or.inr ⟨q, bad, j1, j2⟩⟩
            · obtain ⟨j1, j2⟩ := k6.resolve_left hv2
              have := S8.out
              rw [hd_bodyK hv2 hno, bodyK_len closed k4 (by omega), j2] at this
              exact ⟨this, Or.inl j1⟩
          have H1 := vl (nrt21_st (f := rpK code (fdsOf FL)) rb sb n X8.out.r k2 ⟨k5, by omega⟩ HNIL.out HB8.out.1 HB8.out.2)
          clear HB8 k2 k3 k4 k5 k5' k6
          have eg := enters_of (P := Tryz.prog) Tryz.func37 (by kernel_rfl) rfl
          clear S8 F8 hF hno
          go_wp2_with fail
          refine H1.out.mono ?_
          intro e w9 hbd
          obtain ⟨ba, bc, B, rfl, z0, z1, hend⟩ := HE.out e w9 hbd
          obtain ⟨W, hW⟩ : ∃ W, W = w9.setCell ⟨n0, 2, none⟩ (.slice ba B.length bc) := ⟨_, rfl⟩
          have HEND := vl (hend W hW)
          have EW := vl hW
          clear hbd HE H1 hend hW
          go_wp2_with fail
          rw [← EW.out]
          go_meet
          exact ⟨ba, bc, B, HEND.out.1, HEND.out.2.1, HEND.out.2.2.1, HEND.out.2.2.2⟩
        · have H1 := vl (pieces_st (f := rpK code (fdsOf FL)) (by
            have := S8.out
            rw [hd_bodyK (by rw [hv]; decide) hno, hv, bodyK_pieces] at this
            exact this))
          unfold rptr at H1
          have eg := enters_of (P := Tryz.prog) Tryz.func38 (by kernel_rfl) rfl
          clear S8 F8 hF hno
          go_wp2_with fail
          refine H1.out.mono ?_
          intro e w9 hbd
          obtain ⟨ba, bc, B, rfl, z0, z1, hend⟩ := HE.out e w9 hbd
          obtain ⟨W, hW⟩ : ∃ W, W = w9.setCell ⟨n0, 2, none⟩ (.slice ba B.length bc) := ⟨_, rfl⟩
          have HEND := vl (hend W hW)
          have EW := vl hW
          clear hbd HE H1 hend hW
          go_wp2_with fail
          rw [← EW.out]
          go_meet
          exact ⟨ba, bc, B, HEND.out.1, HEND.out.2.1, HEND.out.2.2.1, HEND.out.2.2.2⟩
  case rest =>
  obtain ⟨ba, bc, B, S10, X10, O10, A10⟩ := hcut
  obtain ⟨V10, hV10⟩ : ∃ V10, V10 = wc := ⟨_, rfl⟩
  subst hV10
  clear S8 X8 O8 F8 HHB
  obtain ⟨q, bad, hR, hcase⟩ := S10.out
  have HR := vl hR
  have HCASE := vl hcase
  have HFT := vl (fault_any lb a len cap q bad V10 hR.mem)
  have k10 := X10.out.at
  unfold rptr at HFT
  clear hR hcase S10
  go_wp2_with fail
  refine HFT.out.mono ?_
  rintro e w11 ⟨rfl, rfl⟩
  clear HFT
  by_cases hx0 : bad = 0
  · subst hx0
    have HEQ : Vl (G = (0, ⟨code, fdsOf FL, B⟩, Z.drop q)) := by
      rcases HCASE.out with ⟨_, h1⟩ | ⟨h1, _⟩
      · exact h1
      · exact absurd rfl h1
    rw [if_neg (by omega), errW_0]
    have l0 := HR.out.mem.c1
    have hq1 := HR.out.le
    have l1 : (World.setRow V10.drew n0 #[.int .i64 code, .slice fa FL.length fc, .slice ba B.length bc]).cell? ⟨lb, 1, none⟩ = some (.int .i64 q) := (cell_setRow_other _ _ _ _ (by show lb ≠ n0; exact d1.symm)).trans l0
    have l0d : V10.drew.cell? ⟨lb, 1, none⟩ = some (.int .i64 q) := l0
    have l2 : (World.setRow V10.drew n0 #[.int .i64 code, .slice fa FL.length fc, .slice ba B.length bc]).cell? ⟨rb, 0, none⟩ = some (.pointer (some ⟨lb, 0, none⟩)) := (cell_setRow_other _ _ _ _ (by show rb ≠ n0; exact d3.symm)).trans k10
    have l2d : V10.drew.cell? ⟨rb, 0, none⟩ = some (.pointer (some ⟨lb, 0, none⟩)) := k10
    have mixed : Tryz.prog.follows Departure.mixedOrders = true := by kernel_rfl
    have YD : Vl (PB V10.drew n0 code (.slice fa FL.length fc) (.slice ba B.length bc)) := X10.out.q
    have HEND : Vl (∀ W, W = World.setRow V10.drew n0 #[.int .i64 code, .slice fa FL.length fc, .slice ba B.length bc] → PB W n0 code (.slice fa FL.length fc) (.slice ba B.length bc) ∧ Below w.heap.size w W ∧ FOwn W b6 (.slice fa FL.length fc) FL ∧ Arg W ba B.length bc B) := by
      rintro W rfl
      refine ⟨rp_row YD.out, u_below_grown (HR.out.below.drew) (row_grown _ _ _) HR.out.below.size (fun k hk => by cases hk; exact D5.out), ?_, ?_⟩
      · have ho : FOwn V10.drew b6 (.slice fa FL.length fc) FL := O10.out.kept (⟨rfl, rfl, rfl, Nat.le_refl _, fun _ _ _ => rfl⟩ : V10.grownBy V10.drew none) (by cases hv : (Value.slice fa FL.length fc).ownBlock <;> simp)
        exact World.ownsRow.kept ho (row_grown _ _ _) (Or.inr (fun e => by have := (ho.lt n0 e).1; have := HNB.out.1; omega))
      · obtain ⟨b, hb1, hb2, hb3, _⟩ := A10.out
        have ho : UOwn V10.drew b (.slice ba B.length bc) B := hb2.block (Nat.le_refl _) (fun _ _ => rfl)
        refine UOwn.arg (base := b) (ho.grown (row_grown _ _ _) (fun k hk e => ?_)) hb3
        cases e
        have := (ho.base _ hk).1
        omega
    go_upto_region 11 with fail
    refine wp_region_any mixed ?_
    change wpAny _ _ _ _ _ _ _ (World.drew _)
    refine wpAny_cast (l' := #[false, false, false, false, false, false, false, false]) rfl ?_
    refine wpAny_ready (rs := [0, 1]) (by kernel_rfl) (by simp) ?_
    refine AllReady.cons rfl (fun K hK => ?_) (AllReady.cons rfl (fun K hK => ?_) AllReady.nil)
    refine step_rpload rfl (.tmp 6) rfl n0 code (.slice fa FL.length fc) (.slice ba B.length bc) rfl YD.out ?_
    go_simp
    refine hK _ _ ?_
    clear hK K
    refine wpAny_cast (l' := #[true, false, false, false, false, false, false, false]) rfl ?S0
    rotate_left
    go_simp
    refine hK _ _ ?_
    clear hK K
    refine wpAny_cast (l' := #[false, true, false, false, false, false, false, false]) rfl ?S1
    rotate_left
    refine wpAny_ready (rs := [1, 5]) (by kernel_rfl) (by simp) ?_
    refine AllReady.cons rfl (fun K hK => ?_) (AllReady.cons rfl (fun K hK => ?_) AllReady.nil)
    go_simp
    refine hK _ _ ?_
    clear hK K
    refine wpAny_cast (l' := #[true, true, false, false, false, false, false, false]) rfl ?S01
    rotate_left
    refine step_rpstore rfl (.tmp 6) (.tmp 41) rfl n0 _ code _ _ (.slice fa FL.length fc) (.slice ba B.length bc) rfl rfl YD.out rfl rfl ?_
    go_simp
    refine hK _ _ ?_
    clear hK K
    refine wpAny_cast (l' := #[true, false, false, false, false, true, false, false]) rfl ?S05
    rotate_left
    refine wpAny_ready (rs := [0, 2]) (by kernel_rfl) (by simp) ?_
    refine AllReady.cons rfl (fun K hK => ?_) (AllReady.cons rfl (fun K hK => ?_) AllReady.nil)
    refine step_rpload rfl (.tmp 6) rfl n0 code (.slice fa FL.length fc) (.slice ba B.length bc) rfl YD.out ?_
    go_simp
    refine hK _ _ ?_
    clear hK K
    refine wpAny_cast (l' := #[true, true, false, false, false, false, false, false]) rfl ?_
    exact ?S01
    go_simp
    refine hK _ _ ?_
    clear hK K
    refine wpAny_cast (l' := #[false, true, true, false, false, false, false, false]) rfl ?S12
    rotate_left
    refine wpAny_ready (rs := [2, 5]) (by kernel_rfl) (by simp) ?_
    refine AllReady.cons rfl (fun K hK => ?_) (AllReady.cons rfl (fun K hK => ?_) AllReady.nil)
    go_simp
    refine hK _ _ ?_
    clear hK K
    refine wpAny_cast (l' := #[true, true, true, false, false, false, false, false]) rfl ?S012
    rotate_left
    refine step_rpstore rfl (.tmp 6) (.tmp 41) rfl n0 _ code _ _ (.slice fa FL.length fc) (.slice ba B.length bc) rfl rfl YD.out rfl rfl ?_
    go_simp
    refine hK _ _ ?_
    clear hK K
    refine wpAny_cast (l' := #[true, true, false, false, false, true, false, false]) rfl ?S015
    rotate_left
    refine wpAny_ready (rs := [1]) (by kernel_rfl) (by simp) ?_
    refine AllReady.cons rfl (fun K hK => ?_) AllReady.nil
    go_simp
    refine hK _ _ ?_
    clear hK K
    refine wpAny_cast (l' := #[true, true, false, false, false, true, false, false]) rfl ?_
    exact ?S015
    refine wpAny_ready (rs := [0, 3]) (by kernel_rfl) (by simp) ?_
    refine AllReady.cons rfl (fun K hK => ?_) (AllReady.cons rfl (fun K hK => ?_) AllReady.nil)
    refine step_rpload rfl (.tmp 6) rfl n0 code (.slice fa FL.length fc) (.slice ba B.length bc) rfl YD.out ?_
    go_simp
    refine hK _ _ ?_
    clear hK K
    refine wpAny_cast (l' := #[true, true, true, false, false, false, false, false]) rfl ?_
    exact ?S012
    go_simp
    refine hK _ _ ?_
    clear hK K
    refine wpAny_cast (l' := #[false, true, true, true, false, false, false, false]) rfl ?S123
    rotate_left
    refine wpAny_ready (rs := [3, 5]) (by kernel_rfl) (by simp) ?_
    refine AllReady.cons rfl (fun K hK => ?_) (AllReady.cons rfl (fun K hK => ?_) AllReady.nil)
    go_simp
    refine hK _ _ ?_
    clear hK K
    refine wpAny_cast (l' := #[true, true, true, true, false, false, false, false]) rfl ?S0123
    rotate_left
    refine step_rpstore rfl (.tmp 6) (.tmp 41) rfl n0 _ code _ _ (.slice fa FL.length fc) (.slice ba B.length bc) rfl rfl YD.out rfl rfl ?_
    go_simp
    refine hK _ _ ?_
    clear hK K
    refine wpAny_cast (l' := #[true, true, true, false, false, true, false, false]) rfl ?S0125
    rotate_left
    refine wpAny_ready (rs := [2]) (by kernel_rfl) (by simp) ?_
    refine AllReady.cons rfl (fun K hK => ?_) AllReady.nil
    go_simp
    refine hK _ _ ?_
    clear hK K
    refine wpAny_cast (l' := #[true, true, true, false, false, true, false, false]) rfl ?_
    exact ?S0125
    refine wpAny_ready (rs := [0, 4]) (by kernel_rfl) (by simp) ?_
    refine AllReady.cons rfl (fun K hK => ?_) (AllReady.cons rfl (fun K hK => ?_) AllReady.nil)
    refine step_rpload rfl (.tmp 6) rfl n0 code (.slice fa FL.length fc) (.slice ba B.length bc) rfl YD.out ?_
    go_simp
    refine hK _ _ ?_
    clear hK K
    refine wpAny_cast (l' := #[true, true, true, true, false, false, false, false]) rfl ?_
    exact ?S0123
    go_simp
    refine hK _ _ ?_
    clear hK K
    refine wpAny_cast (l' := #[false, true, true, true, true, false, false, false]) rfl ?S1234
    rotate_left
    refine wpAny_ready (rs := [4, 5]) (by kernel_rfl) (by simp) ?_
    refine AllReady.cons rfl (fun K hK => ?_) (AllReady.cons rfl (fun K hK => ?_) AllReady.nil)
    go_simp
    refine hK _ _ ?_
    clear hK K
    refine wpAny_cast (l' := #[true, true, true, true, true, false, false, false]) rfl ?S01234
    rotate_left
    refine step_rpstore rfl (.tmp 6) (.tmp 41) rfl n0 _ code _ _ (.slice fa FL.length fc) (.slice ba B.length bc) rfl rfl YD.out rfl rfl ?_
    go_simp
    refine hK _ _ ?_
    clear hK K
    refine wpAny_cast (l' := #[true, true, true, true, false, true, false, false]) rfl ?S01235
    rotate_left
    refine wpAny_ready (rs := [3]) (by kernel_rfl) (by simp) ?_
    refine AllReady.cons rfl (fun K hK => ?_) AllReady.nil
    go_simp
    refine hK _ _ ?_
    clear hK K
    refine wpAny_cast (l' := #[true, true, true, true, false, true, false, false]) rfl ?_
    exact ?S01235
    refine wpAny_ready (rs := [0]) (by kernel_rfl) (by simp) ?_
    refine AllReady.cons rfl (fun K hK => ?_) AllReady.nil
    refine step_rpload rfl (.tmp 6) rfl n0 code (.slice fa FL.length fc) (.slice ba B.length bc) rfl YD.out ?_
    go_simp
    refine hK _ _ ?_
    clear hK K
    refine wpAny_cast (l' := #[true, true, true, true, true, false, false, false]) rfl ?_
    exact ?S01234
    refine wpAny_ready (rs := [5]) (by kernel_rfl) (by simp) ?_
    refine AllReady.cons rfl (fun K hK => ?_) AllReady.nil
    refine step_rpstore rfl (.tmp 6) (.tmp 41) rfl n0 _ code _ _ (.slice fa FL.length fc) (.slice ba B.length bc) rfl rfl YD.out rfl rfl ?_
    go_simp
    refine hK _ _ ?_
    clear hK K
    refine wpAny_cast (l' := #[true, true, true, true, true, true, false, false]) rfl ?S012345
    rotate_left
    refine wpAny_ready (rs := [4]) (by kernel_rfl) (by simp) ?_
    refine AllReady.cons rfl (fun K hK => ?_) AllReady.nil
    go_simp
    refine hK _ _ ?_
    clear hK K
    refine wpAny_cast (l' := #[true, true, true, true, true, true, false, false]) rfl ?_
    exact ?S012345
    refine wpAny_ready (rs := [6]) (by kernel_rfl) (by simp) ?_
    refine AllReady.cons rfl (fun K hK => ?_) AllReady.nil
    go_simp
    refine hK _ _ ?_
    clear hK K
    refine wpAny_cast (l' := #[true, true, true, true, true, true, true, false]) rfl ?S0123456
    rotate_left
    refine wpAny_ready (rs := [7]) (by kernel_rfl) (by simp) ?_
    refine AllReady.cons rfl (fun K hK => ?_) AllReady.nil
    go_simp
    refine hK _ _ ?_
    clear hK K
    refine wpAny_cast (l' := #[true, true, true, true, true, true, true, true]) rfl ?S01234567
    rotate_left
    refine wpAny_done (by kernel_rfl) ?_ _
    clear YD mixed l0 l1 l0d l2 l2d X10 O10
    obtain ⟨W, hW⟩ : ∃ W, W = World.setRow V10.drew n0 #[.int .i64 code, .slice fa FL.length fc, .slice ba B.length bc] := ⟨_, rfl⟩
    obtain ⟨hRW, hBW, hOW, hAW⟩ := HEND.out W hW
    rw [← hW]
    clear hW HEND
    obtain ⟨z0, z1, z2⟩ := hRW.cells
    simp only [Exit.then]
    refine ‹∀ (a : Act) (w : World), Code.wp _ Code.ret _ a w → _› _ _ ?_
    refine wp_ret ?_
    try simp only [Exit.then]
    change bodyPost Tryz.prog Tryz.f9 (DTellAns bare closed Z w) Exit.ret _ _
    refine bodyPost_ret (v := .tuple #[.agg #[.int .i64 code, .slice fa FL.length fc, .slice ba B.length bc], .int .i64 q, .nilIface]) (by simp [results, Tryz.results9, go_sem, z0, z1, z2]; try rfl) rfl ?_
    have hend : endF (tellP bare closed) Z = (0, ⟨code, fdsOf FL, B⟩, (q : Int)) := by
      rw [endF_ok (HG.out.symm.trans HEQ.out), hzl]
      congr 2
      simp
      omega
    unfold DTellAns
    rw [hend]
    obtain ⟨_, hfa⟩ := nfrow_of hOW
    obtain ⟨_, _, _, _, hb4, hb5⟩ := A10.out
    exact ⟨⟨code, fa, FL.length, fc, ba, B.length, bc, FL, B⟩, rfl, ⟨by show I64 code; unfold I64; omega, hfa, hAW, hb4, ⟨by show FL.length ≤ _; omega, hb5⟩, fsmall_at HFS.out⟩, rfl, hBW⟩
  · obtain ⟨x, hx⟩ : ∃ x, x = if bad = 8 ∧ 20000 < len then 4 else bad := ⟨_, rfl⟩
    have hxn : x ≠ 0 := by
      rw [hx]
      split <;> omega
    have HE : Vl (endF (tellP bare closed) Z = (x, default, 0)) := by
      rcases HCASE.out with ⟨h1, _⟩ | ⟨_, h1⟩
      · exact absurd h1 hx0
      · have hg : (tellP bare closed Z).1 = bad := by rw [← HG.out]; exact h1
        unfold endF
        rw [hg, if_neg hx0, hzl, hx]
        split <;> rfl
    rw [← hx, errW_ne hxn]
    have HXN := vl hxn
    have YQ := vl X10.out.q
    clear hx hx0 hxn HCASE k10 X10
    go_wp2_with (refine wpList_rpstore _ rfl _ _ rfl n0 _ 0 _ _ (.slice none 0 0) (.slice none 0 0) rfl rfl YQ.out rfl rfl ?_)
    intro w12 hR hg12
    have HB12 : Vl (Below w.heap.size w w12) := u_below_grown HR.out.below hg12 HR.out.below.size (fun k hk => by cases hk; exact D5.out)
    obtain ⟨z0, z1, z2⟩ := hR.cells
    clear hR hg12 YQ O10 HR
    go_simp
    refine wpList_plain rfl fun K hK => ?_
    go_simp
    refine hK _ _ ?_
    clear hK K
    refine wpList_plain rfl fun K hK => ?_
    go_simp
    refine hK _ _ ?_
    clear hK K
    simp only [wpList, Exit.then]
    refine ‹∀ (a : Act) (w : World), Code.wp _ Code.ret _ a w → _› _ _ ?_
    refine wp_ret ?_
    try simp only [Exit.then]
    change bodyPost Tryz.prog Tryz.f9 (DTellAns bare closed Z w) Exit.ret _ _
    refine bodyPost_ret (v := .tuple #[.agg #[.int .i64 0, .slice none 0 0, .slice none 0 0], .int .i64 0, .iface 57 (.int .i64 x)]) (by simp [results, Tryz.results9, go_sem, z0, z1, z2]; try rfl) rfl ?_
    unfold DTellAns
    rw [HE.out]
    exact ⟨⟨0, none, 0, 0, none, 0, 0, [], []⟩, by rw [errW_ne HXN.out]; rfl, ⟨by show I64 0; unfold I64; omega, Or.inl ⟨rfl, rfl⟩, Or.inl ⟨rfl, rfl⟩, fun _ => ⟨rfl, rfl⟩, ⟨Nat.zero_le _, Nat.zero_le _⟩, fun t => ⟨Nat.zero_le _, Nat.zero_le _⟩⟩, rfl, HB12.out⟩
theorem nreadtell_any : NReadTellSaid nld := fun a len cap Z bare closed w _ hA hnil hcl hl => nreadtell_ans a len cap Z bare closed w hA hnil hcl hl
end Go.Proofs.YtkaihfminlincafGreatDoor
