/-
  MESSAGES AS LINES: the developers' reader: fields. No claim by itself.
-/
import Derived.Test.YtgjolljhjagngafDoorNdv9
import Derived.Test.YtgjolljhjagngafDoorNdw1
import Derived.Test.YtgjolljhjagngafDoorNopn
import Derived.Laws.AppendOwnNone
import Derived.Deep.DeepCutAuto
import Derived.Deep.CutBlock
namespace Go.Proofs.YtgjolljhjagngafDoor
open Go Go.RowKit Go.Shelf
set_option maxRecDepth 100000
theorem n_infoF : (Tryd.prog.info? 114).map (fun i => (i.zero, i.size, i.bytes)) = some (some (.agg #[.string ⟨#[]⟩, .string ⟨#[]⟩]), 2, 32) := by kernel_rfl
abbrev FOwn (w : World) (base : Nat) (v : Value) (FL : List (ByteArray × ByteArray)) : Prop := w.ownsRow base 114 2 v FL.length (fcells FL)
theorem fown_tn {S : Nat → Prop} {base : Nat} {w w' : World} {v : Value} {FL : List (ByteArray × ByteArray)} (h : FOwn w base v FL) (hl : ∀ k, S k → k < base) (ht : Tn S w w') : FOwn w' base v FL := by
  obtain ⟨h1, ⟨rfl, h0⟩ | ⟨g, cap, cur, rfl, hb, hc, hr⟩⟩ := id h
  · exact ⟨h1, Or.inl ⟨rfl, h0⟩⟩
  · exact ⟨h1, Or.inr ⟨g, cap, cur, rfl, hb, (ht.block g (Array.getElem?_eq_some_iff.1 hc).1 (fun e => by have := hl g e; omega)).trans hc, hr⟩⟩
theorem fown_shape {w : World} {base : Nat} {v : Value} {FL : List (ByteArray × ByteArray)} (h : FOwn w base v FL) : ∃ sa sc, v = .slice sa FL.length sc := by
  obtain ⟨_, ⟨rfl, h0⟩ | ⟨g, cap, cur, rfl, _⟩⟩ := id h
  · exact ⟨none, 0, by rw [h0]⟩
  · exact ⟨_, cap, rfl⟩
def fsmall (FL : List (ByteArray × ByteArray)) : Prop := ∀ f ∈ FL, f.1.size ≤ 400 ∧ f.2.size ≤ 400
theorem fsmall_snoc {FL : List (ByteArray × ByteArray)} (h : fsmall FL) {n v : ByteArray} (h1 : n.size ≤ 400) (h2 : v.size ≤ 400) : fsmall (FL ++ [(n, v)]) := fun f hf => by
  rcases List.mem_append.1 hf with k | k
  · exact h f k
  · rw [List.mem_singleton.1 k]; exact ⟨h1, h2⟩
theorem fds_snoc (FL : List (ByteArray × ByteArray)) (n v : ByteArray) : fdsOf (FL ++ [(n, v)]) = fdsOf FL ++ [(unums n, unums v)] := by simp [fdsOf]
theorem tn_tr {S : Nat → Prop} {lb : Nat} {w w' : World} (hS : S lb) (h : Tr lb w w') : Tn S w w' := ⟨h.os, h.tape, h.output, h.size, fun k hk hn => h.block k hk (fun e => hn (by rw [e]; exact hS))⟩
theorem tn_trans {S : Nat → Prop} {a b c : World} (h : Tn S a b) (k : Tn S b c) : Tn S a c := ⟨k.os.trans h.os, k.tape.trans h.tape, k.output.trans h.output, Nat.le_trans h.size k.size, fun i hi hs => (k.block i (Nat.lt_of_lt_of_le hi h.size) hs).trans (h.block i hi hs)⟩
theorem tn_grow {S : Nat → Prop} {w w' w2 : World} {row : Option Nat} (h : Tn S w w') (hg : w'.grownBy w2 row) (hr : ∀ k, row = some k → w.heap.size ≤ k) : Tn S w w2 :=
  ⟨hg.os.trans h.os, hg.tape.trans h.tape, hg.output.trans h.output, Nat.le_trans h.size hg.size, fun k hk hn => (hg.block k (Nat.lt_of_lt_of_le hk h.size) (fun e => by have := hr k e.symm; omega)).trans (h.block k hk hn)⟩
theorem RS.grown {w0 w w' : World} {lb : Nat} {a : Option Addr} {len cap : Nat} {Z : List Int} {p : Nat} {bad : Int} {row : Option Nat} (h : RS w0 w lb a len cap Z p bad) (hg : w.grownBy w' row) (hr : ∀ k, row = some k → w0.heap.size ≤ k ∧ k ≠ lb) : RS w0 w' lb a len cap Z p bad :=
  ⟨u_below_grown h.below hg h.below.size (fun k hk => (hr k hk).1), h.base, h.arg, h.mem.kept (hg.block lb h.lt (fun e => (hr lb e.symm).2 rfl)), h.le, h.most⟩
/-- What is asked of the function that reads the last line. -/
structure LastSaid (β : Type) [Inhabited β] (w0 : World) (lb : Nat) (a : Option Addr) (len cap : Nat) (Z : List Int) (least : Int) (coded : Bool) (lg : Nat) (lbs : Array Value) (Cap : Int × Bool → World → Prop) (S : Nat → Prop) : Prop where
  enters : ∀ args w, (callFunc lg args).run Tryd.prog w = .ok (.enter lg args) w
  no : ∀ (n : ByteArray) (W : World), Cap (-1, false) W → lastP least coded (unums n) = none → Calls Tryd.prog lg (#[.string n] ++ lbs) W fun e w' => e = .returned (.bool false) ∧ Below W.heap.size W w'
  yes : ∀ (G : Int × β × List Int) (f : Int × Bool → Pz β) (n : ByteArray) (p : Pz (Int × Bool)) (W : World), lastP least coded (unums n) = some p → Cap (-1, false) W → Dst G (bindP p f) w0 W lb a len cap Z →
    Calls Tryd.prog lg (#[.string n] ++ lbs) W fun e w' => e = .returned (.bool true) ∧ ∃ v, Dst G (f v) w0 w' lb a len cap Z ∧ Cap v w' ∧ Tn S W w'
  keepR : ∀ v W W', Cap v W → Tr lb W W' → Cap v W'
  keepG : ∀ W W', Cap (-1, false) W → (∀ k, S k → W'.heap[k]? = W.heap[k]?) → Cap (-1, false) W'
section
variable {β : Type} [Inhabited β]
/-- What is read behind a name. -/
def nextK (least : Int) (coded : Bool) (f : Hd → Pz β) (k : Nat) (acc : List Fd) (n : List Int) : Pz β :=
  match k with
  | 0 => failP 4
  | k + 1 => bindP (mtsP [32]) fun _ => bindP (valP 0) fun v => bindP (headP least coded k (acc ++ [(n, v)])) f
def nameK (least : Int) (coded : Bool) (f : Hd → Pz β) (k : Nat) (acc : List Fd) (n : List Int) : Pz β :=
  match lastP least coded n with
  | some p => bindP p fun v => bindP (mtsP [13, 10]) fun _ => f (acc, v.1, v.2)
  | none => if n = hostN ∨ n = lengthN ∨ n = codingN then failP 2 else nextK least coded f k acc n
theorem head_is (least : Int) (coded : Bool) (f : Hd → Pz β) (k : Nat) (acc : List Fd) : bindP (headP least coded k acc) f = lookP fun c => if c = 13 then bindP (mtsP [13, 10]) fun _ => f (acc, -1, false) else bindP (txtP 58 isSmall 1) (nameK least coded f k acc) := by
  have go : ∀ next : List Int → Pz Hd, (∀ n, bindP (next n) f = nextK least coded f k acc n) → bindP (headB least coded acc next) f = lookP fun c => if c = 13 then bindP (mtsP [13, 10]) fun _ => f (acc, -1, false) else bindP (txtP 58 isSmall 1) (nameK least coded f k acc) := by
    intro next hn
    unfold headB
    rw [bind_look]
    congr 1
    funext c
    split
    · rw [bind_assoc]
      congr 1
    · rw [bind_assoc]
      congr 1
      funext n
      unfold nameK
      cases hl : lastP least coded n with
      | some p =>
        show bindP (bindP p _) f = bindP p _
        rw [bind_assoc]
        refine congrArg (bindP p) (funext fun v => ?_)
        rw [bind_assoc]
        congr 1
      | none =>
        show bindP (if n = hostN ∨ n = lengthN ∨ n = codingN then failP 2 else next n) f = if n = hostN ∨ n = lengthN ∨ n = codingN then failP 2 else nextK least coded f k acc n
        split
        · funext b
          simp [bindP, failP]
        · exact hn n
  cases k with
  | zero =>
    unfold headP
    exact go _ (fun n => by funext b; simp [bindP, failP, nextK])
  | succ k =>
    unfold headP
    exact go _ (fun n => by unfold nextK; rw [bind_assoc]; congr 1; funext _; rw [bind_assoc])
theorem head_crlf {least : Int} {coded : Bool} {f : Hd → Pz β} {k : Nat} {acc : List Fd} {b : List Int} (h : b ≠ [] ∧ b.headD 0 = 13) : bindP (headP least coded k acc) f b = bindP (mtsP [13, 10]) (fun _ => f (acc, -1, false)) b := by
  rw [head_is]
  match b, h with
  | c :: r, h =>
    have hc : c = 13 := by simpa using h.2
    rw [lookP, if_pos hc]
theorem head_name {least : Int} {coded : Bool} {f : Hd → Pz β} {k : Nat} {acc : List Fd} {b : List Int} (h : b = [] ∨ b.headD 0 ≠ 13) : bindP (headP least coded k acc) f b = bindP (txtP 58 isSmall 1) (nameK least coded f k acc) b := by
  rw [head_is]
  match b with
  | [] => rfl
  | c :: r =>
    have hc : c ≠ 13 := by simpa using h
    rw [lookP, if_neg hc]
variable {G : Int × β × List Int} {w0 wx : World} {lb : Nat} {a : Option Addr} {len cap : Nat} {Z : List Int}
/-- Behind the loop. -/
def FdX (G : Int × β × List Int) (f : Hd → Pz β) (w0 wx : World) (lb : Nat) (a : Option Addr) (len cap : Nat) (Z : List Int) (Cap : Int × Bool → World → Prop) (S : Nat → Prop) (x : Value) (wc : World) : Prop :=
  ∃ (FL : List (ByteArray × ByteArray)) (v : Int × Bool), FOwn wc wx.heap.size x FL ∧ fsmall FL ∧ FL.length ≤ 41 ∧ Dst G (bindP (mtsP [13, 10]) fun _ => f (fdsOf FL, v.1, v.2)) w0 wc lb a len cap Z ∧ Cap v wc ∧ Tn S wx wc
/-- In the loop. -/
def FdI (G : Int × β × List Int) (least : Int) (coded : Bool) (f : Hd → Pz β) (Z : List Int) (FL : List (ByteArray × ByteArray)) (q : Nat) (bad : Int) : Prop :=
  (bad = 0 ∧ FL.length ≤ 40 ∧ G = bindP (headP least coded (40 - FL.length) (fdsOf FL)) f (Z.drop q)) ∨ (bad ≠ 0 ∧ G.1 = bad)
/-- What is kept in the loop. -/
def FdP (wx : World) (Cap : Int × Bool → World → Prop) (S : Nat → Prop) (x : Value) (FL : List (ByteArray × ByteArray)) (w : World) : Prop := FOwn w wx.heap.size x FL ∧ Cap (-1, false) w ∧ Tn S wx w
theorem FdP.tr {Cap : Int × Bool → World → Prop} {S : Nat → Prop} {x : Value} {FL : List (ByteArray × ByteArray)} {w w' : World} {least : Int} {coded : Bool} {lg : Nat} {lbs : Array Value} (h : FdP wx Cap S x FL w) (HL : LastSaid β w0 lb a len cap Z least coded lg lbs Cap S) (hSl : S lb) (hS : ∀ k, S k → w0.heap.size ≤ k ∧ k < wx.heap.size) (ht : Tr lb w w') : FdP wx Cap S x FL w' :=
  ⟨fown_tn h.1 (fun k hk => (hS k hk).2) (tn_tr hSl ht), HL.keepR _ _ _ h.2.1 ht, tn_trans h.2.2 (tn_tr hSl ht)⟩
/-- What is read behind a good name. -/
def goK (least : Int) (coded : Bool) (f : Hd → Pz β) (m : Nat) (acc : List Fd) (n : List Int) : Pz β := bindP (mtsP [32]) fun _ => bindP (valP 0) fun v => if m = 40 then retP default else bindP (headP least coded (40 - m - 1) (acc ++ [(n, v)])) f
set_option maxHeartbeats 8000000 in
theorem fields_st {f : Hd → Pz β} (least : Int) (coded : Bool) (lg : Nat) (lbs : Array Value) (Cap : Int × Bool → World → Prop) (S : Nat → Prop) (HLS : LastSaid β w0 lb a len cap Z least coded lg lbs Cap S) (h : Dst G (bindP (headP least coded 40 []) f) w0 wx lb a len cap Z)
    (hc : Cap (-1, false) wx) (hSl : S lb) (hS : ∀ k, S k → w0.heap.size ≤ k ∧ k < wx.heap.size) :
    Calls Tryd.prog 57 #[rptr lb, .func (.func lg) #[] lbs] wx fun e w' => ∃ (x : Value) (FL : List (ByteArray × ByteArray)) (v : Int × Bool), e = .returned x ∧ FOwn w' wx.heap.size x FL ∧ fsmall FL ∧ FL.length ≤ 41 ∧ Dst G (f (fdsOf FL, v.1, v.2)) w0 w' lb a len cap Z ∧ Cap v w' ∧ Tn S wx w' := by
  obtain ⟨i0, hi, hz0, hz1, hz2⟩ := info_parts n_infoF
  have HI := vl hi
  have HZ : Vl (i0.zero = some (.agg #[.string ⟨#[]⟩, .string ⟨#[]⟩]) ∧ i0.size = 2 ∧ i0.bytes = 32) := ⟨hz0, hz1, hz2⟩
  clear hi hz0 hz1 hz2
  obtain ⟨q0, bad0, hR, hG⟩ := h
  have HR := vl hR
  have hlt := hR.lt
  have HZL := vl hR.zlen
  have hmost := hR.most
  unfold ULim at hmost
  have HI0 : Vl (FdI G least coded f Z [] q0 bad0) := by
    rcases hG with ⟨h1, h2⟩ | h1
    · exact Or.inl ⟨h1, by simp, h2⟩
    · exact Or.inr h1
  have HC0 := vl hc
  have HL := vl HLS
  have HSS := vl hS
  have HSL := vl hSl
  have eg := HLS.enters
  clear hR hG hc HLS hS hSl
  unfold rptr
  go_enter Tryd.func57, Tryd.ntmps57
  go_upto_block 0 with fail
  go_cut [4] (fun x wc => Vl (FdX G f w0 wx lb a len cap Z Cap S x wc))
  case first =>
    as_aux_lemma =>
      go_wp2_with fail
      go_loopg [4] 43 (fun gf x wr => ∃ (FL : List (ByteArray × ByteArray)) (q : Nat) (bad : Int) (sa : Option Addr) (sc : Nat), x = .slice sa FL.length sc ∧ Vl (FdP wx Cap S x FL wr) ∧ Vl (fsmall FL) ∧ FL.length ≤ 41 ∧ Vl (RS w0 wr lb a len cap Z q bad) ∧ Vl (FdI G least coded f Z FL q bad) ∧ Vl (42 ≤ FL.length + gf))
      case atStart => exact ⟨[], q0, bad0, none, 0, rfl, ⟨World.ownsRow_nil _ _ _ _, HC0.out, Tn.refl _ _⟩, (fun f hf => by cases hf), by simp, HR.out, HI0.out, by simp [Vl]⟩
      case round =>
        obtain ⟨FL, q, bad, sa, sc, rfl, HP, HF, hF, HS, HI, HGK⟩ := hrel
        clear HR HI0 HC0
        have c2 := HS.out.mem.c2
        have hle := HS.out.le
        go_upto_region 1 with fail
        go_cut [16] (fun b wc => ∃ bb : Bool, b = .bool bb ∧ Vl (Below wr.heap.size wr wc) ∧ Vl (SeeT Z len q bad 13 bb))
        case first =>
          as_aux_lemma =>
            by_cases hbad : bad = 0
            · subst hbad
              rw [errW_0] at c2
              have HSE := vl (nsees_any lb a len cap Z q 0 13 wr HS.out.mem HS.out.now hle HS.out.most)
              unfold rptr at HSE
              obtain ⟨sb, hsb⟩ : ∃ sb, seesL Z q 13 = sb := ⟨_, rfl⟩
              rw [hsb] at HSE
              have HSB := vl hsb
              clear hsb
              go_wp2_with fail
              refine HSE.out.mono ?_
              rintro e w1 ⟨rfl, hb1⟩
              cases sb with
              | true =>
                have hx := HSB.out
                unfold seesL at hx
                rw [Bool.and_eq_true, decide_eq_true_eq, decide_eq_true_eq, HZL.out] at hx
                have HX := vl hx
                clear hx
                go_wp2
                go_meet
                exact ⟨false, rfl, hb1, Or.inr ⟨rfl, Or.inr HX.out⟩⟩
              | false =>
                have hx : q = len ∨ Z.getD q 0 ≠ 13 := by
                  rcases Nat.lt_or_ge q len with h | h
                  · right
                    intro e
                    have hs := HSB.out
                    unfold seesL at hs
                    rw [decide_eq_true e, decide_eq_true (by rw [HZL.out]; exact h)] at hs
                    cases hs
                  · left; omega
                have HX := vl hx
                clear hx
                go_wp2
                go_meet
                exact ⟨true, rfl, hb1, Or.inl ⟨rfl, rfl, HX.out⟩⟩
            · rw [errW_ne hbad] at c2
              have HX := vl hbad
              clear hbad
              go_wp2
              go_meet
              exact ⟨false, rfl, Below.refl _ _, Or.inr ⟨rfl, Or.inl HX.out⟩⟩
        case rest =>
        obtain ⟨bb, rfl, hbc, HSEE⟩ := hcut
        have HS1 := vl (HS.out.on hbc.out)
        have HP1 := vl (HP.out.tr HL.out HSL.out HSS.out (Tr.of hbc.out))
        clear HS HP hbc c2
        cases bb with
        | false =>
          have HX : Vl (FdX G f w0 wx lb a len cap Z Cap S (.slice sa FL.length sc) wc) := by
            refine ⟨FL, (-1, false), HP1.out.1, HF.out, hF, ⟨q, bad, HS1.out, ?_⟩, HP1.out.2.1, HP1.out.2.2⟩
            rcases HI.out with ⟨h1, h2, h3⟩ | h1
            · refine Or.inl ⟨h1, ?_⟩
              have h4 : q < len ∧ Z.getD q 0 = 13 := by
                rcases HSEE.out with ⟨h, _⟩ | ⟨_, h⟩
                · cases h
                · exact h.resolve_left (fun k => k h1)
              rw [h3]
              exact head_crlf (by have := drop_head (Z := Z) (q := q) (by rw [HZL.out]; exact h4.1); rw [h4.2] at this; exact this)
            · exact Or.inr h1
          clear HSEE HI
          go_wp2
          go_meet
          exact HX.out
        | true =>
        obtain ⟨hbad, hns⟩ : bad = 0 ∧ (q = len ∨ Z.getD q 0 ≠ 13) := by
          rcases HSEE.out with ⟨_, h⟩ | ⟨h, _⟩
          · exact h
          · cases h
        subst hbad
        obtain ⟨h40, hG⟩ : FL.length ≤ 40 ∧ G = bindP (headP least coded (40 - FL.length) (fdsOf FL)) f (Z.drop q) := by
          rcases HI.out with ⟨_, h⟩ | ⟨h, _⟩
          · exact h
          · exact absurd rfl h
        rw [head_name (by
          rcases hns with h | h
          · exact Or.inl (List.drop_eq_nil_of_le (by rw [HZL.out]; omega))
          · by_cases h5 : q < len
            · rw [(drop_head (Z := Z) (q := q) (by rw [HZL.out]; exact h5)).2]; exact Or.inr h
            · exact Or.inl (List.drop_eq_nil_of_le (by rw [HZL.out]; omega)))] at hG
        have HD1 : Vl (Dst G (bindP (txtP 58 isSmall 1) (nameK least coded f (40 - FL.length) (fdsOf FL))) w0 wc lb a len cap Z) := ⟨q, 0, HS1.out, Or.inl ⟨rfl, hG⟩⟩
        have H1 := vl (nnamef_any wc)
        have hltc : lb < wc.heap.size := HS1.out.lt
        unfold formV at H1
        clear hG hns HSEE HI HS1
        go_wp2_with fail
        refine H1.out.mono ?_
        rintro e w1 ⟨Gf, rfl, hmf, hb1⟩
        have H2 := vl (text_st 58 isSmall 1 Gf _ hmf hltc (HD1.out.on hb1))
        have HP2 := vl (HP1.out.tr HL.out HSL.out HSS.out (Tr.of hb1))
        unfold rptr formV at H2
        clear H1 hmf hb1 HD1 HP1 hltc
        go_wp2_with fail
        refine H2.out.mono ?_
        rintro e w2 ⟨s, rfl, hd2, ht2, hs2⟩
        have HP3 := vl (HP2.out.tr HL.out HSL.out HSS.out ht2)
        obtain ⟨q2, bad2, hR2, hG2⟩ := hd2
        have HR2 := vl hR2
        have HS4 := vl hs2
        have c2 := hR2.mem.c2
        clear H2 HP2 ht2 hR2 hs2
        by_cases hbad2 : bad2 = 0
        case neg =>
          have HX : Vl (FdX G f w0 wx lb a len cap Z Cap S (.slice sa FL.length sc) w2) := ⟨FL, (-1, false), HP3.out.1, HF.out, hF, ⟨q2, bad2, HR2.out, Or.inr (hG2.resolve_left (fun h => hbad2 h.1))⟩, HP3.out.2.1, HP3.out.2.2⟩
          rw [errW_ne hbad2] at c2
          clear hG2 hbad2
          go_wp2
          go_meet
          exact HX.out
        subst hbad2
        rw [errW_0] at c2
        have hG3 : G = nameK least coded f (40 - FL.length) (fdsOf FL) (unums s) (Z.drop q2) := by
          rcases hG2 with ⟨_, h⟩ | ⟨h, _⟩
          · exact h
          · exact absurd rfl h
        clear hG2
        unfold nameK at hG3
        cases hl : lastP least coded (unums s) with
        | some p =>
          rw [hl] at hG3
          have H3 := vl (HL.out.yes G (fun v => bindP (mtsP [13, 10]) fun _ => f (fdsOf FL, v.1, v.2)) s p w2 hl HP3.out.2.1 ⟨q2, 0, HR2.out, Or.inl ⟨rfl, hG3⟩⟩)
          clear hG3 hl
          go_wp2_with fail
          go_at_fn lg
          refine H3.out.mono ?_
          rintro e w3 ⟨rfl, v, hd3, hc3, ht3⟩
          have HX : Vl (FdX G f w0 wx lb a len cap Z Cap S (.slice sa FL.length sc) w3) := ⟨FL, v, fown_tn HP3.out.1 (fun k hk => (HSS.out k hk).2) ht3, HF.out, hF, hd3, hc3, tn_trans HP3.out.2.2 ht3⟩
          clear hd3 hc3 ht3 H3 c2
          go_wp2
          go_meet
          exact HX.out
        | none =>
          rw [hl] at hG3
          have H3 := vl (HL.out.no s w2 HP3.out.2.1 hl)
          have HG3 : Vl (G = (if unums s = hostN ∨ unums s = lengthN ∨ unums s = codingN then failP 2 else nextK least coded f (40 - FL.length) (fdsOf FL) (unums s)) (Z.drop q2)) := hG3
          clear hG3 hl
          go_wp2_with fail
          go_at_fn lg
          refine H3.out.mono ?_
          rintro e w3 ⟨rfl, hb3⟩
          have HP4 := vl (HP3.out.tr HL.out HSL.out HSS.out (Tr.of hb3))
          have HR3 := vl (HR2.out.on hb3)
          clear HR2 HP3 hb3 c2 H3
          go_wp2_with fail
          refine (ntaken_any s w3).mono ?_
          rintro e w4 ⟨rfl, rfl⟩
          obtain ⟨tb, htb⟩ : ∃ tb, takenB s = tb := ⟨_, rfl⟩
          rw [htb]
          have HTB := vl htb
          clear htb
          go_upto_if 31 with fail
          go_cut [] (fun wy => Vl (Dst G (nextK least coded f (40 - FL.length) (fdsOf FL) (unums s)) w0 wy lb a len cap Z) ∧ Vl (Tr lb w3 wy))
          case first =>
            as_aux_lemma =>
              cases tb with
              | false =>
                have HD : Vl (Dst G (nextK least coded f (40 - FL.length) (fdsOf FL) (unums s)) w0 w3 lb a len cap Z) := by
                  refine ⟨q2, 0, HR3.out, Or.inl ⟨rfl, ?_⟩⟩
                  have hn := of_decide_eq_false HTB.out
                  have := HG3.out
                  rw [if_neg hn] at this
                  exact this
                clear HG3
                go_wp2
                go_meet
                exact ⟨HD.out, Tr.refl _ _⟩
              | true =>
                have hg2 : G.1 = 2 := by
                  have hn := of_decide_eq_true HTB.out
                  have := HG3.out
                  rw [if_pos hn] at this
                  rw [this]
                  rfl
                have HG2 := vl hg2
                have H5 := vl (fail_rs w0 lb a len cap Z q2 0 2 w3 HR3.out (by decide))
                unfold rptr at H5
                clear HG3 hg2
                go_wp2_with fail
                refine H5.out.mono ?_
                rintro e w5 ⟨rfl, hR5, ht5⟩
                have HD : Vl (Dst G (nextK least coded f (40 - FL.length) (fdsOf FL) (unums s)) w0 w5 lb a len cap Z) := ⟨q2, 2, hR5, Or.inr ⟨by decide, HG2.out⟩⟩
                have HT := vl ht5
                clear hR5 ht5 H5
                go_wp2
                go_meet
                exact ⟨HD.out, HT.out⟩
          case rest =>
          obtain ⟨HD5, ht5⟩ := hcut
          obtain ⟨wy, hwy⟩ : ∃ wy, wy = wc := ⟨_, rfl⟩
          subst hwy
          have HP5 := vl (HP4.out.tr HL.out HSL.out HSS.out ht5.out)
          clear HP4 ht5 HR3 HG3 HTB
          go_upto_if 37 with fail
          go_cut [] (fun wz => Vl (Dst G (goK least coded f FL.length (fdsOf FL) (unums s)) w0 wz lb a len cap Z) ∧ Vl (Tr lb wy wz) ∧ Vl (FL.length = 40 → G.1 ≠ 0))
          case first =>
            as_aux_lemma =>
              obtain ⟨q5, bad5, hR5, hG5⟩ := HD5.out
              have HR5 := vl hR5
              have HG5 := vl hG5
              clear hR5 hG5 HD5
              by_cases hf40 : FL.length = 40
              · have p1 : ((FL.length : Int) == 40) = true := by simp [hf40]
                have H6 := vl (fail_rs w0 lb a len cap Z q5 bad5 4 wy HR5.out (by decide))
                unfold rptr at H6
                have HNE : Vl (FL.length = 40 → G.1 ≠ 0) := fun _ => by
                  rcases HG5.out with ⟨h1, h2⟩ | ⟨h1, h2⟩
                  · rw [h2, show 40 - FL.length = 0 by omega]
                    show (4 : Int) ≠ 0
                    decide
                  · rw [h2]
                    exact h1
                have HX : Vl (∀ w', RS w0 w' lb a len cap Z q5 (if bad5 = 0 then 4 else bad5) → Dst G (goK least coded f FL.length (fdsOf FL) (unums s)) w0 w' lb a len cap Z) := fun w' hR => by
                  refine ⟨q5, _, hR, Or.inr ?_⟩
                  rcases HG5.out with ⟨h1, h2⟩ | ⟨h1, h2⟩
                  · rw [if_pos h1]
                    refine ⟨by decide, ?_⟩
                    rw [h2, show 40 - FL.length = 0 by omega]
                    rfl
                  · rw [if_neg h1]
                    exact ⟨h1, h2⟩
                clear hf40 HG5
                go_wp2_with fail
                refine H6.out.mono ?_
                rintro e w5 ⟨rfl, hR6, ht6⟩
                have HD := vl (HX.out _ hR6)
                have HT := vl ht6
                clear hR6 ht6 H6 HX
                go_wp2
                go_meet
                exact ⟨HD.out, HT.out, HNE.out⟩
              · have p1 : ((FL.length : Int) == 40) = false := by simp; omega
                have HD : Vl (Dst G (goK least coded f FL.length (fdsOf FL) (unums s)) w0 wy lb a len cap Z) := by
                  refine ⟨q5, bad5, HR5.out, ?_⟩
                  have e : nextK least coded f (40 - FL.length) (fdsOf FL) (unums s) = goK least coded f FL.length (fdsOf FL) (unums s) := by
                    obtain ⟨k, hk⟩ : ∃ k, 40 - FL.length = k + 1 := ⟨40 - FL.length - 1, by omega⟩
                    unfold goK
                    simp only [if_neg hf40]
                    rw [hk]
                    rfl
                  rw [← e]
                  exact HG5.out
                have HNE : Vl (FL.length = 40 → G.1 ≠ 0) := fun h => absurd h hf40
                clear hf40 HG5
                go_wp2
                go_meet
                exact ⟨HD.out, Tr.refl _ _, HNE.out⟩
          case rest =>
          obtain ⟨HD6, ht6, HNE⟩ := hcut
          have HP6 := vl (HP5.out.tr HL.out HSL.out HSS.out ht6.out)
          have H6 := vl (word_st (s := ⟨#[32]⟩) (by decide) (show Dst G (bindP (mtsP (unums ⟨#[32]⟩)) _) w0 wc lb a len cap Z from HD6.out))
          unfold rptr at H6
          clear HD5 HD6 HP5 ht6
          go_wp2_with fail
          refine H6.out.mono ?_
          rintro e w7 ⟨rfl, hd7, ht7⟩
          have HP7 := vl (HP6.out.tr HL.out HSL.out HSS.out ht7)
          have H7 := vl (value_st 0 hd7)
          unfold rptr at H7
          clear H6 HP6 hd7 ht7
          go_wp2_with fail
          refine H7.out.mono ?_
          rintro e w8 ⟨v, rfl, hd8, ht8, hv4⟩
          have HP8 := vl (HP7.out.tr HL.out HSL.out HSS.out ht8)
          have HD8 := vl hd8
          clear H7 HP7 hd8 ht8
          have hs8 : wx.heap.size ≤ w8.heap.size := HP8.out.2.2.size
          have HCN : Vl (∀ j u, [Value.string s, .string v][j]? = some u → (w8.alloc (.cells #[.string s, .string v] 114)).cell? ((⟨w8.heap.size, 0, none⟩ : Addr).add j) = some u) := by
            intro j u hj
            have hh : (w8.alloc (.cells #[.string s, .string v] 114)).heap[w8.heap.size]? = some (.cells #[.string s, .string v] 114 (0, 0)) := heap_alloc_new w8 _
            rw [n_add]
            simp only [World.cell?, hh, Nat.zero_add]
            match j with
            | 0 => exact hj
            | 1 => exact hj
            | j + 2 => simp at hj
          have HCO : Vl (∀ u ∈ [Value.string s, .string v], u.oneCell' = true) := by intro u hu; simp at hu; rcases hu with rfl | rfl <;> rfl
          go_wp2_with (at_builtin; refine wpList_append_own _ rfl _ _ 32 rfl wx.heap.size 114 i0 (.agg #[.string ⟨#[]⟩, .string ⟨#[]⟩]) 2 32 Tryd.underlying32 HI.out HZ.out.1 HZ.out.2.1 HZ.out.2.2 rfl (by decide) (.slice sa FL.length sc) FL.length _ rfl (HP8.out.1.alloc _) ⟨w8.heap.size, 0, none⟩ 1 1 [.string s, .string v] rfl rfl HCN.out HCO.out (by unfold maxLen; omega) (by omega) (by rw [World.size_alloc]; omega) ?_)
          intro v3 w9 hown3 hgrow3 _
          have hfc : fcells FL ++ [Value.string s, .string v] = fcells (FL ++ [(s, v)]) := by rw [fcells_append]; rfl
          rw [hfc] at hown3
          have hle3 : (FL ++ [(s, v)]).length = FL.length + 1 := by simp
          have hal : Below w8.heap.size w8 (w8.alloc (.cells #[.string s, .string v] 114)) := (Below.refl _ _).alloc (Nat.le_refl _) _
          have HO3 : Vl (FOwn w9 wx.heap.size v3 (FL ++ [(s, v)])) := by show FOwn _ _ _ _; unfold FOwn; rw [hle3]; exact hown3
          have hrow : ∀ k, (Value.slice sa FL.length sc).ownBlock = some k → wx.heap.size ≤ k := fun k hk => (HP8.out.1.lt k hk).1
          have HT3 := vl (tn_grow (tn_trans HP8.out.2.2 (tn_tr HSL.out (Tr.of hal))) hgrow3 hrow)
          have HC3 := vl (HL.out.keepG w8 w9 HP8.out.2.1 (fun k hk => (hgrow3.block k (by have := (HSS.out k hk).2; rw [World.size_alloc]; omega) (fun e => by have := hrow k e.symm; have := (HSS.out k hk).2; omega)).trans (hal.block k (by have := (HSS.out k hk).2; omega))))
          obtain ⟨q9, bad9, hR9, hG9⟩ := HD8.out
          have HR9 := vl ((hR9.on hal).grown hgrow3 (fun k hk => ⟨by have := hrow k hk; have := hR9.base; omega, by have := hrow k hk; omega⟩))
          obtain ⟨sa3, sc3, rfl⟩ := fown_shape HO3.out
          have HI3 : Vl (FdI G least coded f Z (FL ++ [(s, v)]) q9 bad9) := by
            rcases hG9 with ⟨h1, h2⟩ | h1
            · by_cases hf40 : FL.length = 40
              · rw [if_pos hf40] at h2
                exact absurd (by rw [h2]; rfl) (HNE.out hf40)
              · refine Or.inl ⟨h1, by rw [hle3]; omega, ?_⟩
                rw [if_neg hf40] at h2
                rw [hle3, fds_snoc, h2, show 40 - FL.length - 1 = 40 - (FL.length + 1) by omega]
            · exact Or.inr h1
          have HF3 := vl (fsmall_snoc HF.out HS4.out hv4)
          have hgk : 42 ≤ FL.length + gk := HGK.out
          obtain ⟨g', rfl⟩ : ∃ g', gk = g' + 1 := ⟨gk - 1, by omega⟩
          clear hown3 hgrow3 hfc hal hrow HP8 HCN HCO HD8 hR9 hG9 HI
          go_wp2
          go_roundg g'
          case measure => omega
          case rel =>
            exact ⟨FL ++ [(s, v)], q9, bad9, sa3, sc3, by rw [hle3], ⟨HO3.out, HC3.out, HT3.out⟩, HF3.out, by omega, HR9.out, HI3.out, by show 42 ≤ _; omega⟩
  case rest =>
    obtain ⟨FL, v, h1, h2, h3, h4, h5, h6⟩ := hcut.out
    have HO := vl h1
    have H2 := vl h2
    have HC := vl h5
    have HT := vl h6
    have H4 := vl (word_st (s := ⟨#[13, 10]⟩) (by decide) (show Dst G (bindP (mtsP (unums ⟨#[13, 10]⟩)) _) w0 wc lb a len cap Z from h4))
    obtain ⟨sa, sc, rfl⟩ := fown_shape h1
    unfold rptr at H4
    clear hcut h1 h2 h4 h5 h6 HR HI0 HC0
    go_wp2_with fail
    refine H4.out.mono ?_
    rintro e w1 ⟨rfl, hd1, ht1⟩
    have HO1 := vl (fown_tn HO.out (fun k hk => (HSS.out k hk).2) (tn_tr HSL.out ht1))
    have HT1 := vl (tn_trans HT.out (tn_tr HSL.out ht1))
    have HC1 := vl (HL.out.keepR _ _ _ HC.out ht1)
    have HD1 := vl hd1
    clear hd1 ht1 HO HT HC H4
    go_wp2
    go_ret
    exact ⟨_, FL, v, rfl, HO1.out, H2.out, h3, HD1.out, HC1.out, HT1.out⟩
end
end Go.Proofs.YtgjolljhjagngafDoor
