/-
  CONTRACT of the Go function frame.checkSets. No claim by itself.
-/
import Derived.Test.YtdlaaollamgplagGreatDoorSetc
import Derived.Test.YtdlaaollamgplagGreatDoorChain3
import Derived.Test.YtdlaaollamgplagGreatDoorRcheck
namespace Go.Proofs.YtdlaaollamgplagGreatDoor
open Go Go.RowKit Go.Shelf
set_option maxRecDepth 100000
attribute [local go_sem] Oper.semAt_some
/-- What is wrong with one setting. -/
def ftF (p1 p2 : Int) : Int := if p1 = 4 ∧ 2147483647 < p2 then 3 else if p1 = 5 ∧ p2 < 1024 then 1 else 0
def ft (Z : List Int) (j : Nat) : Int := ftF (sId Z j) (sVal Z j)
theorem sId_drop (Z : List Int) (j : Nat) : sId (Z.drop 6) j = sId Z (j + 1) := by unfold sId; rw [List.drop_drop, show 6 * (j + 1) = 6 + 6 * j by omega]
theorem sVal_drop (Z : List Int) (j : Nat) : sVal (Z.drop 6) j = sVal Z (j + 1) := by unfold sVal; rw [List.drop_drop, show 6 * (j + 1) + 2 = 6 + (6 * j + 2) by omega]
theorem ft_drop (Z : List Int) (j : Nat) : ft (Z.drop 6) j = ft Z (j + 1) := by unfold ft; rw [sId_drop, sVal_drop]
theorem setsF_succ (m : Nat) (Z : List Int) : setsF (m + 1) Z = if ft Z 0 = 0 then setsF m (Z.drop 6) else ft Z 0 := by
  have e1 : sId Z 0 = word (Z.take 2) := by simp [sId]
  have e2 : sVal Z 0 = word ((Z.drop 2).take 4) := by simp [sVal]
  unfold ft ftF
  rw [e1, e2]
  show (if word (Z.take 2) = 4 ∧ 2147483647 < word ((Z.drop 2).take 4) then 3 else if word (Z.take 2) = 5 ∧ word ((Z.drop 2).take 4) < 1024 then 1 else setsF m (Z.drop 6)) = _
  by_cases h1 : word (Z.take 2) = 4 ∧ 2147483647 < word ((Z.drop 2).take 4)
  · rw [if_pos h1, if_pos h1, if_neg (by decide)]
  · rw [if_neg h1, if_neg h1]
    by_cases h2 : word (Z.take 2) = 5 ∧ word ((Z.drop 2).take 4) < 1024
    · rw [if_pos h2, if_pos h2, if_neg (by decide)]
    · rw [if_neg h2, if_neg h2, if_pos rfl]
theorem setsF_all : ∀ (m : Nat) (Z : List Int), (∀ j, j < m → ft Z j = 0) → setsF m Z = 0
  | 0, _, _ => rfl
  | m + 1, Z, h => by
    rw [setsF_succ, if_pos (h 0 (by omega))]
    exact setsF_all m _ (fun j hj => by rw [ft_drop]; exact h (j + 1) (by omega))
theorem setsF_first : ∀ (m : Nat) (Z : List Int) (j : Nat), j < m → (∀ i, i < j → ft Z i = 0) → ft Z j ≠ 0 → setsF m Z = ft Z j
  | 0, _, _, h, _, _ => by omega
  | m + 1, Z, j, h, hi, hj => by
    rw [setsF_succ]
    match j, h, hi, hj with
    | 0, _, _, hj => rw [if_neg hj]
    | j + 1, h, hi, hj =>
      rw [if_pos (hi 0 (by omega)), setsF_first m (Z.drop 6) j (by omega) (fun i hh => by rw [ft_drop]; exact hi (i + 1) (by omega)) (by rw [ft_drop]; exact hj), ft_drop]
def Two2 (X : World) (B : Nat) (p1 p2 : Int) : Prop := X.heap[B]? = some (.cells #[.int .i64 p1, .int .i64 p2] 122 (0, 0))
theorem Two2.c0 {X : World} {B : Nat} {p1 p2 : Int} (h : Two2 X B p1 p2) : X.cell? ⟨B, 0, none⟩ = some (.int .i64 p1) := by simp only [World.cell?, show X.heap[B]? = _ from h]; rfl
theorem Two2.c1 {X : World} {B : Nat} {p1 p2 : Int} (h : Two2 X B p1 p2) : X.cell? ⟨B, 1, none⟩ = some (.int .i64 p2) := by simp only [World.cell?, show X.heap[B]? = _ from h]; rfl
theorem two_own (B : Nat) (p1 p2 : Int) (a1 a2 : Act) : Own (fun (_ : Unit) X => a1 = a2 ∧ Two2 X B p1 p2) := fun _ X Y row hs hg hr => ⟨hs.1, (hg.block B (Array.getElem?_eq_some_iff.1 hs.2).1 (fun e => by
  obtain ⟨o, ho, hc⟩ := hr B e.symm
  rw [show X.heap[B]? = _ from hs.2] at ho; cases ho; cases hc)).trans hs.2⟩
theorem mem_range_of {len : Nat} {ys : List (Pc 6 len)} {k j : Nat} (h : ys.map (·.1) = List.range k) (hj : j < k) : ∃ y ∈ ys, y.1 = j := by
  have : j ∈ ys.map (·.1) := by rw [h]; exact List.mem_range.2 hj
  obtain ⟨y, hy, e⟩ := List.mem_map.1 this
  exact ⟨y, hy, e⟩
/-- No fault so far. -/
def CsI (w : World) (Z : List Int) (len : Nat) (pre : List (Pc 6 len)) (X : World) : Prop := ((∀ y ∈ pre, ft Z y.1 = 0) ∧ Boxed X w.heap.size 3 (.int .i64 0)) ∧ Below w.heap.size w X
/-- The last one has the first fault. -/
def CsX (w : World) (Z : List Int) (len : Nat) (c : Code) (pre : List (Pc 6 len)) (X : World) : Prop := ((c = .ret ∧ ∃ q y, pre = q ++ [y] ∧ (∀ z ∈ q, ft Z z.1 = 0) ∧ ft Z y.1 ≠ 0 ∧ Boxed X w.heap.size 3 (.int .i64 (ft Z y.1)))) ∧ Below w.heap.size w X
set_option maxHeartbeats 8000000 in
theorem csets_in (a : Option Addr) (g off len cap : Nat) (Z : List Int) (w : World) (h6 : len % 6 = 0) (hm : len ≤ 4611686018427387904) (hA : len = 0 ∨ (a = some ⟨g, off, none⟩ ∧ Row w g off len cap Z)) :
    CallsIn Fence.wide 9 Tryz.prog 75 #[.slice a len cap] w fun e w' => e = .returned (.int .i64 (setsF (len / 6) Z)) ∧ Below w.heap.size w w' := by
  have hg : len = 0 ∨ g < w.heap.size := by
    rcases Nat.eq_zero_or_pos len with h0 | h0
    · exact Or.inl h0
    · exact Or.inr (lt_cell ((hA.resolve_left (by omega)).2.hcell 0 h0))
  refine callsIn_of_wp_marks Tryz.func75 rfl trivial ?_ rfl
  simp only [Tryz.ntmps75, List.size_toArray, List.length_cons, List.length_nil, Nat.reduceAdd, Nat.reduceSub, Array.replicate_succ, Array.replicate_zero, List.push_toArray, List.append_toArray, List.nil_append, List.cons_append]
  gi_wp2_with (refine ⟨trivial, ?_⟩; gi_at_call 136; refine (callsIn_wide.2 (settings_call _ _ _ _)).mono ?_; rintro e w' ⟨rfl, rfl⟩)
  have bR := (Boxed.new w 3 (.int .i64 0)).alloc (Obj.cells #[Value.slice a len cap] 23)
  have bB := Boxed.new (w.alloc (Obj.cells #[Value.int .i64 0] 3)) 23 (.slice a len cap)
  have hB0 : Below w.heap.size w ((w.alloc (Obj.cells #[Value.int .i64 0] 3)).alloc (Obj.cells #[Value.slice a len cap] 23)) := ((Below.refl _ w).alloc (Nat.le_refl _) _).alloc (by simp) _
  have hsz : ((w.alloc (Obj.cells #[Value.int .i64 0] 3)).alloc (Obj.cells #[Value.slice a len cap] 23)).heap.size = w.heap.size + 2 := by simp
  simp only [World.size_alloc] at bB
  obtain ⟨W0, hW0⟩ : ∃ W0, (w.alloc (Obj.cells #[Value.int .i64 0] 3)).alloc (Obj.cells #[Value.slice a len cap] 23) = W0 := ⟨_, rfl⟩
  rw [hW0] at bR bB hB0 hsz ⊢
  clear hW0
  refine wpIn_range_chain3 (N := (len + 6 - 1) / 6) (m := 3) (n₀ := w.heap.size) (w0 := W0) rfl (by decide) (gf := 197) (lb := #[.pointer (some ⟨w.heap.size + 1, 0, none⟩)]) rfl trivial (enters_of Tryz.func197 (by kernel_rfl) rfl)
    (encs := sEnc Z len) (S := sAll len) (Sp := sSome len)
    (settings_own a g off len cap w.heap.size (w.heap.size + 1) Z W0 h6 hm (hA.imp id (fun h => ⟨h.1, h.2.below hB0⟩)) hg bB (by omega))
    (by omega) (Below.refl _ _) (fun _ => rfl)
    (CsI w Z len) (CsX w Z len)
    ?hI ?hIx ⟨⟨(fun y hy => by cases hy), bR⟩, hB0⟩
    (fun x a' X => ∃ B, W0.heap.size ≤ B ∧ a' = { tmps := #[.slice a len cap, undef, .pointer (some ⟨w.heap.size, 0, none⟩), .pointer (some ⟨B, 0, none⟩), .slice a len cap, .func (.func 197) #[] #[.pointer (some ⟨w.heap.size + 1, 0, none⟩)], sArr Z x.1, undef, undef, undef, undef, undef, undef, undef, undef, undef, undef, undef, undef, undef, undef, undef, undef, undef, undef], defers := [] } ∧ Two2 X B (sId Z x.1) (sVal Z x.1))
    ?hAx ?assign ?body ?done ?stop
  case hI =>
    rintro s X Y row ⟨⟨h1, h2⟩, hbl⟩ hgr hr
    exact ⟨⟨h1, (Own.from (boxed_own (β := Unit) _ _ (fun _ => _)) _) () X Y row h2 hgr hr⟩, (ownFrom_below (β := Unit) (Nat.le_refl _) (by omega)) () X Y row hbl hgr hr⟩
  case hIx =>
    intro c
    rintro s X Y row ⟨⟨hc, q, y, h1, h2, h3, h4⟩, hbl⟩ hgr hr
    refine ⟨?_, (ownFrom_below (β := Unit) (Nat.le_refl _) (by omega)) () X Y row hbl hgr hr⟩
    exact ⟨hc, q, y, h1, h2, h3, (Own.from (boxed_own (β := Unit) _ _ (fun _ => _)) _) () X Y row h4 hgr hr⟩
  case hAx =>
    rintro x a' s X Y row ⟨B, hB, ha, hT⟩ hgr hr
    exact ⟨B, hB, ha, ((Own.from (two_own B _ _ a' a') W0.heap.size) () X Y row ⟨rfl, hT⟩ hgr hr).2⟩
  case assign =>
    intro l pre x X K hI hs hK
    dsimp only [sEnc, sArr]
    gi_wp2
    have hal := World.grownBy_alloc X (.cells #[.int .i64 (sId Z x.1), .int .i64 (sVal Z x.1)] 122) none
    refine hK _ _ ((keeps_of_below ((Below.refl _ X).alloc (Nat.le_refl _) _)).from _) ⟨(Below.refl _ X).alloc (by omega) _, fun k o _ _ ho => (hal.block k (Array.getElem?_eq_some_iff.1 ho).1 (by simp)).trans ho⟩ ?_ ⟨X.heap.size, by omega, rfl, heap_alloc_new _ _⟩
    exact ⟨⟨hI.1.1, hI.1.2.alloc _⟩, hI.2.alloc (by have := hI.2.size; omega) _⟩
  case body =>
    rintro l pre x a' X ⟨⟨hall, bX⟩, hBX⟩ ⟨B, hB, rfl, hT⟩ hlt hsX
    have t0 := hT.c0
    have t1 := hT.c1
    have cX := bX.cell
    have fX := bX.frozen
    have HALL := hide hall
    have HBB := hide bX
    have HBX := hide hBX
    obtain ⟨p1, hp1⟩ : ∃ p1, sId Z x.1 = p1 := ⟨_, rfl⟩
    obtain ⟨p2, hp2⟩ : ∃ p2, sVal Z x.1 = p2 := ⟨_, rfl⟩
    have HFT : Hid (ft Z x.1 = ftF p1 p2) := by show ft Z x.1 = _; unfold ft; rw [hp1, hp2]
    rw [hp1] at t0
    rw [hp2] at t1
    unfold sArr
    rw [hp1, hp2]
    have HSZ := hide hsz
    clear hT hp1 hp2 hall bX hBX hsz
    have HOK : Hid (ftF p1 p2 = 0 → ownPostG W0.heap.size (fun X Y => Below w.heap.size X Y ∧ KeepsIn (W0.heap.size + 2) 3 X Y) (CsI w Z len) (CsX w Z len) (pre ++ [x]) X .normal ⟨#[], []⟩ X) := fun h0 =>
      ⟨KeepsFrom.refl _ _, ⟨Below.refl _ _, fun _ _ _ _ h => h⟩, ⟨fun y hy => by
        rcases List.mem_append.1 hy with h | h
        · exact HALL.out y h
        · rw [List.mem_singleton.1 h, HFT.out, h0], HBB.out⟩, HBX.out⟩
    have HBAD : Hid (∀ c, c ≠ 0 → ftF p1 p2 = c → (KeepsFrom W0.heap.size X (X.setCell ⟨w.heap.size, 0, none⟩ (.int .i64 c)) ∧ ∃ q y, pre ++ [x] = q ++ [y] ∧ (∀ z ∈ q, ft Z z.1 = 0) ∧ ft Z y.1 ≠ 0 ∧ Boxed (X.setCell ⟨w.heap.size, 0, none⟩ (.int .i64 c)) w.heap.size 3 (.int .i64 (ft Z y.1))) ∧ Below w.heap.size w (X.setCell ⟨w.heap.size, 0, none⟩ (.int .i64 c))) := fun c hc hf =>
      ⟨⟨(KeepsOthers.setCell _ _ _).from _, pre, x, rfl, HALL.out, by rw [HFT.out, hf]; exact hc, by rw [HFT.out, hf]; exact HBB.out.set _⟩, HBX.out.setCell (Nat.le_refl _) _⟩
    by_cases e4 : p1 = 4
    · subst e4
      by_cases e5 : 2147483647 < p2
      · gi_wp2
        have h := HBAD.out 3 (by decide) (by unfold ftF; rw [if_pos ⟨rfl, e5⟩])
        exact ⟨h.1.1, ⟨rfl, h.1.2⟩, h.2⟩
      · gi_wp2
        exact HOK.out (by unfold ftF; rw [if_neg (by omega), if_neg (by omega)])
    · by_cases e5 : p1 = 5
      · subst e5
        by_cases e6 : p2 < 1024
        · gi_wp2
          have h := HBAD.out 1 (by decide) (by unfold ftF; rw [if_neg (by omega), if_pos ⟨rfl, e6⟩])
          exact ⟨h.1.1, ⟨rfl, h.1.2⟩, h.2⟩
        · gi_wp2
          exact HOK.out (by unfold ftF; rw [if_neg (by omega), if_neg (by omega)])
      · gi_wp2
        exact HOK.out (by unfold ftF; rw [if_neg (by omega), if_neg (by omega)])
  case done =>
    rintro D xs X hD hS ⟨⟨hall, bX⟩, hBX⟩ hX
    have cX := bX.cell
    have fX := bX.frozen
    have HALL := hide hall
    have HBB := hide bX
    have HBX := hide hBX
    have HS := hide hS
    clear hall bX hBX hS
    gi_wp2
    have hX2 : (X.setCell ⟨w.heap.size, 0, none⟩ (.int .i64 0)).heap[D]? = some (.deferred (some [])) := (KeepsOthers.setCell _ _ _).same D _ hX rfl
    refine ⟨by simp, .inl ⟨_, _, rfl, run_takeDeferred (b := D) (ds := []) hX2, ?_⟩⟩
    have b2 : Boxed ((X.setCell ⟨w.heap.size, 0, none⟩ (.int .i64 0)).putObj D (.deferred none)) w.heap.size 3 (.int .i64 0) := (World.putObj_heap_other (by omega)).trans (HBB.out.set _)
    have c2 := b2.cell
    refine ⟨.int .i64 0, by simp [results, Tryz.results75, go_sem, c2], ?_, ?_⟩
    · rw [setsF_all _ _ (fun j hj => ?_)]
      obtain ⟨y, hy, e⟩ := mem_range_of HS.out (show j < (len + 6 - 1) / 6 by omega)
      rw [← e]; exact HALL.out y hy
    · exact (HBX.out.setCell (Nat.le_refl _) _).trans (belowK_b (w := W0) (by omega) _ D _ _ hD hX2 rfl rfl)
  case stop =>
    rintro D c pre X hD ⟨k, hk, hpre⟩ ⟨⟨rfl, q, y, rfl, h2, h3, h4⟩, hBX⟩ hX
    gi_wp2
    refine ⟨by simp, .inl ⟨_, _, rfl, run_takeDeferred (b := D) (ds := []) hX, ?_⟩⟩
    have b2 : Boxed (X.putObj D (.deferred none)) w.heap.size 3 (.int .i64 (ft Z y.1)) := (World.putObj_heap_other (by omega)).trans h4
    have c2 := b2.cell
    refine ⟨.int .i64 (ft Z y.1), by simp [results, Tryz.results75, go_sem, c2], ?_, ?_⟩
    · have hlen : q.length + 1 = k := by have := congrArg List.length hpre; simpa using this
      rw [List.map_append, ← hlen, List.range_succ] at hpre
      obtain ⟨e1, e2⟩ := List.append_inj hpre (by simp)
      simp only [List.map_cons, List.map_nil, List.cons.injEq, and_true] at e2
      rw [e2] at h3 ⊢
      rw [setsF_first (len / 6) Z q.length (by omega) (fun i hi => ?_) h3]
      obtain ⟨z, hz, ez⟩ := mem_range_of e1 hi
      rw [← ez]; exact h2 z hz
    · exact hBX.trans (belowK_b (w := W0) (by omega) _ D _ _ hD hX rfl rfl)
/-- frame.checkSets, whole. -/
theorem csets_any (a : Option Addr) (len cap : Nat) (Z : List Int) (w : World) (hA : Arg w a len cap Z) (h6 : len % 6 = 0) (hm : len ≤ 4611686018427387904) :
    Calls Tryz.prog 75 #[.slice a len cap] w fun e w' => e = .returned (.int .i64 (setsF (len / 6) Z)) ∧ Below w.heap.size w w' := by
  rcases hA with ⟨h0, _⟩ | ⟨g, off, ha, hr⟩
  · exact callsIn_wide.1 (csets_in a 0 0 len cap Z w h6 hm (Or.inl h0))
  · exact callsIn_wide.1 (csets_in a g off len cap Z w h6 hm (Or.inr ⟨ha, hr⟩))
end Go.Proofs.YtdlaaollamgplagGreatDoor
