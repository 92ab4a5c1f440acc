/-
  THE WALK of the Go function tolllaw1.CodeWrites, its callees by their contracts, for texts and bytes of at most 1048576. No claim by itself.
-/
import Derived.Test.YtmpkoidepohlaaaDoorRdecode
import Derived.Test.YtmpkoidepohlaaaDoorCmath2
import Derived.Test.YtmpkoidepohlaaaDoorTold
namespace Go.Proofs.YtmpkoidepohlaaaDoor
open Go.RowKit
theorem rdecode_arg (a : Option Addr) (len cap : Nat) (Z : List Int) (w : World) (hA : Arg w a len cap Z) (hs : len ≤ 2097152) :
    Calls Tryd.prog 19 #[.slice a len cap] w fun e w' => ∃ st ok, e = .returned (.tuple #[.string st, .bool ok]) ∧ ToldText (decF Z) st ok ∧ Below w.heap.size w w' := by
  rcases hA with ⟨rfl, rfl⟩ | ⟨g, off, rfl, hr⟩
  · exact rdecode_nil a cap w
  · exact rdecode_row g off len cap Z w hr hs
set_option maxHeartbeats 2000000 in
theorem cwrites_ok (hE : EncSaid) (hBt : BitsSaid) (hD : DecSaid) (s : ByteArray) (a : Option Addr) (len cap : Nat) (Z : List Int) (w : World) (hs : s.size ≤ 2097152) (hA : Arg w a len cap Z) (hl : len ≤ 2097152) (hg : Laid w) :
    Calls Tryd.prog 6 #[.string s, .slice a len cap] w fun e w' => e = .returned (.bool true) ∧ Below w.heap.size w w' := by
  go_enter Tryd.func6, Tryd.ntmps6
  go_wp2_with fail
  refine (hE s w hs).mono ?_
  rintro e w1 ⟨v1, rfl, ho1, hb1⟩
  go_wp2_with fail
  refine (rcode_any s w1 hs).mono ?_
  rintro e w2 ⟨v2, rfl, ho2, hb2⟩
  go_wp2_with fail
  refine (hBt s w2 hs).mono ?_
  rintro e w3 ⟨rfl, hb3⟩
  have s1 := hb1.size
  have s2 := hb2.size
  have s3 := hb3.size
  have hB3 : Below w.heap.size w w3 := (hb1.trans (hb2.mono s1)).trans (hb3.mono (by omega))
  go_wp2_with fail
  refine (rdecode_arg a len cap Z w3 (hA.below hB3) hl).mono ?_
  rintro e w4 ⟨st, ok, rfl, ht, hb4⟩
  have s4 := hb4.size
  have hB4 : Below w.heap.size w w4 := hB3.trans (hb4.mono (by omega))
  rcases ht with ⟨tt, hd, rfl, rfl⟩ | ⟨hd, rfl, rfl⟩
  · have HD : Hid (decF Z = some tt) := hd
    clear hd
    go_wp2_with fail
    refine (hD a len cap Z w4 (hA.below hB4) hl).mono ?_
    rintro e w5 ⟨st5, x5, rfl, ht5, hb5⟩
    have s5 := hb5.size
    rw [HD.out] at ht5
    rcases ht5 with ⟨t5, e5, rfl, rfl⟩ | ⟨e5, _, _⟩
    · obtain rfl := Option.some.inj e5
      go_wp2_with fail
      refine (error_nil _ _).mono ?_
      rintro e w6 ⟨rfl, rfl⟩
      have hB5 : Below w.heap.size w w5 := hB4.trans (hb5.mono (by omega))
      have cv1 := string_made (((ho1.below hb2).below (hb3.mono (by omega))).below (hb4.mono (by omega)) |>.below (hb5.mono (by omega)))
      have cv2 := string_of_own rfl (own_below (own_below (own_below ho2 hb3) (hb4.mono (by omega))) (hb5.mono (by omega)))
      generalize strOfNums (codeL (nums s)) = S at *
      clear ho1 ho2
      go_wp2_with fail
      refine (rbitsn_any s w5 hs).mono ?_
      rintro e w7 ⟨rfl, hb7⟩
      have hB7 : Below w.heap.size w w7 := hB5.trans (hb7.mono (by omega))
      go_wp2
      go_ret
      exact ⟨by simp, hB7⟩
    · cases e5
  · have HD : Hid (decF Z = none) := hd
    clear hd
    go_wp2_with fail
    refine (hD a len cap Z w4 (hA.below hB4) hl).mono ?_
    rintro e w5 ⟨st5, x5, rfl, ht5, hb5⟩
    have s5 := hb5.size
    rw [HD.out] at ht5
    rcases ht5 with ⟨t5, e5, _, _⟩ | ⟨_, rfl, rfl⟩
    · cases e5
    · have hB5 : Below w.heap.size w w5 := hB4.trans (hb5.mono (by omega))
      go_wp2_with fail
      refine (error_hit 2 2 _ (hg.below hB5)).mono ?_
      rintro e w6 ⟨rfl, hb6⟩
      have s6 := hb6.size
      have hB6 : Below w.heap.size w w6 := hB5.trans (hb6.mono (by omega))
      have cv1 := string_made (((ho1.below hb2).below (hb3.mono (by omega))).below (hb4.mono (by omega)) |>.below (hb5.mono (by omega)) |>.below (hb6.mono (by omega)))
      have cv2 := string_of_own rfl (own_below (own_below (own_below (own_below ho2 hb3) (hb4.mono (by omega))) (hb5.mono (by omega))) (hb6.mono (by omega)))
      generalize strOfNums (codeL (nums s)) = S at *
      clear ho1 ho2
      go_wp2_with fail
      refine (rbitsn_any s w6 hs).mono ?_
      rintro e w7 ⟨rfl, hb7⟩
      have hB7 : Below w.heap.size w w7 := hB6.trans (hb7.mono (by omega))
      go_wp2
      go_ret
      exact ⟨by simp, hB7⟩
end Go.Proofs.YtmpkoidepohlaaaDoor
