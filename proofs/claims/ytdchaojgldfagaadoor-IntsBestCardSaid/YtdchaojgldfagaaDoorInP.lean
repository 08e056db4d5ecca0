/- The walk of IntsBest. -/
import Derived.Test.YtdchaojgldfagaaDoorInK
namespace Go.Proofs.YtdchaojgldfagaaDoor
open Go.RowKit
set_option linter.unusedVariables false

set_option maxRecDepth 100000 in
set_option maxHeartbeats 4000000 in
theorem ibest_big (A : Option Addr) (cap n : Nat) (w : World) (hn : n ≤ 4611686018427387904) (h : 4096 < n) (hT : TabAt w) : Calls Tryd.prog 6 #[.slice A n cap] w fun e w' => e = .returned (.bool true) ∧ Below w.heap.size w w' := by
  have hs := shown6_any w hT
  have hb := fun w1 : World => best_big A cap n w1 hn h
  have h2 : (4096 : Int) < (n : Int) := by omega
  clear hT
  go_enter Tryd.func6, Tryd.ntmps6
  go_wp2_with (first | (go_at_call 9; refine hs.mono ?_; rintro e w1 ⟨rfl, hb1⟩; have HB := Lib.hid hb1; clear hb1) | (go_at_call 12; refine (hb w1).mono ?_; rintro e w2 ⟨rfl, hb2⟩; have HB2 := Lib.hid hb2; clear hb2))
  go_ret
  exact ⟨rfl, HB.out.trans (HB2.out.mono HB.out.size)⟩

set_option maxRecDepth 100000 in
set_option maxHeartbeats 4000000 in
theorem ibest_in (A : Option Addr) (cap : Nat) (l : List Int) (w : World) (hl : Ints w A l) (h64 : All64 l) (hn : l.length ≤ 4096) (hcap : l.length ≤ cap) (hT : TabAt w) : Calls Tryd.prog 6 #[.slice A l.length cap] w fun e w' => e = .returned (.bool true) ∧ Below w.heap.size w w' := by
  have hs := shown6_any w hT
  have hbest := fun (w1 : World) (hb : Below w.heap.size w w1) => best_any A cap l w1 (hl.keep hb) h64 hn hcap (hT.keep hb)
  have henc := fun (f : Nat) (hf : f < 4) (w1 : World) (hb : Below w.heap.size w w1) => enc_any f hf A cap l w1 (hl.keep hb) h64 hn hcap (hT.keep hb)
  have hszb : ∀ f, sizeI l f ≤ 100001 := fun f => by
    have := encB_len (f := f) hn
    show (encI f l).length ≤ _
    unfold encI
    rw [List.length_cons]
    omega
  obtain ⟨hb4, hsp⟩ := bestL_spec l
  have hx := henc (bestL l) hb4
  unfold LaidI at henc hx
  have hxl : (encI (bestL l) l).length = sizeI l (bestL l) := rfl
  have hsx := hszb (bestL l)
  generalize encI (bestL l) l = xb at hx hxl
  generalize bestL l = b at *
  generalize sizeI l b = sx at hsp hxl hsx
  subst hxl
  have hgl : ∀ g, (encI g l).length = sizeI l g := fun g => rfl
  have HBEST := Lib.hid hbest
  have HENC := Lib.hid henc
  have HX := Lib.hid hx
  have HSP := Lib.hid hsp
  have HGL := Lib.hid hgl
  have HSB := Lib.hid hszb
  obtain ⟨n, hln⟩ : ∃ n, l.length = n := ⟨_, rfl⟩
  rw [hln] at hbest henc hx hn hcap HBEST HENC HX ⊢
  clear hbest henc hx hsp hgl hszb hl h64 hT hln
  go_enter Tryd.func6, Tryd.ntmps6
  go_wp2_with (first | (go_at_call 9; refine hs.mono ?_; rintro e w1 ⟨rfl, hb1⟩; have HB := Lib.hid hb1; clear hb1 hs) | (go_at_call 12; refine (HBEST.out w1 HB.out).mono ?_; rintro e w2 ⟨rfl, hb2⟩; have HB2 : Hid (Below w.heap.size w w2) := HB.out.trans (hb2.mono HB.out.size); clear hb2) | (go_at_call 10; refine (HX.out w2 HB2.out).mono ?_; rintro e w3 ⟨v3, rfl, hown, hb3⟩; obtain ⟨A3, c3, rfl, _, _, _, _⟩ := hown.form; have HB3 : Hid (Below w.heap.size w w3) := HB2.out.trans (hb3.mono HB2.out.size); clear hown hb3))
  go_loopw [8] (fun i wr => ∃ k : Nat, k ≤ 4 ∧ i = .int .i64 k ∧ Below w.heap.size w wr) (fun i _ => 4 - (intOf i).toNat)
  case atStart => exact ⟨0, by omega, rfl, HB3.out⟩
  case round =>
    obtain ⟨k, hk, rfl, hbel⟩ := hrel
    have HBEL := Lib.hid hbel
    by_cases hlt : k < 4
    · have hy := HENC.out k hlt wr hbel
      obtain ⟨hle, heq⟩ := HSP.out k hlt
      have hsy := HSB.out k
      rw [← HGL.out k] at hle heq hsy
      generalize encI k l = yb at hy hle heq hsy
      have HY := Lib.hid hy
      have HK : Hid (k < 4) := hlt
      have hc1 : ¬ (yb.length : Int) < (xb.length : Int) := by omega
      by_cases hc : yb.length = xb.length
      · have hkb := heq hc
        have hc2 : ¬ (k : Int) < (b : Int) := by omega
        have hc3 : (yb.length : Int) = (xb.length : Int) := by omega
        clear hy hle heq hbel
        go_wp2_with (go_at_call 10; refine HY.out.mono ?_; rintro e w5 ⟨v5, rfl, hown, hb5⟩; obtain ⟨A5, c5, rfl, _, _, _, _⟩ := hown.form; have HB5 : Hid (Below w.heap.size w w5) := HBEL.out.trans (hb5.mono HBEL.out.size); clear hown hb5)
        go_roundw
        case rel => exact ⟨k + 1, HK.out, by go_num, HB5.out⟩
        case measure => simp [intOf]; have := HK.out; omega
      · have hc3 : ¬ (yb.length : Int) = (xb.length : Int) := by omega
        clear hy hle heq hbel
        go_wp2_with (go_at_call 10; refine HY.out.mono ?_; rintro e w5 ⟨v5, rfl, hown, hb5⟩; obtain ⟨A5, c5, rfl, _, _, _, _⟩ := hown.form; have HB5 : Hid (Below w.heap.size w w5) := HBEL.out.trans (hb5.mono HBEL.out.size); clear hown hb5)
        go_roundw
        case rel => exact ⟨k + 1, HK.out, by go_num, HB5.out⟩
        case measure => simp [intOf]; have := HK.out; omega
    · obtain rfl : k = 4 := by omega
      clear hbel
      go_wp2
      go_ret
      exact ⟨rfl, HBEL.out⟩
theorem ibest_any (A : Option Addr) (cap : Nat) (l : List Int) (w : World) (hl : Ints w A l) (h64 : All64 l) (hn : l.length ≤ 4611686018427387904) (hcap : l.length ≤ cap) (hT : TabAt w) : Calls Tryd.prog 6 #[.slice A l.length cap] w fun e w' => e = .returned (.bool true) ∧ Below w.heap.size w w' := by
  by_cases h : 4096 < l.length
  · exact ibest_big A cap l.length w hn h hT
  · exact ibest_in A cap l w hl h64 (by omega) hcap hT
end Go.Proofs.YtdchaojgldfagaaDoor
