/- ref08.Same of equal lists; the walk of stackyardlaw08.ChunkBack. -/
import Derived.Test.YtfgmdaemcaamiaaDoorChL
import Derived.Test.YtfgmdaemcaamiaaDoorChS
namespace Go.Proofs.YtfgmdaemcaamiaaDoor
open Go.RowKit
set_option linter.unusedVariables false

set_option maxRecDepth 100000 in
set_option maxHeartbeats 4000000 in
theorem same8_self (A B : Option Addr) (cap cap2 : Nat) (l : List Vl) (W : World) (hl : Vls W A l) (hm : Vls W B l) (hn : l.length ≤ 4000000000000000000) :
    Calls Tryd.prog 14 #[.slice A l.length cap, .slice B l.length cap2] W fun e W' => e = .returned (.bool true) ∧ Below W.heap.size W W' := by
  have HL := Lib.hid hl
  have HM := Lib.hid hm
  clear hl hm
  obtain ⟨n, hn3⟩ : ∃ n, l.length = n := ⟨_, rfl⟩
  rw [hn3] at hn ⊢
  have HN := Lib.hid hn3
  clear hn3
  go_enter Tryd.func14, Tryd.ntmps14
  go_wp2
  go_loopw [5] (fun i wr => ∃ k : Nat, k ≤ n ∧ i = .int .i64 k ∧ Below W.heap.size W wr) (fun i _ => n - (intOf i).toNat)
  case atStart => exact ⟨0, by omega, rfl, Below.refl _ _⟩
  case round =>
    obtain ⟨k, hk, rfl, hbel⟩ := hrel
    have HBEL := Lib.hid hbel
    clear hbel
    by_cases hlt : k < n
    · have h1 : k < l.length := by rw [HN.out]; exact hlt
      obtain ⟨b, o, rfl, hcb⟩ := HL.out k h1
      obtain ⟨b2, o2, rfl, hvb⟩ := HM.out k h1
      obtain ⟨c0, c1, c2⟩ := hcb.keep HBEL.out hcb.lt
      obtain ⟨v0, v1, v2⟩ := hvb.keep HBEL.out hvb.lt
      have HK : Hid (k < n) := hlt
      clear hcb hvb
      generalize l[k] = c at c0 c1 c2 v0 v1 v2
      clear h1
      have q3 : (c.text.toList == c.text.toList) = true := beq_self_eq_true _
      generalize c.kind = k1 at c0 v0
      generalize c.num = m1 at c1 v1
      generalize c.text = n1 at c2 v2 q3
      go_upto_region 6 with (fail)
      go_quiet (fail)
      go_wp2
      go_roundw
      case rel => exact ⟨k + 1, HK.out, by go_num, Below.drewN' HBEL.out _⟩
      case measure => have := HK.out; simp [intOf]; omega
    · obtain rfl : k = n := by omega
      go_wp2
      go_ret
      exact ⟨rfl, HBEL.out⟩

set_option maxRecDepth 100000 in
set_option maxHeartbeats 4000000 in
theorem chback_any (kind : Int) (A : Option Addr) (cap : Nat) (l : List Vl) (W : World) (hl : Vls W A l) (hn : l.length ≤ 4000000000000000000) (hT : TabAt W) :
    Calls Tryd.prog 5 #[.int .i64 kind, .slice A l.length cap] W fun e W' => e = .returned (.bool true) ∧ Below W.heap.size W W' := by
  have HSH := Lib.hid (shown8_any W hT)
  have HL := Lib.hid hl
  have HT := Lib.hid hT
  by_cases hr : colR kind l = true
  · have HE := Lib.hid (fun w (h : Below W.heap.size W w) => enc8_yes kind A cap l w (hl.keep h) hr (hT.keep h))
    unfold LaidI at HE
    have hblen := bodyC_len hr
    have hel := encC_len8 kind l
    have HR := Lib.hid hr
    have HBL : Hid ((encC kind l).length ≤ 5001004) := by show _ ≤ _; omega
    have hnx : ¬ (((encC kind l).length : Int) = 0) := by omega
    clear hblen hel hr hl hT
    obtain ⟨n, hn3⟩ : ∃ n, l.length = n := ⟨_, rfl⟩
    rw [hn3] at HE hn ⊢
    have HN := Lib.hid hn3
    clear hn3
    go_enter Tryd.func5, Tryd.ntmps5
    go_wp2_with fail
    go_at_call 8
    refine HSH.out.mono ?_
    rintro e w1 ⟨rfl, hb1⟩
    have HB1 := Lib.hid hb1
    clear hb1
    go_wp2_with fail
    go_at_call 9
    refine (HE.out w1 HB1.out).mono ?_
    rintro e w2 ⟨v2, rfl, ho, hb2⟩
    obtain ⟨A2, c2, rfl, hy2, ha2, hc2, hm2⟩ := ho.form
    have HB2 := Lib.hid (below_to HB1.out hb2)
    have HDE := Lib.hid (cdec_any A2 c2 (encC kind l) w2 hy2 ha2 hc2 (by unfold maxLen at hm2; omega) (by have := HBL.out; omega) (HT.out.keep HB2.out))
    unfold DecC at HDE
    obtain ⟨ne, hne⟩ : ∃ ne, (encC kind l).length = ne := ⟨_, rfl⟩
    rw [hne] at HDE hnx ⊢
    clear ho hb2 hy2 ha2 hc2 hm2 hne HE
    go_wp2_with fail
    go_at_call 13
    refine HDE.out.mono ?_
    rintro e w3 ⟨hb3, (⟨k3, l3, A3, c3, hr3, he3, hu3, rfl, hv3, hc3⟩ | ⟨hno, rfl⟩)⟩
    · obtain ⟨rfl, rfl⟩ := hu3 kind l HR.out rfl
      have HB3 := Lib.hid (below_to HB2.out hb3)
      have HS := Lib.hid (same8_self A A3 cap c3 l w3 (HL.out.keep HB3.out) hv3 (by rw [HN.out]; exact hn))
      rw [HN.out] at HS ⊢
      clear hb3 hr3 he3 hu3 hv3 hc3 HDE
      go_wp2_with fail
      go_at_call 14
      refine HS.out.mono ?_
      rintro e w4 ⟨rfl, hb4⟩
      have HB4 := Lib.hid (below_to HB3.out hb4)
      clear hb4
      go_wp2
      go_ret
      exact ⟨rfl, HB4.out⟩
    · exact (hno kind l HR.out rfl).elim
  · have HE := Lib.hid (fun w (h : Below W.heap.size W w) => enc8_no kind A cap l w (hl.keep h) hn (by simpa using hr))
    clear hr hl hT
    generalize l.length = n at *
    go_enter Tryd.func5, Tryd.ntmps5
    go_wp2_with fail
    go_at_call 8
    refine HSH.out.mono ?_
    rintro e w1 ⟨rfl, hb1⟩
    have HB1 := Lib.hid hb1
    clear hb1
    go_wp2_with fail
    go_at_call 9
    refine (HE.out w1 HB1.out).mono ?_
    rintro e w2 ⟨rfl, hb2⟩
    have HB2 := Lib.hid (below_to HB1.out hb2)
    clear hb2
    go_wp2
    go_ret
    exact ⟨rfl, HB2.out⟩
end Go.Proofs.YtfgmdaemcaamiaaDoor
