/- Take, TakeSigned and TakeText once more: of bytes whose spare room may be any. -/
import Derived.Test.YtfgmdaemcaamiaaDoorText
import Derived.Deep.DeepCutAuto
import Derived.Deep.LoopGhost
namespace Go.Proofs.YtfgmdaemcaamiaaDoor
open Go.RowKit
set_option linter.unusedVariables false

set_option maxHeartbeats 2000000 in
set_option maxRecDepth 100000 in
theorem take_anyW (a : Option Addr) (cap : Nat) (at_ : Int) (l : List UInt8) (w : World) (hb : Byt w a l) (hc : l.length ≤ cap) (hm : cap ≤ 9223372036854775807) (hL : l.length ≤ 400000000000000) :
    Calls Tryd.prog 56 #[.slice a l.length cap, .int .i64 at_] w (Took w l at_) := by
  by_cases hlo : at_ < 0
  · have hlt : decide (at_ < 0) = true := by simpa using hlo
    go_enter Tryd.func56, Tryd.ntmps56
    go_wp2
    go_ret3
    exact Took.none (take_out (.inl hlo))
  by_cases hhi : (l.length : Int) < at_
  · have hlt : decide (at_ < 0) = false := by simp; omega
    have hge : decide ((l.length : Int) < at_) = true := by simpa using hhi
    go_enter Tryd.func56, Tryd.ntmps56
    go_wp2
    go_ret3
    exact Took.none (take_out (.inr hhi))
  obtain ⟨i, rfl⟩ : ∃ i : Nat, at_ = i := ⟨at_.toNat, by omega⟩
  have hi : i ≤ l.length := by omega
  have hlo : ¬ ((i : Int) < 0) := by omega
  have HT : Hid (takeO l i = decF 10 0 0 ((l.drop i).take 10)) := take_in l i hi
  have hq : ((l.drop i).take 10).length = min 10 (l.length - i) := by simp
  go_enter Tryd.func56, Tryd.ntmps56
  go_upto_region 4 with fail
  go_cut [25, 26, 27] (fun s25 s26 s27 wc => ∃ A2 c2, s25 = .slice A2 ((l.drop i).take 10).length c2 ∧ s26 = .int .i64 ((l.drop i).take 10).length ∧ s27 = .int .i64 0 ∧ Byt w A2 ((l.drop i).take 10) ∧ wc = w)
  case first =>
    by_cases h0 : l.length = i
    · obtain rfl : i = l.length := by omega
      have HE : Hid ((l.drop l.length).take 10 = []) := by show _ = _; rw [List.drop_length]; rfl
      clear h0 hq
      by_cases hcap : cap = l.length
      · subst hcap
        go_wp2
        go_meet
        rw [HE.out]; exact ⟨_, _, rfl, rfl, rfl, Byt.empty _ _, rfl⟩
      · have hcl : l.length < cap := by omega
        clear hcap
        go_wp2
        go_meet
        rw [HE.out]; exact ⟨_, _, rfl, rfl, rfl, Byt.empty _ _, rfl⟩
    · obtain ⟨b, o, rfl, _⟩ := hb i (by omega)
      have hb2 : Byt w (some ⟨b, o + i, none⟩) ((l.drop i).take 10) := by
        intro k hk
        simp only [List.length_take, List.length_drop] at hk
        obtain ⟨b', o', e, hc'⟩ := hb (i + k) (by omega)
        simp only [Option.some.injEq, Addr.mk.injEq, and_true] at e
        obtain ⟨rfl, rfl⟩ := e
        refine ⟨b, o + i, rfl, ?_⟩
        rw [Nat.add_assoc, hc']
        simp
      by_cases h10 : l.length ≤ i + 10
      · go_wp2
        go_meet
        exact ⟨_, _, by rw [hq, show min 10 (l.length - i) = l.length - i by omega], by rw [hq, show min 10 (l.length - i) = l.length - i by omega], rfl, hb2, rfl⟩
      · go_wp2
        go_meet
        exact ⟨_, _, by rw [hq, show min 10 (l.length - i) = 10 by omega], by rw [hq, show min 10 (l.length - i) = 10 by omega]; rfl, rfl, hb2, rfl⟩
  case rest =>
    obtain ⟨A2, c2, rfl, rfl, rfl, hb2, rfl⟩ := hcut
    have hq10 : ((l.drop i).take 10).length ≤ 10 := by omega
    have hql : i + ((l.drop i).take 10).length ≤ l.length := by omega
    generalize (l.drop i).take 10 = q at hb2 hq10 hql HT
    go_wp2
    go_loop [7, 27] (fun n x => ∃ k m : Nat, k ≤ q.length ∧ x = .int .i64 k ∧ n = .int .u64 m ∧ m < 128 ^ k ∧ decF 10 0 0 q = decF (10 - k) k m (q.drop k)) (fun _ x => q.length - (intOf x).toNat)
    case atStart => exact ⟨0, 0, Nat.zero_le _, rfl, rfl, by decide, rfl⟩
    case round =>
      obtain ⟨k, m, hk, rfl, rfl, hmk, hdec⟩ := hrel
      have HK : Hid (m < 128 ^ k) := hmk
      have HD : Hid (decF 10 0 0 q = decF (10 - k) k m (q.drop k)) := hdec
      clear hmk hdec
      by_cases hlt : k < q.length
      · obtain ⟨b, o, rfl, hcell⟩ := hb2 k hlt
        have hk9 : k ≤ 9 := by omega
        have HS : Hid (decF 10 0 0 q = if (q[k]).toNat < 128 then (if badG k q[k] then none else some (addG k m q[k], k + 1)) else decF (10 - (k + 1)) (k + 1) (addG k m q[k]) (q.drop (k + 1))) := by
          show _ = _
          rw [HD.out, List.drop_eq_getElem_cons hlt, show 10 - k = (10 - (k + 1)) + 1 by omega, decF]
        have HV : Hid (bits .or .u64 (m : Int) (IntKind.u64.wrap (IntKind.u64.wrap (bits .and .u8 ((q[k]).toNat : Int) 127) * 2 ^ (7 * k))) = (addG k m q[k] : Int)) := val_wire k m q[k] hk9 HK.out
        have HL : Hid (addG k m q[k] < 128 ^ (k + 1)) := addG_next k m q[k] hk9 HK.out
        clear HD
        generalize q[k] = x at hcell HS HV HL
        by_cases h128 : x.toNat < 128
        · have g128 : ((x.toNat : Int) < 128) := by omega
          by_cases hbad : badG k x
          · have HN : Hid (takeO l i = none) := by show _ = _; rw [HT.out, HS.out, if_pos h128, if_pos hbad]
            have hb' : (x.toNat = 0 ∧ 0 < k) ∨ (¬ x.toNat = 0 ∧ k = 9 ∧ 1 < x.toNat) := by simp [badG] at hbad; omega
            rcases hb' with ⟨h0, hk0⟩ | ⟨h0, h9, h1⟩
            · have t0 : ((x.toNat : Int) == 0) = true := by simp; omega
              clear h0
              go_wp2
              go_ret3
              exact Took.none HN.out
            · have t0 : ((x.toNat : Int) == 0) = false := by simp; omega
              have t9 : ((k : Int) == 9) = true := by simp; omega
              clear h0 h9
              go_wp2
              go_ret3
              exact Took.none HN.out
          · have HN : Hid (takeO l i = some (addG k m x, k + 1)) := by show _ = _; rw [HT.out, HS.out, if_pos h128, if_neg hbad]
            have hb' : (x.toNat = 0 ∧ ¬ 0 < k) ∨ (¬ x.toNat = 0 ∧ ¬ k = 9) ∨ (¬ x.toNat = 0 ∧ k = 9 ∧ ¬ 1 < x.toNat) := by simp [badG] at hbad; omega
            rcases hb' with ⟨h0, hk0⟩ | ⟨h0, h9⟩ | ⟨h0, h9, h1⟩
            · have t0 : ((x.toNat : Int) == 0) = true := by simp; omega
              have t9 : ((k : Int) == 9) = false := by simp; omega
              clear h0
              go_wp2
              go_ret3
              exact Took.some HN.out HV.out (by omega)
            · have t0 : ((x.toNat : Int) == 0) = false := by simp; omega
              have t9 : ((k : Int) == 9) = false := by simp; omega
              clear h0 h9
              go_wp2
              go_ret3
              exact Took.some HN.out HV.out (by omega)
            · have t0 : ((x.toNat : Int) == 0) = false := by simp; omega
              have t9 : ((k : Int) == 9) = true := by simp; omega
              clear h0 h9
              go_wp2
              go_ret3
              exact Took.some HN.out HV.out (by omega)
        · have g128 : ¬ ((x.toNat : Int) < 128) := by omega
          go_wp2
          go_round
          case rel =>
            exact ⟨k + 1, addG k m x, by omega, by go_num, by rw [HV.out], HL.out, by rw [HS.out, if_neg h128]⟩
          case measure => simp [intOf]; omega
      · obtain rfl : k = q.length := by omega
        go_wp2
        go_ret3
        exact Took.none (by rw [HT.out, HD.out, List.drop_length]; cases h : 10 - q.length <;> simp [decF])


set_option maxHeartbeats 1000000 in
set_option maxRecDepth 100000 in
theorem takesigned_anyW (a : Option Addr) (cap : Nat) (at_ : Int) (l : List UInt8) (w : World) (hb : Byt w a l) (hc : l.length ≤ cap) (hm : cap ≤ 9223372036854775807) (hL : l.length ≤ 400000000000000) :
    Calls Tryd.prog 121 #[.slice a l.length cap, .int .i64 at_] w (TookS w l at_) := by
  cases ht : takeO l at_ with
  | none =>
    obtain ⟨h1, h2, h3⟩ := t_none ht
    have HU : Hid (unzig l at_ = 0) := by show _ = _; simp [unzig, ht]
    have hcall := take_anyW a cap at_ l w hb hc hm hL
    unfold Took at hcall
    rw [h1, h2, h3] at hcall
    have H2 : Hid (tP l at_ = 0) := h2
    have H3 : Hid (tE l at_ = 20) := h3
    clear h1 h2 h3 ht
    go_enter Tryd.func121, Tryd.ntmps121
    go_wp2_with (go_at_call 56; refine hcall.mono ?_; rintro e w' ⟨rfl, rfl⟩)
    go_ret3
    exact TookS.mk HU.out H2.out H3.out
  | some p =>
    obtain ⟨n, c⟩ := p
    obtain ⟨h1, h2, h3⟩ := t_some ht
    have hlt := take_lt ht
    have HU : Hid (unzig l at_ = bits .xor .i64 (wrap64 ((n : Int) / 2)) (wrap64 (-wrap64 (bits .and .u64 (n : Int) 1)))) := by show _ = _; rw [zag_wire n hlt]; simp [unzig, ht]
    have hcall := take_anyW a cap at_ l w hb hc hm hL
    unfold Took at hcall
    rw [h1, h2, h3] at hcall
    have H2 : Hid (tP l at_ = at_ + c) := h2
    have H3 : Hid (tE l at_ = 0) := h3
    clear h1 h2 h3 ht hlt
    go_enter Tryd.func121, Tryd.ntmps121
    go_wp2_with (go_at_call 56; refine hcall.mono ?_; rintro e w' ⟨rfl, rfl⟩)
    go_ret3
    exact TookS.mk HU.out H2.out H3.out


set_option maxHeartbeats 2000000 in
set_option maxRecDepth 100000 in
theorem taketext_anyW (a : Option Addr) (cap : Nat) (at_ most : Int) (l : List UInt8) (w : World) (hb : Byt w a l) (hn : a = none → cap = 0) (hc : l.length ≤ cap) (hm : cap ≤ 9223372036854775807) (hL : l.length ≤ 400000000000000) :
    Calls Tryd.prog 120 #[.slice a l.length cap, .int .i64 at_, .int .i64 most] w (TookT w l at_ most) := by
  have htk := take_anyW a cap at_ l w hb hc hm hL
  unfold Took at htk
  cases ht : takeO l at_ with
  | none =>
    obtain ⟨h1, h2, h3⟩ := t_none ht
    rw [h1, h2, h3] at htk
    have HO : Hid (textO l at_ most = none) := by show _ = _; simp [textO, ht]
    clear h1 h2 h3 ht
    go_enter Tryd.func120, Tryd.ntmps120
    go_wp2_with (go_at_call 56; refine htk.mono ?_; rintro e w2 ⟨rfl, rfl⟩)
    go_ret3
    exact TookT.none HO.out
  | some p =>
    obtain ⟨n, c⟩ := p
    obtain ⟨h1, h2, h3⟩ := t_some ht
    rw [h1, h2, h3] at htk
    have HO : Hid (textO l at_ most = if 1048576 < n ∨ most < (n : Int) ∨ (l.length : Int) - (at_ + c) < n then none else some ((l.drop (at_ + c).toNat).take n, at_ + c + n)) := by show _ = _; simp [textO, ht]
    have hlt := take_lt ht
    obtain ⟨i, rfl, hil⟩ : ∃ i : Nat, at_ = i ∧ i ≤ l.length := by
      unfold takeO at ht
      by_cases hi : 0 ≤ at_ ∧ at_ ≤ l.length
      · exact ⟨at_.toNat, by omega, by omega⟩
      · rw [if_neg hi] at ht; cases ht
    obtain ⟨v, hv, _, _, hc0, hcl, _⟩ := decF_form 10 0 0 (l.drop i) n c (by omega) (by decide) (by rw [take_in l i hil, decF_take] at ht; exact ht)
    rw [List.length_drop] at hcl
    have hcl2 : i + c ≤ l.length := by omega
    clear h1 h2 h3 ht hv hcl
    by_cases hbig : 1048576 < n
    · have HN := HO.out.trans (if_pos (.inl hbig))
      have HN' := Lib.hid HN
      clear HN HO
      have tb : decide ((1048576 : Int) < (n : Int)) = true := by simp; omega
      go_enter Tryd.func120, Tryd.ntmps120
      go_wp2_with (go_at_call 56; refine htk.mono ?_; rintro e w2 ⟨rfl, rfl⟩)
      go_ret3
      exact TookT.none HN'.out
    have hn1 : (n : Int) ≤ 1048576 := by omega
    by_cases hmost : most < (n : Int)
    · have HN' := Lib.hid (HO.out.trans (if_pos (.inr (.inl hmost))))
      clear HO
      go_enter Tryd.func120, Tryd.ntmps120
      go_wp2_with (go_at_call 56; refine htk.mono ?_; rintro e w2 ⟨rfl, rfl⟩)
      go_ret3
      exact TookT.none HN'.out
    by_cases hlong : (l.length : Int) - ((i : Int) + c) < n
    · have HN' := Lib.hid (HO.out.trans (if_pos (.inr (.inr hlong))))
      clear HO
      go_enter Tryd.func120, Tryd.ntmps120
      go_wp2_with (go_at_call 56; refine htk.mono ?_; rintro e w2 ⟨rfl, rfl⟩)
      go_ret3
      exact TookT.none HN'.out
    have HN' := Lib.hid (HO.out.trans (if_neg (by omega)))
    clear HO
    obtain ⟨b, o, rfl, _⟩ := hb i (by omega)
    by_cases hcap : cap = i + c
    · obtain rfl : n = 0 := by omega
      subst hcap
      have hcv : (convert 24 9 (.slice (some ⟨b, o, none⟩) 0 0)).run Tryd.prog w = .ok (.string (str [])) w := conv (Byt.empty w _) 0
      go_enter Tryd.func120, Tryd.ntmps120
      go_wp2_with (go_at_call 56; refine htk.mono ?_; rintro e w2 ⟨rfl, rfl⟩)
      go_ret3
      exact TookT.some HN'.out rfl
    have hcap2 : i + c < cap := by omega
    clear hcap
    have hpart := hb.part (i + c) n
    have hlen : ((l.drop (i + c)).take n).length = n := by simp; omega
    have hcv : (convert 24 9 (.slice (some ⟨b, o + (i + c), none⟩) n (cap - (i + c)))).run Tryd.prog w = .ok (.string (str ((l.drop (i + c)).take n))) w := by
      have := conv hpart (cap - (i + c))
      rwa [hlen] at this
    clear hlen hpart
    go_enter Tryd.func120, Tryd.ntmps120
    go_wp2_with (go_at_call 56; refine htk.mono ?_; rintro e w2 ⟨rfl, rfl⟩)
    go_ret3
    exact TookT.some HN'.out (by rw [show ((i : Int) + c).toNat = i + c by omega])

end Go.Proofs.YtfgmdaemcaamiaaDoor
