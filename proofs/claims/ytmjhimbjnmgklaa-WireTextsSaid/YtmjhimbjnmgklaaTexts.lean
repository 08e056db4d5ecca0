/- The walk of stackyardlaw02.WireTexts (4): it answers true. -/
import Derived.Test.YtmjhimbjnmgklaaText
namespace Go.Proofs.Ytmjhimbjnmgklaa
open Go.RowKit
set_option linter.unusedVariables false

set_option maxHeartbeats 4000000 in
set_option maxRecDepth 100000 in
theorem texts_any (a : Option Addr) (cap : Nat) (s : ByteArray) (at_ most : Int) (l : List UInt8) (w : World) (hb : Byt w a l) (hn : a = none → cap = 0) (hc : l.length ≤ cap) (hm : cap ≤ 140737488351232) (h63 : at_ ≤ 9223372036854775807) (hs63 : s.size ≤ maxLen) :
    Calls Try.prog 4 #[.slice a l.length cap, .string s, .int .i64 at_, .int .i64 most] w fun e w' => e = .returned (.bool true) ∧ Below w.heap.size w w' := by
  unfold maxLen at hs63
  have HT := Lib.hid (fun w1 (h : Below w.heap.size w w1) => taketext_any a cap at_ most l w1 (hb.keep h) hn hc hm)
  have HR := Lib.hid (fun w1 (h : Below w.heap.size w w1) => reftaketext_any a cap at_ most l w1 (hb.keep h) hn hc hm h63)
  have HA := Lib.hid (fun w1 (h : Below w.heap.size w w1) (t : ByteArray) (ht : t.size ≤ 1048576) => text_any a cap t l w1 ht (hb.keep h) hn (by omega))
  have HB := Lib.hid (fun w1 (h : Below w.heap.size w w1) (t : ByteArray) (ht : t.size ≤ 1048576) => reftext_any a cap t l w1 ht (hb.keep h) hn (by omega))
  have HX := Lib.hid (fun w1 (t : ByteArray) (ht : 1048576 < t.size) => text_big a cap t l w1 ht)
  have HY := Lib.hid (fun w1 (t : ByteArray) (ht : 1048576 < t.size) => reftext_big a cap t l w1 ht)
  clear hb hn hc hm h63
  go_enter Try.func4, Try.ntmps4
  go_upto_region 2 with (go_at_call 14; refine (shown_any _).mono ?_; rintro e w1 ⟨rfl, hbel⟩)
  go_cut [1] (fun x wc => ∃ t : ByteArray, x = .string t ∧ t.size ≤ 2000000 ∧ wc = w1)
  case first =>
    by_cases h : s.size ≤ 2000000
    · go_wp2_with fail
      go_meet
      exact ⟨_, rfl, h, rfl⟩
    · go_wp2_with fail
      go_meet
      exact ⟨_, rfl, by rw [ByteArray.size_extract]; omega, rfl⟩
  case rest =>
    obtain ⟨t, rfl, ht, rfl⟩ := hcut
    by_cases hbig : 1048576 < t.size
    · have hcv : ∀ w, (convert 22 9 (.slice none 0 0)).run Try.prog w = .ok (.string ⟨#[]⟩) w := fun w => conv (Byt.empty w none) 0
      go_wp2_with (first | (go_at_call 23; refine (HX.out _ t hbig).mono ?_; rintro e w2 ⟨rfl, rfl⟩) | (go_at_call 24; refine (HY.out _ t hbig).mono ?_; rintro e w2 ⟨rfl, rfl⟩) | (go_at_call 25; refine (HT.out _ hbel).mono ?_; rintro e w2 ⟨rfl, rfl⟩) | (go_at_call 26; refine (HR.out _ hbel).mono ?_; rintro e w2 ⟨rfl, rfl⟩))
      go_ret
      exact ⟨rfl, hbel⟩
    · have hok : t.size ≤ 1048576 := by omega
      clear hbig
      generalize hd : l ++ num t.size ++ t.data.toList = d
      have HD := Lib.hid hd
      clear hd
      go_wp2_with (first | (go_at_call 23; refine (HA.out _ hbel t hok).mono ?_; rintro e w2 ⟨v2, rfl, hown2, hbel2⟩; rw [HD.out] at hown2; obtain ⟨A2, c2, rfl, hy2, _, _, _⟩ := hown2.form; have hbelA := hbel.trans (hbel2.mono hbel.size)) | (go_at_call 24; refine (HB.out _ hbelA t hok).mono ?_; rintro e w3 ⟨v3, rfl, hown3, hbel3⟩; rw [HD.out] at hown3; obtain ⟨A3, c3, rfl, hy3, _, _, _⟩ := hown3.form; have hcv3 := conv hy3 c3; have hcv2 := conv (hy2.keep hbel3) c2; have hbelB := hbelA.trans (hbel3.mono hbelA.size)) | (go_at_call 25; refine (HT.out _ hbelB).mono ?_; rintro e w4 ⟨rfl, rfl⟩) | (go_at_call 26; refine (HR.out _ hbelB).mono ?_; rintro e w4 ⟨rfl, rfl⟩))
      go_ret
      exact ⟨rfl, hbelB⟩
end Go.Proofs.Ytmjhimbjnmgklaa
