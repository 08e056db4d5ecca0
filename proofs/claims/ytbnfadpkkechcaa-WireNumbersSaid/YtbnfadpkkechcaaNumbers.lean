/- The walk of stackyardlaw02.WireNumbers (3): it answers true. -/
import Derived.Test.YtbnfadpkkechcaaShown
import Derived.Test.YtbnfadpkkechcaaRefNum
import Derived.Test.YtbnfadpkkechcaaOne0
import Derived.Test.YtbnfadpkkechcaaRegB
import Derived.Lib.Hide
namespace Go.Proofs.Ytbnfadpkkechcaa
open Go.RowKit
set_option linter.unusedVariables false

def MadeS (w0 w : World) (l : List UInt8) (e : Ending) (w' : World) : Prop := ∃ A c, e = .returned (.slice A l.length c) ∧ Below w0.heap.size w0 w' ∧ Below w.heap.size w w' ∧ Byt w' A l
theorem Made.s {w0 w w' : World} {l : List UInt8} {e : Ending} (hb : Below w0.heap.size w0 w) (h : Made w l e w') : MadeS w0 w l e w' := by
  obtain ⟨v, he, ho, hw⟩ := h
  obtain ⟨A, c, rfl, hy, _, _, _⟩ := ho.form
  exact ⟨A, c, he, hb.trans (hw.mono hb.size), hw, hy⟩

set_option maxHeartbeats 4000000 in
set_option maxRecDepth 100000 in
theorem numbers_any (a : Option Addr) (cap n : Nat) (s at_ : Int) (l : List UInt8) (w : World) (hb : Byt w a l) (hn : a = none → cap = 0) (hc : l.length ≤ cap) (hm : cap ≤ 140737488351232) (hn64 : n < 18446744073709551616) (h63 : at_ ≤ 9223372036854775807) (s0 : -9223372036854775808 ≤ s) (s1 : s ≤ 9223372036854775807) :
    Calls Try.prog 3 #[.slice a l.length cap, .int .u64 n, .int .i64 s, .int .i64 at_] w fun e w' => e = .returned (.bool true) ∧ Below w.heap.size w w' := by
  have HT1 := Lib.hid (fun w1 (h : Below w.heap.size w w1) => take_any a cap at_ l w1 (hb.keep h) hc hm)
  have HT2 := Lib.hid (fun w1 (h : Below w.heap.size w w1) => reftake_any a cap at_ l w1 (hb.keep h) hc hm h63)
  have HS1 := Lib.hid (fun w1 (h : Below w.heap.size w w1) => takesigned_any a cap at_ l w1 (hb.keep h) hc hm)
  have HS2 := Lib.hid (fun w1 (h : Below w.heap.size w w1) => reftakesigned_any a cap at_ l w1 (hb.keep h) hc hm h63)
  have HN1 := Lib.hid (fun w1 (h : Below w.heap.size w w1) => (number_any a cap n l w1 (hb.keep h) hn (by omega) hn64).mono fun e w' => Made.s h)
  have HN2 := Lib.hid (fun w1 (h : Below w.heap.size w w1) => (refnumber_any a cap n l w1 (hb.keep h) hn (by omega) hn64).mono fun e w' => Made.s h)
  have HZ1 := Lib.hid (fun w1 (h : Below w.heap.size w w1) => (signed_any a cap s l w1 (hb.keep h) hn (by omega) s0 s1).mono fun e w' => Made.s h)
  have HZ2 := Lib.hid (fun w1 (h : Below w.heap.size w w1) => (refsigned_any a cap s l w1 (hb.keep h) hn (by omega) s0 s1).mono fun e w' => Made.s h)
  clear hb hn hc hm h63 hn64 s0 s1
  go_enter Try.func3, Try.ntmps3
  go_upto_region 6 with (first | (go_at_call 4; refine (shown_any _).mono ?_; rintro e w1 ⟨rfl, hbel⟩) | (go_at_call 5; refine (HT1.out _ hbel).mono ?_; rintro e w2 ⟨rfl, rfl⟩) | (go_at_call 6; refine (HT2.out _ hbel).mono ?_; rintro e w2 ⟨rfl, rfl⟩) | (go_at_call 7; refine (HS1.out _ hbel).mono ?_; rintro e w2 ⟨rfl, rfl⟩) | (go_at_call 8; refine (HS2.out _ hbel).mono ?_; rintro e w2 ⟨rfl, rfl⟩))
  clear HT1 HT2 HS1 HS2
  have hbd : Below w.heap.size w w1.drew := hbel.drew
  clear hbel
  generalize hd1 : l ++ num n = D1 at HN1 HN2
  generalize hd2 : l ++ num (zig s) = D2 at HZ1 HZ2
  clear hd1 hd2
  generalize tV l at_ = V1
  generalize tP l at_ = V2
  generalize tE l at_ = V3
  generalize unzig l at_ = V4
  refine wpB_start 54 (by kernel_rfl) rfl (fun R HR => ?_)
  refine wpB_take HR (i := 0) rfl (by decide +kernel) (by decide +kernel) (by decide +kernel) (fun _ _ _ h => h) (by rfl) (fun W hW => by rfl) ?_
  go_simp
  refine wpB_take HR (i := 1) rfl (by decide +kernel) (by decide +kernel) (by decide +kernel) (fun _ _ _ h => h) (by rfl) (fun W hW => by rfl) ?_
  go_simp
  refine wpB_take HR (i := 2) rfl (by decide +kernel) (by decide +kernel) (by decide +kernel) (fun _ _ _ h => h) (by rfl) (fun W hW => by rfl) ?_
  go_simp
  refine wpB_take HR (i := 3) rfl (by decide +kernel) (by decide +kernel) (by decide +kernel) (fun _ _ _ h => h) (by rfl) (fun W hW => by rfl) ?_
  go_simp
  refine wpB_take HR (i := 6) rfl (by decide +kernel) (by decide +kernel) (by decide +kernel) (fun _ _ _ h => h) (by rfl) (fun W hW => by rfl) ?_
  go_simp
  refine wpB_take HR (i := 7) rfl (by decide +kernel) (by decide +kernel) (by decide +kernel) (fun _ _ _ h => h) (by rfl) (fun W hW => by rfl) ?_
  go_simp
  refine wpB_call HR (i := 4) rfl (by decide +kernel) (by rfl) (by go_simp; exact ⟨rfl, rfl⟩) ?_
  refine (HN1.out _ hbd).mono ?_; rintro e w2 ⟨A2, c2, rfl, hb2, hbb2, hy2⟩; refine ⟨_, rfl, hbb2, ?_⟩
  go_simp
  refine wpB_take HR (i := 5) (v := .string (str D1)) rfl (by decide +kernel) (by decide +kernel) (by decide +kernel) (fun _ _ _ h => h) (by rfl) (fun W hW => by have q := conv (hy2.keep hW) c2; go_simp) ?_
  go_simp
  refine wpB_call HR (i := 8) rfl (by decide +kernel) (by rfl) (by go_simp; exact ⟨rfl, rfl⟩) ?_
  refine (HN2.out _ hb2).mono ?_; rintro e w3 ⟨A3, c3, rfl, hb3, hbb3, hy3⟩; refine ⟨_, rfl, hbb3, ?_⟩
  go_simp
  refine wpB_take HR (i := 9) (v := .string (str D1)) rfl (by decide +kernel) (by decide +kernel) (by decide +kernel) (fun _ _ _ h => h) (by rfl) (fun W hW => by have q := conv (hy3.keep hW) c3; go_simp) ?_
  go_simp
  refine wpB_take HR (i := 10) (v := .bool true) rfl (by decide +kernel) (by decide +kernel) (by decide +kernel) (fun _ _ _ h => h) (by rfl) (fun W hW => by go_simp) ?_
  go_simp
  refine wpB_take HR (i := 11) rfl (by decide +kernel) (by decide +kernel) (by decide +kernel) (fun _ _ _ h => h) (by rfl) (fun W hW => by rfl) ?_
  go_simp
  refine wpB_take HR (i := 12) rfl (by decide +kernel) (by decide +kernel) (by decide +kernel) (fun _ _ _ h => h) (by rfl) (fun W hW => by rfl) ?_
  go_simp
  refine wpB_take HR (i := 13) rfl (by decide +kernel) (by decide +kernel) (by decide +kernel) (fun _ _ _ h => h) (by rfl) (fun W hW => by rfl) ?_
  go_simp
  refine wpB_take HR (i := 14) rfl (by decide +kernel) (by decide +kernel) (by decide +kernel) (fun _ _ _ h => h) (by rfl) (fun W hW => by rfl) ?_
  go_simp
  refine wpB_take HR (i := 17) rfl (by decide +kernel) (by decide +kernel) (by decide +kernel) (fun _ _ _ h => h) (by rfl) (fun W hW => by rfl) ?_
  go_simp
  refine wpB_take HR (i := 18) rfl (by decide +kernel) (by decide +kernel) (by decide +kernel) (fun _ _ _ h => h) (by rfl) (fun W hW => by rfl) ?_
  go_simp
  refine wpB_call HR (i := 15) rfl (by decide +kernel) (by rfl) (by go_simp; exact ⟨rfl, rfl⟩) ?_
  refine (HZ1.out _ hb3).mono ?_; rintro e w4 ⟨A4, c4, rfl, hb4, hbb4, hy4⟩; refine ⟨_, rfl, hbb4, ?_⟩
  go_simp
  refine wpB_take HR (i := 16) (v := .string (str D2)) rfl (by decide +kernel) (by decide +kernel) (by decide +kernel) (fun _ _ _ h => h) (by rfl) (fun W hW => by have q := conv (hy4.keep hW) c4; go_simp) ?_
  go_simp
  refine wpB_call HR (i := 19) rfl (by decide +kernel) (by rfl) (by go_simp; exact ⟨rfl, rfl⟩) ?_
  refine (HZ2.out _ hb4).mono ?_; rintro e w5 ⟨A5, c5, rfl, hb5, hbb5, hy5⟩; refine ⟨_, rfl, hbb5, ?_⟩
  go_simp
  refine wpB_take HR (i := 20) (v := .string (str D2)) rfl (by decide +kernel) (by decide +kernel) (by decide +kernel) (fun _ _ _ h => h) (by rfl) (fun W hW => by have q := conv (hy5.keep hW) c5; go_simp) ?_
  go_simp
  refine wpB_take HR (i := 21) (v := .bool true) rfl (by decide +kernel) (by decide +kernel) (by decide +kernel) (fun _ _ _ h => h) (by rfl) (fun W hW => by go_simp) ?_
  go_simp
  refine wpB_take HR (i := 22) rfl (by decide +kernel) (by decide +kernel) (by decide +kernel) (fun _ _ _ h => h) (by rfl) (fun W hW => by rfl) ?_
  go_simp
  refine wpB_take HR (i := 23) rfl (by decide +kernel) (by decide +kernel) (by decide +kernel) (fun _ _ _ h => h) (by rfl) (fun W hW => by rfl) ?_
  go_simp
  refine wpB_take HR (i := 24) rfl (by decide +kernel) (by decide +kernel) (by decide +kernel) (fun _ _ _ h => h) (by rfl) (fun W hW => by rfl) ?_
  go_simp
  refine wpB_take HR (i := 25) rfl (by decide +kernel) (by decide +kernel) (by decide +kernel) (fun _ _ _ h => h) (by rfl) (fun W hW => by rfl) ?_
  go_simp
  refine wpB_take HR (i := 26) (v := .bool true) rfl (by decide +kernel) (by decide +kernel) (by decide +kernel) (fun _ _ _ h => h) (by rfl) (fun W hW => by go_simp) ?_
  go_simp
  refine wpB_take HR (i := 27) rfl (by decide +kernel) (by decide +kernel) (by decide +kernel) (fun _ _ _ h => h) (by rfl) (fun W hW => by rfl) ?_
  go_simp
  refine wpB_take HR (i := 28) rfl (by decide +kernel) (by decide +kernel) (by decide +kernel) (fun _ _ _ h => h) (by rfl) (fun W hW => by rfl) ?_
  go_simp
  refine wpB_take HR (i := 29) rfl (by decide +kernel) (by decide +kernel) (by decide +kernel) (fun _ _ _ h => h) (by rfl) (fun W hW => by rfl) ?_
  go_simp
  refine wpB_take HR (i := 30) rfl (by decide +kernel) (by decide +kernel) (by decide +kernel) (fun _ _ _ h => h) (by rfl) (fun W hW => by rfl) ?_
  go_simp
  refine wpB_take HR (i := 31) (v := .bool true) rfl (by decide +kernel) (by decide +kernel) (by decide +kernel) (fun _ _ _ h => h) (by rfl) (fun W hW => by go_simp) ?_
  go_simp
  refine wpB_take HR (i := 32) rfl (by decide +kernel) (by decide +kernel) (by decide +kernel) (fun _ _ _ h => h) (by rfl) (fun W hW => by rfl) ?_
  go_simp
  refine wpB_take HR (i := 33) rfl (by decide +kernel) (by decide +kernel) (by decide +kernel) (fun _ _ _ h => h) (by rfl) (fun W hW => by rfl) ?_
  go_simp
  refine wpB_take HR (i := 34) rfl (by decide +kernel) (by decide +kernel) (by decide +kernel) (fun _ _ _ h => h) (by rfl) (fun W hW => by rfl) ?_
  go_simp
  refine wpB_take HR (i := 35) rfl (by decide +kernel) (by decide +kernel) (by decide +kernel) (fun _ _ _ h => h) (by rfl) (fun W hW => by rfl) ?_
  go_simp
  refine wpB_take HR (i := 36) (v := .bool true) rfl (by decide +kernel) (by decide +kernel) (by decide +kernel) (fun _ _ _ h => h) (by rfl) (fun W hW => by go_simp) ?_
  go_simp
  refine wpB_take HR (i := 37) rfl (by decide +kernel) (by decide +kernel) (by decide +kernel) (fun _ _ _ h => h) (by rfl) (fun W hW => by rfl) ?_
  go_simp
  refine wpB_take HR (i := 38) rfl (by decide +kernel) (by decide +kernel) (by decide +kernel) (fun _ _ _ h => h) (by rfl) (fun W hW => by rfl) ?_
  go_simp
  refine wpB_take HR (i := 39) rfl (by decide +kernel) (by decide +kernel) (by decide +kernel) (fun _ _ _ h => h) (by rfl) (fun W hW => by rfl) ?_
  go_simp
  refine wpB_take HR (i := 40) rfl (by decide +kernel) (by decide +kernel) (by decide +kernel) (fun _ _ _ h => h) (by rfl) (fun W hW => by rfl) ?_
  go_simp
  refine wpB_take HR (i := 41) (v := .bool true) rfl (by decide +kernel) (by decide +kernel) (by decide +kernel) (fun _ _ _ h => h) (by rfl) (fun W hW => by go_simp) ?_
  go_simp
  refine wpB_take HR (i := 42) rfl (by decide +kernel) (by decide +kernel) (by decide +kernel) (fun _ _ _ h => h) (by rfl) (fun W hW => by rfl) ?_
  go_simp
  refine wpB_take HR (i := 43) rfl (by decide +kernel) (by decide +kernel) (by decide +kernel) (fun _ _ _ h => h) (by rfl) (fun W hW => by rfl) ?_
  go_simp
  refine wpB_take HR (i := 44) rfl (by decide +kernel) (by decide +kernel) (by decide +kernel) (fun _ _ _ h => h) (by rfl) (fun W hW => by rfl) ?_
  go_simp
  refine wpB_take HR (i := 45) rfl (by decide +kernel) (by decide +kernel) (by decide +kernel) (fun _ _ _ h => h) (by rfl) (fun W hW => by rfl) ?_
  go_simp
  refine wpB_take HR (i := 46) (v := .bool true) rfl (by decide +kernel) (by decide +kernel) (by decide +kernel) (fun _ _ _ h => h) (by rfl) (fun W hW => by go_simp) ?_
  go_simp
  refine wpB_take HR (i := 47) rfl (by decide +kernel) (by decide +kernel) (by decide +kernel) (fun _ _ _ h => h) (by rfl) (fun W hW => by rfl) ?_
  go_simp
  refine wpB_take HR (i := 48) rfl (by decide +kernel) (by decide +kernel) (by decide +kernel) (fun _ _ _ h => h) (by rfl) (fun W hW => by rfl) ?_
  go_simp
  refine wpB_take HR (i := 49) rfl (by decide +kernel) (by decide +kernel) (by decide +kernel) (fun _ _ _ h => h) (by rfl) (fun W hW => by rfl) ?_
  go_simp
  refine wpB_take HR (i := 50) rfl (by decide +kernel) (by decide +kernel) (by decide +kernel) (fun _ _ _ h => h) (by rfl) (fun W hW => by rfl) ?_
  go_simp
  refine wpB_take HR (i := 51) (v := .bool true) rfl (by decide +kernel) (by decide +kernel) (by decide +kernel) (fun _ _ _ h => h) (by rfl) (fun W hW => by go_simp) ?_
  go_simp
  refine wpB_take HR (i := 52) rfl (by decide +kernel) (by decide +kernel) (by decide +kernel) (fun _ _ _ h => h) (by rfl) (fun W hW => by rfl) ?_
  go_simp
  refine wpB_take HR (i := 53) rfl (by decide +kernel) (by decide +kernel) (by decide +kernel) (fun _ _ _ h => h) (by rfl) (fun W hW => by rfl) ?_
  go_simp
  refine wpB_done HR (by decide +kernel) ?_
  go_wp2
  go_ret
  exact ⟨rfl, hb5⟩
end Go.Proofs.Ytbnfadpkkechcaa
