/- The walks of Text and TakeText. -/
import Derived.Test.YtfgmdaemcaamiaaDoorRefNum
import Derived.Test.YtfgmdaemcaamiaaDoorOne0
import Derived.Lib.Hide
namespace Go.Proofs.YtfgmdaemcaamiaaDoor
open Go.RowKit
set_option linter.unusedVariables false

/-- What Text leaves of a text that is not too long. -/
def MadeT (w : World) (l : List UInt8) (e : Ending) (w' : World) : Prop := ∃ v, e = .returned (.tuple #[v, .int .i64 0]) ∧ Own w' w.heap.size v l ∧ Below w.heap.size w w'
def NoText (w : World) (e : Ending) (w' : World) : Prop := e = .returned (.tuple #[.slice none 0 0, .int .i64 2]) ∧ w = w'

theorem num_pos (l : List UInt8) (n : Nat) : 0 < (l ++ num n).length := by have := num_len n; rw [List.length_append]; omega
theorem num_ten (l : List UInt8) (n : Nat) : (l ++ num n).length ≤ l.length + 10 := by have := num_len n; rw [List.length_append]; omega

set_option maxHeartbeats 1000000 in
set_option maxRecDepth 100000 in
theorem text_big (A : Option Addr) (cap : Nat) (s : ByteArray) (l : List UInt8) (w : World) (h : 1048576 < s.size) : Calls Tryd.prog 93 #[.slice A l.length cap, .string s] w (NoText w) := by
  go_enter Tryd.func93, Tryd.ntmps93
  go_wp2
  go_ret2
  exact ⟨rfl, rfl⟩
set_option maxHeartbeats 1000000 in
set_option maxRecDepth 100000 in
theorem reftext_big (A : Option Addr) (cap : Nat) (s : ByteArray) (l : List UInt8) (w : World) (h : 1048576 < s.size) : Calls Tryd.prog 78 #[.slice A l.length cap, .string s] w (NoText w) := by
  go_enter Tryd.func78, Tryd.ntmps78
  go_wp2
  go_ret2
  exact ⟨rfl, rfl⟩
set_option maxHeartbeats 1000000 in
set_option maxRecDepth 100000 in
theorem text_any (A : Option Addr) (cap : Nat) (s : ByteArray) (l : List UInt8) (w : World) (h : s.size ≤ 1048576) (hb : Byt w A l) (hA : A = none → cap = 0) (hl : l.length + 10 ≤ 140737488355328) :
    Calls Tryd.prog 93 #[.slice A l.length cap, .string s] w (MadeT w (l ++ num s.size ++ s.data.toList)) := by
  have hcall := number_any A cap s.size l w hb hA hl (by omega)
  have h0 := num_pos l s.size
  have h10 := num_ten l s.size
  generalize l ++ num s.size = d at hcall h0 h10
  go_enter Tryd.func93, Tryd.ntmps93
  go_wp2_with (first | (go_at_call 18; refine hcall.mono ?_; rintro e w1 ⟨v, rfl, hown, hbel⟩) | (at_builtin; refine app_str w rfl _ _ rfl _ d rfl hown hbel h0 s rfl (by omega) ?_; intro v2 w2 hown2 hbel2))
  go_ret2
  exact ⟨v2, rfl, hown2, hbel2⟩
set_option maxHeartbeats 1000000 in
set_option maxRecDepth 100000 in
theorem reftext_any (A : Option Addr) (cap : Nat) (s : ByteArray) (l : List UInt8) (w : World) (h : s.size ≤ 1048576) (hb : Byt w A l) (hA : A = none → cap = 0) (hl : l.length + 10 ≤ 140737488355328) :
    Calls Tryd.prog 78 #[.slice A l.length cap, .string s] w (MadeT w (l ++ num s.size ++ s.data.toList)) := by
  have hcall := refnumber_any A cap s.size l w hb hA hl (by omega)
  have h0 := num_pos l s.size
  have h10 := num_ten l s.size
  generalize l ++ num s.size = d at hcall h0 h10
  go_enter Tryd.func78, Tryd.ntmps78
  go_wp2_with (first | (go_at_call 25; refine hcall.mono ?_; rintro e w1 ⟨v, rfl, hown, hbel⟩) | (at_builtin; refine app_str w rfl _ _ rfl _ d rfl hown hbel h0 s rfl (by omega) ?_; intro v2 w2 hown2 hbel2))
  go_ret2
  exact ⟨v2, rfl, hown2, hbel2⟩

/-- What is read at a place as a text of at most so many bytes: its bytes, and the place behind it. -/
def textO (l : List UInt8) (at_ most : Int) : Option (List UInt8 × Int) :=
  match takeO l at_ with
  | none => none
  | some (n, c) => if 1048576 < n ∨ most < (n : Int) ∨ (l.length : Int) - (at_ + c) < n then none else some ((l.drop (at_ + c).toNat).take n, at_ + c + n)
def txS (l : List UInt8) (at_ most : Int) : ByteArray := match textO l at_ most with | some (t, _) => str t | none => str []
def txP (l : List UInt8) (at_ most : Int) : Int := match textO l at_ most with | some (_, p) => p | none => 0
def txE (l : List UInt8) (at_ most : Int) : Int := match textO l at_ most with | some _ => 0 | none => 20
def TookT (w : World) (l : List UInt8) (at_ most : Int) (e : Ending) (w' : World) : Prop := e = .returned (.tuple #[.string (txS l at_ most), .int .i64 (txP l at_ most), .int .i64 (txE l at_ most)]) ∧ w = w'
theorem TookT.none {w : World} {l : List UInt8} {at_ most : Int} (h : textO l at_ most = none) : TookT w l at_ most (.returned (.tuple #[.string ⟨#[]⟩, .int .i64 0, .int .i64 20])) w := by
  refine ⟨?_, rfl⟩
  simp [txS, txP, txE, h]
  rfl
theorem TookT.some {w : World} {l : List UInt8} {at_ most p : Int} {t : List UInt8} {s : ByteArray} (h : textO l at_ most = some (t, p)) (hs : s = str t) : TookT w l at_ most (.returned (.tuple #[.string s, .int .i64 p, .int .i64 0])) w := by
  refine ⟨?_, rfl⟩
  simp [txS, txP, txE, h, hs]

set_option maxHeartbeats 2000000 in
set_option maxRecDepth 100000 in
set_option maxRecDepth 100000 in
theorem taketext_any (a : Option Addr) (cap : Nat) (at_ most : Int) (l : List UInt8) (w : World) (hb : Byt w a l) (hn : a = none → cap = 0) (hc : l.length ≤ cap) (hm : cap ≤ 140737488351232) :
    Calls Tryd.prog 120 #[.slice a l.length cap, .int .i64 at_, .int .i64 most] w (TookT w l at_ most) := by
  have htk := take_any a cap at_ l w hb hc hm
  unfold Took at htk
  cases ht : takeO l at_ with
  | none =>
    obtain ⟨h1, h2, h3⟩ := t_none ht
    rw [h1, h2, h3] at htk
    have HO : Hid (textO l at_ most = none) := by show _ = _; simp [textO, ht]
    clear h1 h2 h3 ht
    go_enter Tryd.func120, Tryd.ntmps120
    go_wp2_with (go_at_call 56; refine htk.mono ?_; rintro e w2 ⟨rfl, rfl⟩)
    go_ret3
    exact TookT.none HO.out
  | some p =>
    obtain ⟨n, c⟩ := p
    obtain ⟨h1, h2, h3⟩ := t_some ht
    rw [h1, h2, h3] at htk
    have HO : Hid (textO l at_ most = if 1048576 < n ∨ most < (n : Int) ∨ (l.length : Int) - (at_ + c) < n then none else some ((l.drop (at_ + c).toNat).take n, at_ + c + n)) := by show _ = _; simp [textO, ht]
    have hlt := take_lt ht
    obtain ⟨i, rfl, hil⟩ : ∃ i : Nat, at_ = i ∧ i ≤ l.length := by
      unfold takeO at ht
      by_cases hi : 0 ≤ at_ ∧ at_ ≤ l.length
      · exact ⟨at_.toNat, by omega, by omega⟩
      · rw [if_neg hi] at ht; cases ht
    obtain ⟨v, hv, _, _, hc0, hcl, _⟩ := decF_form 10 0 0 (l.drop i) n c (by omega) (by decide) (by rw [take_in l i hil, decF_take] at ht; exact ht)
    rw [List.length_drop] at hcl
    have hcl2 : i + c ≤ l.length := by omega
    clear h1 h2 h3 ht hv hcl
    by_cases hbig : 1048576 < n
    · have HN := HO.out.trans (if_pos (.inl hbig))
      have HN' := Lib.hid HN
      clear HN HO
      have tb : decide ((1048576 : Int) < (n : Int)) = true := by simp; omega
      go_enter Tryd.func120, Tryd.ntmps120
      go_wp2_with (go_at_call 56; refine htk.mono ?_; rintro e w2 ⟨rfl, rfl⟩)
      go_ret3
      exact TookT.none HN'.out
    have hn1 : (n : Int) ≤ 1048576 := by omega
    by_cases hmost : most < (n : Int)
    · have HN' := Lib.hid (HO.out.trans (if_pos (.inr (.inl hmost))))
      clear HO
      go_enter Tryd.func120, Tryd.ntmps120
      go_wp2_with (go_at_call 56; refine htk.mono ?_; rintro e w2 ⟨rfl, rfl⟩)
      go_ret3
      exact TookT.none HN'.out
    by_cases hlong : (l.length : Int) - ((i : Int) + c) < n
    · have HN' := Lib.hid (HO.out.trans (if_pos (.inr (.inr hlong))))
      clear HO
      go_enter Tryd.func120, Tryd.ntmps120
      go_wp2_with (go_at_call 56; refine htk.mono ?_; rintro e w2 ⟨rfl, rfl⟩)
      go_ret3
      exact TookT.none HN'.out
    have HN' := Lib.hid (HO.out.trans (if_neg (by omega)))
    clear HO
    obtain ⟨b, o, rfl, _⟩ := hb i (by omega)
    by_cases hcap : cap = i + c
    · obtain rfl : n = 0 := by omega
      subst hcap
      have hcv : (convert 24 9 (.slice (some ⟨b, o, none⟩) 0 0)).run Tryd.prog w = .ok (.string (str [])) w := conv (Byt.empty w _) 0
      go_enter Tryd.func120, Tryd.ntmps120
      go_wp2_with (go_at_call 56; refine htk.mono ?_; rintro e w2 ⟨rfl, rfl⟩)
      go_ret3
      exact TookT.some HN'.out rfl
    have hcap2 : i + c < cap := by omega
    clear hcap
    have hpart := hb.part (i + c) n
    have hlen : ((l.drop (i + c)).take n).length = n := by simp; omega
    have hcv : (convert 24 9 (.slice (some ⟨b, o + (i + c), none⟩) n (cap - (i + c)))).run Tryd.prog w = .ok (.string (str ((l.drop (i + c)).take n))) w := by
      have := conv hpart (cap - (i + c))
      rwa [hlen] at this
    clear hlen hpart
    go_enter Tryd.func120, Tryd.ntmps120
    go_wp2_with (go_at_call 56; refine htk.mono ?_; rintro e w2 ⟨rfl, rfl⟩)
    go_ret3
    exact TookT.some HN'.out (by rw [show ((i : Int) + c).toNat = i + c by omega])

end Go.Proofs.YtfgmdaemcaamiaaDoor
