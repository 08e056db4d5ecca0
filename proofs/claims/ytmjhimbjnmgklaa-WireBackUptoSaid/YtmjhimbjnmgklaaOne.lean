/- The walk of stackyardlaw02.WireOne (7): it answers true. -/
import Derived.Test.YtmjhimbjnmgklaaShown
import Derived.Test.YtmjhimbjnmgklaaSigned
import Derived.Deep.QuietTactic
import Derived.BigQuiet
import Derived.Lib.Hide
namespace Go.Proofs.Ytmjhimbjnmgklaa
open Go.RowKit
set_option linter.unusedVariables false

theorem Below.drewN' {B : Nat} {a w : World} (h : Below B a w) (k : Nat) : Below B a (w.drewN k) := h.trans ⟨rfl, rfl, rfl, Nat.le_refl _, fun _ _ => rfl⟩

/-- A piece of a slice of bytes. -/
theorem Byt.part {w : World} {b o : Nat} {l : List UInt8} (h : Byt w (some ⟨b, o, none⟩) l) (i c : Nat) : Byt w (some ⟨b, o + i, none⟩) ((l.drop i).take c) := by
  intro k hk
  simp only [List.length_take, List.length_drop] at hk
  obtain ⟨b', o', e, hc'⟩ := h (i + k) (by omega)
  simp only [Option.some.injEq, Addr.mk.injEq, and_true] at e
  obtain ⟨rfl, rfl⟩ := e
  refine ⟨b, o + i, rfl, ?_⟩
  rw [Nat.add_assoc, hc']
  simp

set_option maxHeartbeats 4000000 in
set_option maxRecDepth 100000 in
theorem one_any (a : Option Addr) (cap : Nat) (at_ : Int) (l : List UInt8) (w : World) (hb : Byt w a l) (hn : a = none → cap = 0) (hc : l.length ≤ cap) (hm : cap ≤ 140737488351232) :
    Calls Try.prog 7 #[.slice a l.length cap, .int .i64 at_] w fun e w' => e = .returned (.bool true) ∧ Below w.heap.size w w' := by
  have hts : ∀ w1, Below w.heap.size w w1 → Calls Try.prog 17 #[.slice a l.length cap, .int .i64 at_] w1 (TookS w1 l at_) := fun w1 h => takesigned_any a cap at_ l w1 (hb.keep h) hc hm
  have htk : ∀ w1, Below w.heap.size w w1 → Calls Try.prog 15 #[.slice a l.length cap, .int .i64 at_] w1 (Took w1 l at_) := fun w1 h => take_any a cap at_ l w1 (hb.keep h) hc hm
  cases ht : takeO l at_ with
  | none =>
    obtain ⟨h1, h2, h3⟩ := t_none ht
    have hu : unzig l at_ = 0 := by simp [unzig, ht]
    unfold Took TookS at *
    rw [h1, h2, h3] at htk
    rw [hu, h2, h3] at hts
    clear h1 h2 h3 ht hu
    have HTK := Lib.hid htk
    have HTS := Lib.hid hts
    clear htk hts
    go_enter Try.func7, Try.ntmps7
    go_wp2_with (first | (go_at_call 14; refine (shown_any _).mono ?_; rintro e w1 ⟨rfl, hbel⟩) | (go_at_call 15; refine (HTK.out _ hbel).mono ?_; rintro e w2 ⟨rfl, rfl⟩) | (go_at_call 17; refine (HTS.out _ hbel).mono ?_; rintro e w2 ⟨rfl, rfl⟩))
    go_ret
    exact ⟨rfl, hbel⟩
  | some p =>
    obtain ⟨n, c⟩ := p
    obtain ⟨h1, h2, h3⟩ := t_some ht
    have hu : unzig l at_ = zag n := by simp [unzig, ht]
    have hnlt := take_lt ht
    unfold Took TookS at *
    rw [h1, h2, h3] at htk
    rw [hu, h2, h3] at hts
    clear h1 h2 h3 hu
    obtain ⟨i, rfl, hil⟩ : ∃ i : Nat, at_ = i ∧ i ≤ l.length := by
      unfold takeO at ht
      by_cases hi : 0 ≤ at_ ∧ at_ ≤ l.length
      · exact ⟨at_.toNat, by omega, by omega⟩
      · rw [if_neg hi] at ht; cases ht
    obtain ⟨v, hv, _, _, hc0, hcl, hform⟩ := decF_form 10 0 0 (l.drop i) n c (by omega) (by decide) (by rw [take_in l i hil, decF_take] at ht; exact ht)
    have hvn : v = n := by simp at hv; omega
    subst hvn
    have hform : (l.drop i).take c = num v := hform
    rw [List.length_drop] at hcl
    have hzr : -9223372036854775808 ≤ zag v ∧ zag v ≤ 9223372036854775807 := by unfold zag; by_cases h : v % 2 = 1 <;> simp [h] <;> omega
    have HN : ∀ w1, Calls Try.prog 19 #[.slice none 0 0, .int .u64 v] w1 (Made w1 (num v)) := fun w1 => number_any none 0 v [] w1 (Byt.empty _ _) (fun _ => rfl) (by simp) hnlt
    have HS : ∀ w1, Calls Try.prog 21 #[.slice none 0 0, .int .i64 (zag v)] w1 (Made w1 (num v)) := fun w1 => by
      have := signed_any none 0 (zag v) [] w1 (Byt.empty _ _) (fun _ => rfl) (by simp) hzr.1 hzr.2
      rw [zig_zag] at this
      exact this
    obtain ⟨b, o, rfl, _⟩ := hb i (by omega)
    have hpart : Byt w (some ⟨b, o + i, none⟩) (num v) := hform ▸ hb.part i c
    have hlen : (num v).length = c := by rw [← hform]; simp; omega
    have hconv : ∀ w1, Below w.heap.size w w1 → (convert 22 9 (.slice (some ⟨b, o + i, none⟩) c (cap - i))).run Try.prog w1 = .ok (.string (str (num v))) w1 := fun w1 h => by
      have := conv (hpart.keep h) (cap - i)
      rwa [hlen] at this
    have HTK := Lib.hid htk
    have HTS := Lib.hid hts
    have HNu := Lib.hid HN
    have HSi := Lib.hid HS
    have HCo := Lib.hid hconv
    have HLe := Lib.hid hlen
    clear htk hts HN HS hconv hlen ht hform hzr hv hpart hnlt
    have hci : i + c ≤ l.length := by omega
    go_enter Try.func7, Try.ntmps7
    go_wp2_with (first | (go_at_call 14; refine (shown_any _).mono ?_; rintro e w1 ⟨rfl, hbel⟩) | (go_at_call 15; refine (HTK.out _ hbel).mono ?_; rintro e w2 ⟨rfl, rfl⟩) | (go_at_call 17; refine (HTS.out _ hbel).mono ?_; rintro e w2 ⟨rfl, rfl⟩) | (go_at_call 19; refine (HNu.out _).mono ?_; rintro e w3 ⟨v3, rfl, hown3, hbel3⟩) | (go_at_call 21; refine (HSi.out _).mono ?_; rintro e w4 ⟨v4, rfl, hown4, hbel4⟩))
    obtain ⟨A3, c3, rfl, hy3, _, _, _⟩ := (hown3).form
    obtain ⟨A4, c4, rfl, hy4, _, _, _⟩ := (hown4).form
    have hbel34 := hbel.trans (hbel3.mono hbel.size)
    have hbelA := hbel34.trans (hbel4.mono hbel34.size)
    have q3 : ∀ k, (convert 22 9 (.slice A3 (num v).length c3)).run Try.prog (w4.drewN k) = .ok (.string (str (num v))) (w4.drewN k) := fun k => conv (w := w4.drewN k) (hy3.keep (Below.drewN' hbel4 k)) c3
    have q4 : ∀ k, (convert 22 9 (.slice A4 (num v).length c4)).run Try.prog (w4.drewN k) = .ok (.string (str (num v))) (w4.drewN k) := fun k => conv (w := w4.drewN k) hy4 c4
    have q5 : ∀ k, (convert 22 9 (.slice (some ⟨b, o + i, none⟩) c (cap - i))).run Try.prog (w4.drewN k) = .ok (.string (str (num v))) (w4.drewN k) := fun k => HCo.out (w4.drewN k) (hbelA.trans ⟨rfl, rfl, rfl, Nat.le_refl _, fun _ _ => rfl⟩)
    have q30 := q3 0
    have q40 := q4 0
    have q50 := q5 0
    have hlo : ((i : Int) ≤ (i : Int) + (c : Int)) := by omega
    have hhi : ((i : Int) + (c : Int) ≤ (cap : Int)) := by omega
    have hicap : ¬ (cap = i) := by omega
    clear hy3 hy4 hbel3 hbel4 hbel hbel34 hown3 hown4
    go_quiet (fail)
    go_wp2
    go_ret
    exact ⟨rfl, Below.drewN' hbelA _⟩
end Go.Proofs.Ytmjhimbjnmgklaa
