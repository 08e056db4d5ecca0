/- The walk of stackyardlaw02.WireSums (5): it answers true. -/
import Derived.Test.YtmjhimbjnmgklaaShown
import Derived.Test.YtmjhimbjnmgklaaLaws
import Derived.Lib.Hide
namespace Go.Proofs.Ytmjhimbjnmgklaa
open Go.RowKit
set_option linter.unusedVariables false

set_option maxHeartbeats 400000 in
set_option maxRecDepth 100000 in
theorem sums_any (A : Option Addr) (cap : Nat) (ps : List (List UInt8)) (w : World) (hp : Parts w A ps) (hr : ∀ q ∈ ps, q.length ≤ 140737488351232) (hl : ps.length ≤ maxLen) :
    Calls Try.prog 5 #[.slice A ps.length cap] w fun e w' => e = .returned (.bool true) ∧ Below w.heap.size w w' := by
  have HP := Lib.hid hp
  have HL := Lib.hid hl
  have HR := Lib.hid hr
  clear hr
  unfold maxLen at hl
  clear hp
  go_enter Try.func5, Try.ntmps5
  go_wp2_with (go_at_call 14; refine (shown_any _).mono ?_; rintro e w1 ⟨rfl, hbel⟩)
  go_loopw [4, 5] (fun v i wr => ∃ k : Nat, k ≤ ps.length ∧ i = .int .i64 k ∧ Own wr w.heap.size v (ps.take k).flatten ∧ (ps.take k).flatten.length ≤ 100000 ∧ Below w.heap.size w wr) (fun _ i _ => ps.length - (intOf i).toNat)
  case atStart => exact ⟨0, Nat.zero_le _, rfl, Own.nil _ _, by simp, hbel⟩
  case round =>
    obtain ⟨k, hk, rfl, hown, hd, hbelr⟩ := hrel
    by_cases hlt : k < ps.length
    · obtain ⟨b, o, a, c, rfl, hc, hb, hq, hn⟩ := (HP.out.keep hbelr) k hlt
      have hql := HR.out ps[k] (List.getElem_mem hlt)
      have HS : Hid ((ps.take (k + 1)).flatten = (ps.take k).flatten ++ ps[k]) := flat_snoc ps k hlt
      have HK : Hid (k < ps.length) := hlt
      clear hq
      generalize ps[k] = q at hc hb hql HS
      generalize (ps.take k).flatten = d at HS hown hd
      by_cases hbig : 100000 < d.length + q.length
      · have hbig' : ((100000 : Int) < (d.length : Int) + (q.length : Int)) := by omega
        go_wp2_with (at_builtin; refine app_byt w rfl _ _ rfl _ d rfl hown hbelr a q.length c q rfl rfl hb hn (by omega) ?_; intro v2 w2 hown2 hbel2 _; obtain ⟨A2, c2, rfl, _, _, _, _⟩ := hown2.form)
        go_ret
        exact ⟨rfl, hbel2⟩
      · have hbig' : ¬ ((100000 : Int) < (d.length : Int) + (q.length : Int)) := by omega
        go_wp2_with (at_builtin; refine app_byt w rfl _ _ rfl _ d rfl hown hbelr a q.length c q rfl rfl hb hn (by omega) ?_; intro v2 w2 hown2 hbel2 _; obtain ⟨A2, c2, rfl, _, _, _, _⟩ := hown2.form)
        go_roundw
        case rel => exact ⟨k + 1, HK.out, by go_num, by rw [HS.out, ← List.length_append]; exact hown2, by rw [HS.out, List.length_append]; omega, hbel2⟩
        case measure => simp [intOf]; omega
    · obtain rfl : k = ps.length := by omega
      obtain ⟨wB, rfl⟩ : ∃ x, x = wr := ⟨_, rfl⟩
      have he : (ps.take ps.length).flatten = ps.flatten := by rw [List.take_length]
      rw [he] at hown hd
      obtain ⟨A2, c2, rfl, hy2, _, _, _⟩ := hown.form
      have h1 := sum_any A cap ps wB (HP.out.keep hbelr) HL.out
      have h2 := refsum_any A2 c2 ps.flatten wB hy2 (by unfold maxLen; omega)
      clear he hown
      generalize ps.flatten = F at h1 h2 hy2 hd
      have hS1 := Lib.hid h1
      have hS2 := Lib.hid h2
      clear h1 h2 hy2
      go_wp2_with (first | (go_at_call 27; refine hS1.out.mono ?_; rintro e w5 ⟨rfl, rfl⟩) | (go_at_call 28; refine hS2.out.mono ?_; rintro e w5 ⟨rfl, rfl⟩))
      go_ret
      exact ⟨rfl, hbelr⟩
end Go.Proofs.Ytmjhimbjnmgklaa
