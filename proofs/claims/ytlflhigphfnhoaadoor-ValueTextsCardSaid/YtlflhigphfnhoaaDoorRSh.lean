/- The walk of the document's Show (19) on texts. -/
import Derived.Test.YtlflhigphfnhoaaDoorShowA
import Derived.Test.YtlflhigphfnhoaaDoorRefNum
import Derived.Deep.DeepCutAuto
namespace Go.Proofs.YtlflhigphfnhoaaDoor
open Go.RowKit
set_option linter.unusedVariables false

theorem conv_n {w : World} {A : Option Addr} {l : List UInt8} (h : Byt w A l) (c n : Nat) (hn : l.length = n) : (convert 28 9 (.slice A n c)).run Tryd.prog w = .ok (.string (str l)) w := by subst hn; exact conv h c
set_option maxHeartbeats 2000000 in
set_option maxRecDepth 100000 in
theorem refshow_text (s : ByteArray) (w : World) (hs : s.size ≤ 1024) : Calls Tryd.prog 19 #[.agg #[.int .i64 3, .int .i64 0, .string s]] w fun e w' => e = .returned (.tuple #[.string ⟨(quoteL s.data.toList).toArray⟩, .int .i64 0]) ∧ Below w.heap.size w w' := by
  have hr := fun w => refright_any 3 0 s w (by unfold maxLen; omega)
  have e : rightB 3 0 s.toList = true := by simp [rightB, tol_len]; omega
  rw [e] at hr
  clear e
  go_enter Tryd.func19, Tryd.ntmps19
  go_wp2_with (first | (go_at_call 10; refine (hr _).mono ?_; rintro e w3 ⟨rfl, hb3⟩; obtain ⟨p1, p3⟩ := one_kept [.int .i64 3, .int .i64 0, .string s] hb3; have hlt3 := lt_of_block p1; have a0 : w3.cell? ⟨w.heap.size, 0, none⟩ = some (.int .i64 3) := p1.at_ 0; have a2 : w3.cell? ⟨w.heap.size, 2, none⟩ = some (.string s) := p1.at_ 2; have own0 := Own.nil w3 w3.heap.size; have bel0 := Below.refl w3.heap.size w3; clear hr hb3) | (at_builtin; refine app_byt w3 rfl _ _ rfl _ [] rfl (own0.alloc _) (bel0.alloc bel0.size _) (some ⟨w3.heap.size, 0, none⟩) 1 1 [39] rfl rfl (byt_one w3 39 _ rfl) (by simp) (by simp) ?_; intro v4 w4 hown4 hbel4 _))
  go_loopw [5, 6] (fun v i wr => ∃ k : Nat, k ≤ s.size ∧ i = .int .i64 k ∧ Own wr w3.heap.size v (39 :: esc (s.data.toList.take k)) ∧ Below w3.heap.size w3 wr) (fun _ i _ => s.size - (intOf i).toNat)
  case atStart => exact ⟨0, Nat.zero_le _, rfl, hown4, hbel4⟩
  case round =>
    obtain ⟨k, hk, rfl, hown, hbr⟩ := hrel
    have hl : (esc (s.data.toList.take k)).length ≤ 2 * k := by
      have := esc_len (s.data.toList.take k)
      have h2 : (s.data.toList.take k).length ≤ k := List.length_take_le _ _
      omega
    have pr := p1.below hbr hlt3
    have r2 : wr.cell? ⟨w.heap.size, 2, none⟩ = some (.string s) := pr.at_ 2
    have hltr := lt_of_block pr
    by_cases hlt : k < s.size
    · have hts := take_snoc s k hlt
      have HBR := Lib.hid hbr
      by_cases hq : s[k] = 39
      · have t : ((s[k].toNat : Int) == 39) = true := by rw [hq]; rfl
        have HE : Hid ((39 :: esc (s.data.toList.take k)) ++ [s[k]] ++ [39] = 39 :: esc (s.data.toList.take (k + 1))) := by
          show _ = _
          rw [hts, esc_app, hq]
          simp [esc]
        have hT1 : True := trivial
        clear hts hq hbr
        go_wp2_with (first | (at_builtin; have tok := hT1; refine app_byt w3 rfl _ _ rfl _ (39 :: esc (s.data.toList.take k)) rfl (hown.alloc _) (HBR.out.alloc HBR.out.size _) (some ⟨wr.heap.size, 0, none⟩) 1 1 [s[k]] rfl rfl (byt_one wr s[k] _ rfl) (by simp) (by simp; omega) ?_; intro v5 w5 hown5 hbel5 _; clear tok hT1; have p5 := p1.below hbel5 hlt3; have s2 : w5.cell? ⟨w.heap.size, 2, none⟩ = some (.string s) := p5.at_ 2; have hT2 : True := trivial) | (at_builtin; have tok := hT2; refine app_byt w3 rfl _ _ rfl _ ((39 :: esc (s.data.toList.take k)) ++ [s[k]]) rfl (hown5.alloc _) (hbel5.alloc hbel5.size _) (some ⟨w5.heap.size, 0, none⟩) 1 1 [39] rfl rfl (byt_one w5 39 _ rfl) (by simp) (by simp; omega) ?_; intro v6 w6 hown6 hbel6 _; clear tok hT2))
        go_roundw
        case rel => exact ⟨k + 1, by omega, by go_num, by rw [← HE.out]; exact hown6, hbel6⟩
        case measure => simp [intOf]; omega
      · have t : ((s[k].toNat : Int) == 39) = false := by
          rw [beq_eq_false_iff_ne]
          intro e
          exact hq (UInt8.toNat_inj.1 (by have : (39 : UInt8).toNat = 39 := rfl; omega))
        have HE : Hid ((39 :: esc (s.data.toList.take k)) ++ [s[k]] = 39 :: esc (s.data.toList.take (k + 1))) := by
          show _ = _
          rw [hts, esc_app]
          simp [esc, hq]
        clear hts hq hbr
        go_wp2_with (at_builtin; refine app_byt w3 rfl _ _ rfl _ (39 :: esc (s.data.toList.take k)) rfl (hown.alloc _) (HBR.out.alloc HBR.out.size _) (some ⟨wr.heap.size, 0, none⟩) 1 1 [s[k]] rfl rfl (byt_one wr s[k] _ rfl) (by simp) (by simp; omega) ?_; intro v5 w5 hown5 hbel5 _; have p5 := p1.below hbel5 hlt3; have s2 : w5.cell? ⟨w.heap.size, 2, none⟩ = some (.string s) := p5.at_ 2)
        go_roundw
        case rel => exact ⟨k + 1, by omega, by go_num, by rw [← HE.out]; exact hown5, hbel5⟩
        case measure => simp [intOf]; omega
    · have hke : k = s.size := by omega
      have hfull : s.data.toList.take k = s.data.toList := by rw [hke]; exact List.take_of_length_le (by simp)
      rw [hfull] at hown hl
      have hle : ¬ (k : Int) < (s.size : Int) := by omega
      have HBR := Lib.hid hbr
      have HF := Lib.hid hfull
      clear hke hfull hbr
      go_wp2_with (at_builtin; refine app_byt w3 rfl _ _ rfl _ (39 :: esc s.data.toList) rfl (hown.alloc _) (HBR.out.alloc HBR.out.size _) (some ⟨wr.heap.size, 0, none⟩) 1 1 [39] rfl rfl (byt_one wr 39 _ rfl) (by simp) (by simp; omega) ?_; intro v5 w5 hown5 hbel5 _; obtain ⟨A5, c5, rfl, hy5, _, _, _⟩ := hown5.form; have q5 := conv_n hy5 c5 ((esc s.data.toList).length + 1 + 1) (by simp))
      go_ret2
      exact ⟨rfl, p3.trans (hbel5.mono p3.size)⟩
end Go.Proofs.YtlflhigphfnhoaaDoor
