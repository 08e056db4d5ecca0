/- The document's Right over a schema; the head of the statements. -/
import Derived.Test.YtabnjiepmhblaaaScI
import Derived.Test.YtabnjiepmhblaaaScB
import Derived.Test.YtabnjiepmhblaaaScF0
namespace Go.Proofs.Ytabnjiepmhblaaa
open Go.RowKit Go.Shelf Go.Maps
set_option linter.unusedVariables false

theorem rightC_bad {l : List Col} {k : Nat} (hk : k < l.length) (h : nameL l[k].name.data.toList = false ∨ findC l l[k].name.data.toList ≠ (k : Int) ∨ l[k].kind < 1 ∨ 3 < l[k].kind) : rightC l = false := by
  rw [Bool.eq_false_iff]
  intro hr
  have hok := cols_ok hr l[k] (List.getElem_mem hk)
  unfold colOk kindOk at hok
  rw [Bool.and_eq_true, decide_eq_true_iff] at hok
  have hnd : (namesL l).Nodup := by
    unfold rightC at hr
    simp only [Bool.and_eq_true, decide_eq_true_iff] at hr
    exact hr.2.2
  rcases h with h | h | h | h
  · rw [h] at hok; cases hok.1
  · exact h ((nodup_find l).1 hnd k hk)
  · omega
  · omega
theorem rightC_good {l : List Col} (h1 : 1 ≤ l.length ∧ l.length ≤ 16) (h : ∀ k (hk : k < l.length), nameL l[k].name.data.toList = true ∧ findC l l[k].name.data.toList = (k : Int) ∧ 1 ≤ l[k].kind ∧ l[k].kind ≤ 3) : rightC l = true := by
  unfold rightC
  rw [Bool.and_eq_true, decide_eq_true_iff, Bool.and_eq_true, decide_eq_true_iff, List.all_eq_true]
  refine ⟨h1, fun c hc => ?_, (nodup_find l).2 fun i hi => (h i hi).2.1⟩
  obtain ⟨i, hi, rfl⟩ := List.getElem_of_mem hc
  unfold colOk kindOk
  rw [Bool.and_eq_true, decide_eq_true_iff]
  exact ⟨(h i hi).1, (h i hi).2.2⟩

set_option maxHeartbeats 2000000 in
/-- The document's Right. -/
theorem refrightC_any (A : Option Addr) (cap : Nat) (l : List Col) (W : World) (hl : Cols W A l) (hn : l.length ≤ 4000000000000000000) :
    Calls Try.prog 10 #[.slice A l.length cap] W fun e W' => e = .returned (.bool (rightC l)) ∧ W = W' := by
  by_cases hlen : 1 ≤ l.length ∧ l.length ≤ 16
  · have HL := Lib.hid hl
    obtain ⟨r, hr⟩ : ∃ r, rightC l = r := ⟨_, rfl⟩
    rw [hr]
    have HR := Lib.hid hr
    have HN := Lib.hid hn
    have HLEN := Lib.hid hlen
    have hl1 : ¬ ((l.length : Int) < 1) := by omega
    have hl2 : ¬ ((16 : Int) < l.length) := by omega
    clear hl hr hn
    go_enter Try.func10, Try.ntmps10
    go_wp2
    go_loopw [3, 4] (fun i v wr => ∃ k : Nat, k ≤ l.length ∧ i = .int .i64 k ∧ (∀ j (hj : j < l.length), j < k → nameL l[j].name.data.toList = true ∧ findC l l[j].name.data.toList = (j : Int) ∧ 1 ≤ l[j].kind ∧ l[j].kind ≤ 3) ∧ wr = W) (fun i _ _ => l.length - (intOf i).toNat)
    case atStart => exact ⟨0, by omega, rfl, fun j _ h => by omega, rfl⟩
    case round =>
      obtain ⟨k, hk, rfl, hall, rfl⟩ := hrel
      have HALL := Lib.hid hall
      clear hall
      by_cases hlt : k < l.length
      · obtain ⟨b, o, rfl, c0, c1, _⟩ := HL.out k hlt
        have HK : Hid (k < l.length) := hlt
        have hI := refisname_any l[k].name wr (by have := l[k].bound; omega)
        have hF := reffind_any (some ⟨b, o, none⟩) cap l l[k].name wr HL.out HN.out
        have HBAD : Hid ((nameL l[k].name.data.toList = false ∨ findC l l[k].name.data.toList ≠ (k : Int) ∨ l[k].kind < 1 ∨ 3 < l[k].kind) → r = false) := fun h => by rw [← HR.out]; exact rightC_bad hlt h
        have HGD : Hid ((nameL l[k].name.data.toList = true ∧ findC l l[k].name.data.toList = (k : Int) ∧ 1 ≤ l[k].kind ∧ l[k].kind ≤ 3) → ∀ j (hj : j < l.length), j < k + 1 → nameL l[j].name.data.toList = true ∧ findC l l[j].name.data.toList = (j : Int) ∧ 1 ≤ l[j].kind ∧ l[j].kind ≤ 3) := fun h j hj hjk => by
          by_cases e : j = k
          · subst e; exact h
          · exact HALL.out j hj (by omega)
        generalize nameL l[k].name.data.toList = bn at hI HBAD HGD
        generalize findC l l[k].name.data.toList = fd at hF HBAD HGD
        generalize l[k].name = nm at c0 hI hF
        generalize l[k].kind = kd at c1 HBAD HGD
        have HI := Lib.hid hI
        have HF := Lib.hid hF
        clear hI hF
        cases bn with
        | false =>
          have HX := Lib.hid (HBAD.out (.inl rfl))
          clear HF
          go_wp2_with (first | (go_at_call 16; refine HI.out.mono ?_; rintro e w1 ⟨rfl, rfl⟩; clear HI))
          go_ret
          exact ⟨congrArg (fun r => Ending.returned (Value.bool r)) HX.out.symm, rfl⟩
        | true =>
          by_cases hf : fd = (k : Int)
          · subst hf
            by_cases h1 : kd < 1
            · have HX := Lib.hid (HBAD.out (.inr (.inr (.inl h1))))
              go_wp2_with (first | (go_at_call 16; refine HI.out.mono ?_; rintro e w1 ⟨rfl, rfl⟩; clear HI) | (go_at_call 14; refine HF.out.mono ?_; rintro e w1 ⟨rfl, rfl⟩; clear HF))
              go_ret
              exact ⟨congrArg (fun r => Ending.returned (Value.bool r)) HX.out.symm, rfl⟩
            · by_cases h3 : 3 < kd
              · have HX := Lib.hid (HBAD.out (.inr (.inr (.inr h3))))
                go_wp2_with (first | (go_at_call 16; refine HI.out.mono ?_; rintro e w1 ⟨rfl, rfl⟩; clear HI) | (go_at_call 14; refine HF.out.mono ?_; rintro e w1 ⟨rfl, rfl⟩; clear HF))
                go_ret
                exact ⟨congrArg (fun r => Ending.returned (Value.bool r)) HX.out.symm, rfl⟩
              · have HX := Lib.hid (HGD.out ⟨rfl, rfl, by omega, by omega⟩)
                go_wp2_with (first | (go_at_call 16; refine HI.out.mono ?_; rintro e w1 ⟨rfl, rfl⟩; clear HI) | (go_at_call 14; refine HF.out.mono ?_; rintro e w1 ⟨rfl, rfl⟩; clear HF))
                go_roundw
                case rel => exact ⟨k + 1, HK.out, by go_num, HX.out, by first | rfl | trivial⟩
                case measure => have := HK.out; simp [intOf]; omega
          · have HX := Lib.hid (HBAD.out (.inr (.inl hf)))
            have hq : (fd == (k : Int)) = false := by rw [beq_eq_false_iff_ne]; exact hf
            go_wp2_with (first | (go_at_call 16; refine HI.out.mono ?_; rintro e w1 ⟨rfl, rfl⟩; clear HI) | (go_at_call 14; refine HF.out.mono ?_; rintro e w1 ⟨rfl, rfl⟩; clear HF))
            go_ret
            exact ⟨congrArg (fun r => Ending.returned (Value.bool r)) HX.out.symm, rfl⟩
      · obtain rfl : k = l.length := by omega
        have HX : Hid (r = true) := by show r = true; rw [← HR.out]; exact rightC_good HLEN.out fun j hj => HALL.out j hj hj
        go_wp2
        go_ret
        exact ⟨congrArg (fun r => Ending.returned (Value.bool r)) HX.out.symm, rfl⟩
  · rw [rightC_len hlen]
    have hcase : (l.length : Int) < 1 ∨ ¬ ((l.length : Int) < 1) ∧ (16 : Int) < l.length := by omega
    clear hl
    generalize l.length = n at hn hcase
    clear hlen
    rcases hcase with h | ⟨h, h2⟩
    · go_enter Try.func10, Try.ntmps10
      go_wp2
      go_ret
      exact ⟨rfl, rfl⟩
    · go_enter Try.func10, Try.ntmps10
      go_wp2
      go_ret
      exact ⟨rfl, rfl⟩
end Go.Proofs.Ytabnjiepmhblaaa
