/- Where a column stands: the document's Find and Right, and the program's Find. -/
import Derived.Test.YtabnjiepmhblaaaScB
import Derived.Test.YtabnjiepmhblaaaScD
namespace Go.Proofs.Ytabnjiepmhblaaa
open Go.RowKit
set_option linter.unusedVariables false

theorem findC_spec (l : List Col) (s : List UInt8) : (∃ k, ∃ h : k < l.length, l[k].name.data.toList = s ∧ (∀ j (hj : j < l.length), j < k → l[j].name.data.toList ≠ s) ∧ findC l s = (k : Int)) ∨ ((∀ j (hj : j < l.length), l[j].name.data.toList ≠ s) ∧ findC l s = -1) := by
  unfold findC
  cases h : l.findIdx? (fun c => decide (c.name.data.toList = s)) with
  | some k =>
    left
    rw [List.findIdx?_eq_some_iff_getElem] at h
    obtain ⟨hk, h1, h2⟩ := h
    refine ⟨k, hk, of_decide_eq_true h1, fun j hj hjk => ?_, rfl⟩
    have := h2 j hjk
    simpa using this
  | none =>
    right
    rw [List.findIdx?_eq_none_iff] at h
    refine ⟨fun j hj => ?_, rfl⟩
    have := h l[j] (List.getElem_mem hj)
    simpa using this
theorem findC_at {l : List Col} {s : List UInt8} {k : Nat} (hk : k < l.length) (h1 : l[k].name.data.toList = s) (h2 : ∀ j (hj : j < l.length), j < k → l[j].name.data.toList ≠ s) : findC l s = (k : Int) := by
  rcases findC_spec l s with ⟨m, hm, g1, g2, g3⟩ | ⟨g1, _⟩
  · have : m = k := by
      rcases Nat.lt_trichotomy m k with h | h | h
      · exact absurd g1 (h2 m hm h)
      · exact h
      · exact absurd h1 (g2 k hk h)
    rw [g3, this]
  · exact absurd h1 (g1 k hk)
theorem findC_no {l : List Col} {s : List UInt8} (h : ∀ j (hj : j < l.length), l[j].name.data.toList ≠ s) : findC l s = -1 := by
  rcases findC_spec l s with ⟨m, hm, g1, g2, g3⟩ | ⟨_, g2⟩
  · exact absurd g1 (h m hm)
  · exact g2
theorem nodup_find (l : List Col) : (namesL l).Nodup ↔ ∀ i (h : i < l.length), findC l l[i].name.data.toList = (i : Int) := by
  unfold namesL
  rw [List.nodup_iff_pairwise_ne, List.pairwise_iff_getElem]
  constructor
  · intro h i hi
    refine findC_at hi rfl fun j hj hji => ?_
    have := h j i (by simpa using hj) (by simpa using hi) hji
    simpa using this
  · intro h i j hi hj hij
    simp only [List.length_map] at hi hj
    simp only [List.getElem_map]
    intro e
    have h1 := h j hj
    rcases findC_spec l l[j].name.data.toList with ⟨m, hm, g1, g2, g3⟩ | ⟨g1, _⟩
    · rw [h1] at g3
      have : m = j := by omega
      subst this
      exact g2 i hi hij e
    · exact g1 i hi e
theorem beq_names (a b : ByteArray) : (a.toList == b.toList) = decide (a.data.toList = b.data.toList) := by
  rw [ByteArray.toList_eq, ByteArray.toList_eq]
  by_cases h : a.data.toList = b.data.toList
  · simp [h]
  · rw [decide_eq_false h, beq_eq_false_iff_ne]; exact h

set_option maxHeartbeats 2000000 in
theorem reffind_any (A : Option Addr) (cap : Nat) (l : List Col) (s : ByteArray) (W : World) (hl : Cols W A l) (hn : l.length ≤ 4000000000000000000) :
    Calls Try.prog 14 #[.slice A l.length cap, .string s] W fun e W' => e = .returned (.int .i64 (findC l s.data.toList)) ∧ W = W' := by
  have HL := Lib.hid hl
  obtain ⟨r, hr⟩ : ∃ r, findC l s.data.toList = r := ⟨_, rfl⟩
  rw [hr]
  have HR := Lib.hid hr
  clear hl hr
  go_enter Try.func14, Try.ntmps14
  go_wp2
  go_loopw [5] (fun i wr => ∃ k : Nat, k ≤ l.length ∧ i = .int .i64 k ∧ (∀ j (hj : j < l.length), j < k → l[j].name.data.toList ≠ s.data.toList) ∧ wr = W) (fun i _ => l.length - (intOf i).toNat)
  case atStart => exact ⟨0, by omega, rfl, fun j _ h => by omega, rfl⟩
  case round =>
    obtain ⟨k, hk, rfl, hall, rfl⟩ := hrel
    have HALL := Lib.hid hall
    clear hall
    by_cases hlt : k < l.length
    · obtain ⟨b, o, rfl, c0, _, _⟩ := HL.out k hlt
      have HK : Hid (k < l.length) := hlt
      have hbq := beq_names l[k].name s
      have HHIT : Hid (l[k].name.data.toList = s.data.toList → r = (k : Int)) := fun h => by rw [← HR.out]; exact findC_at hlt h HALL.out
      have HNX : Hid (l[k].name.data.toList ≠ s.data.toList → ∀ j (hj : j < l.length), j < k + 1 → l[j].name.data.toList ≠ s.data.toList) := fun h j hj hjk => by
        by_cases e : j = k
        · subst e; exact h
        · exact HALL.out j hj (by omega)
      generalize l[k].name = nm at c0 hbq HHIT HNX
      by_cases he : nm.data.toList = s.data.toList
      · rw [decide_eq_true he] at hbq
        have HN := Lib.hid (HHIT.out he)
        clear he
        go_wp2
        go_ret
        exact ⟨congrArg (fun r => Ending.returned (Value.int .i64 r)) HN.out.symm, rfl⟩
      · rw [decide_eq_false he] at hbq
        have HN := Lib.hid (HNX.out he)
        clear he
        go_wp2
        go_roundw
        case rel => exact ⟨k + 1, HK.out, by go_num, HN.out, by first | rfl | trivial⟩
        case measure => have := HK.out; simp [intOf]; omega
    · obtain rfl : k = l.length := by omega
      have HN : Hid (r = -1) := by show r = -1; rw [← HR.out]; exact findC_no fun j hj => HALL.out j hj hj
      go_wp2
      go_ret
      exact ⟨congrArg (fun r => Ending.returned (Value.int .i64 r)) HN.out.symm, rfl⟩

end Go.Proofs.Ytabnjiepmhblaaa
