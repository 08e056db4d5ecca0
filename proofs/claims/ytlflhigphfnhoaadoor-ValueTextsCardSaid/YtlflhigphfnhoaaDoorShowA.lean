/- value.Show (18) at every value. -/
import Derived.Test.YtlflhigphfnhoaaDoorPar3
import Derived.Lib.ItoaLen
namespace Go.Proofs.YtlflhigphfnhoaaDoor
open Go.RowKit
set_option linter.unusedVariables false

set_option maxHeartbeats 1000000 in
set_option maxRecDepth 100000 in
theorem show_null (w : World) : Calls Tryd.prog 18 #[.agg #[.int .i64 0, .int .i64 0, .string ⟨#[]⟩]] w fun e w' => e = .returned (.tuple #[.string ⟨#[110, 117, 108, 108]⟩, .int .i64 0]) ∧ Below w.heap.size w w' := by
  have hr := fun w => right_any 0 0 ⟨#[]⟩ w (by unfold maxLen; decide)
  have e : rightB 0 0 (ByteArray.toList ⟨#[]⟩) = true := by rw [ByteArray.toList_eq]; rfl
  rw [e] at hr
  clear e
  go_enter Tryd.func18, Tryd.ntmps18
  go_wp2_with (go_at_call 11; refine (hr _).mono ?_; rintro e w3 ⟨rfl, hb3⟩; obtain ⟨p1, p3⟩ := one_kept [.int .i64 0, .int .i64 0, .string ⟨#[]⟩] hb3; have a0 : w3.cell? ⟨w.heap.size, 0, none⟩ = some (.int .i64 0) := p1.at_ 0; have a1 : w3.cell? ⟨w.heap.size, 1, none⟩ = some (.int .i64 0) := p1.at_ 1; clear hr p1 hb3)
  go_ret2
  exact ⟨rfl, p3⟩
set_option maxHeartbeats 1000000 in
set_option maxRecDepth 100000 in
theorem show_bool0 (w : World) : Calls Tryd.prog 18 #[.agg #[.int .i64 2, .int .i64 0, .string ⟨#[]⟩]] w fun e w' => e = .returned (.tuple #[.string ⟨#[102, 97, 108, 115, 101]⟩, .int .i64 0]) ∧ Below w.heap.size w w' := by
  have hr := fun w => right_any 2 0 ⟨#[]⟩ w (by unfold maxLen; decide)
  have e : rightB 2 0 (ByteArray.toList ⟨#[]⟩) = true := by rw [ByteArray.toList_eq]; rfl
  rw [e] at hr
  clear e
  go_enter Tryd.func18, Tryd.ntmps18
  go_wp2_with (go_at_call 11; refine (hr _).mono ?_; rintro e w3 ⟨rfl, hb3⟩; obtain ⟨p1, p3⟩ := one_kept [.int .i64 2, .int .i64 0, .string ⟨#[]⟩] hb3; have a0 : w3.cell? ⟨w.heap.size, 0, none⟩ = some (.int .i64 2) := p1.at_ 0; have a1 : w3.cell? ⟨w.heap.size, 1, none⟩ = some (.int .i64 0) := p1.at_ 1; clear hr p1 hb3)
  go_ret2
  exact ⟨rfl, p3⟩
set_option maxHeartbeats 1000000 in
set_option maxRecDepth 100000 in
theorem show_bool1 (w : World) : Calls Tryd.prog 18 #[.agg #[.int .i64 2, .int .i64 1, .string ⟨#[]⟩]] w fun e w' => e = .returned (.tuple #[.string ⟨#[116, 114, 117, 101]⟩, .int .i64 0]) ∧ Below w.heap.size w w' := by
  have hr := fun w => right_any 2 1 ⟨#[]⟩ w (by unfold maxLen; decide)
  have e : rightB 2 1 (ByteArray.toList ⟨#[]⟩) = true := by rw [ByteArray.toList_eq]; rfl
  rw [e] at hr
  clear e
  go_enter Tryd.func18, Tryd.ntmps18
  go_wp2_with (go_at_call 11; refine (hr _).mono ?_; rintro e w3 ⟨rfl, hb3⟩; obtain ⟨p1, p3⟩ := one_kept [.int .i64 2, .int .i64 1, .string ⟨#[]⟩] hb3; have a0 : w3.cell? ⟨w.heap.size, 0, none⟩ = some (.int .i64 2) := p1.at_ 0; have a1 : w3.cell? ⟨w.heap.size, 1, none⟩ = some (.int .i64 1) := p1.at_ 1; clear hr p1 hb3)
  go_ret2
  exact ⟨rfl, p3⟩
set_option maxHeartbeats 1000000 in
set_option maxRecDepth 100000 in
theorem show_no (k n : Int) (s : ByteArray) (w : World) (hs : s.size ≤ maxLen) (hr0 : rightB k n s.toList = false) : Calls Tryd.prog 18 #[.agg #[.int .i64 k, .int .i64 n, .string s]] w fun e w' => e = .returned (.tuple #[.string ⟨#[]⟩, .int .i64 2]) ∧ Below w.heap.size w w' := by
  have hr := fun w => right_any k n s w hs
  rw [hr0] at hr
  clear hr0
  go_enter Tryd.func18, Tryd.ntmps18
  go_wp2_with (go_at_call 11; refine (hr _).mono ?_; rintro e w3 ⟨rfl, hb3⟩; obtain ⟨p1, p3⟩ := one_kept [.int .i64 k, .int .i64 n, .string s] hb3)
  go_ret2
  exact ⟨rfl, p3⟩
theorem show_yes (k n : Int) (s : ByteArray) (w : World) (hp : Pow w) (h0 : -9223372036854775808 ≤ n) (h1 : n ≤ 9223372036854775807) (hr : rightB k n s.toList = true) : Calls Tryd.prog 18 #[.agg #[.int .i64 k, .int .i64 n, .string s]] w fun e w' => e = .returned (.tuple #[.string (txtOf k n s), .int .i64 0]) ∧ Below w.heap.size w w' := by
  obtain ⟨r1, r2, r3, r4⟩ := right_text hr
  have hs : k ≠ 3 → s = ⟨#[]⟩ := fun h => tol_inj (by rw [r2 h, ByteArray.toList_eq])
  have hk : k = 0 ∨ k = 1 ∨ k = 2 ∨ k = 3 := by omega
  rcases hk with rfl | rfl | rfl | rfl
  · obtain rfl := hs (by decide)
    obtain rfl : n = 0 := by simpa [rightB, r2] using hr
    exact show_null w
  · obtain rfl := hs (by decide)
    exact show_int n w hp h0 h1
  · obtain rfl := hs (by decide)
    have hn : n = 0 ∨ n = 1 := by simpa [rightB, r2] using hr
    rcases hn with rfl | rfl
    · exact show_bool0 w
    · exact show_bool1 w
  · obtain rfl := r1 rfl
    have hsz : s.size ≤ 1024 := by
      have : s.toList.length ≤ 1024 := by simpa [rightB] using hr
      rwa [tol_len] at this
    exact show_text s w hsz
theorem txt_size {k n : Int} {s : ByteArray} (h0 : -9223372036854775808 ≤ n) (h1 : n ≤ 9223372036854775807) (hr : rightB k n s.toList = true) : (txtOf k n s).size ≤ 140737488351232 := by
  obtain ⟨r1, r2, r3, r4⟩ := right_text hr
  unfold txtOf
  split
  · decide
  · split
    · show (Lib.itoa n).toArray.size ≤ _
      have := Lib.itoa_length_le n h0 h1
      simp
      omega
    · split
      · split <;> decide
      · have hk : k = 3 := by omega
        subst hk
        have h3 : s.toList.length ≤ 1024 := by
          have : n = 0 ∧ s.toList.length ≤ 1024 := by simpa [rightB] using hr
          exact this.2
        have := esc_len s.data.toList
        rw [ByteArray.toList_eq] at h3
        show (quoteL s.data.toList).toArray.size ≤ _
        unfold quoteL
        simp at h3 this ⊢
        omega
end Go.Proofs.YtlflhigphfnhoaaDoor
