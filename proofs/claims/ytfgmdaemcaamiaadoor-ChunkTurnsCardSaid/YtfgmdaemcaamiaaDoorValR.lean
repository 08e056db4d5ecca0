/- value.Right and the document's Right of values (ValB's walks, under names of their own). -/
import Derived.Test.YtfgmdaemcaamiaaDoorOrd
import Derived.Test.YtfgmdaemcaamiaaDoorMem
import Derived.Lib.Hide
import Derived.Outline
namespace Go.Proofs.YtfgmdaemcaamiaaDoor
open Go.RowKit
set_option linter.unusedVariables false

theorem ret_bool {a b : Bool} (h : a = b) : Ending.returned (.bool a) = .returned (.bool b) := by rw [h]
theorem tol_len (s : ByteArray) : s.toList.length = s.size := by rw [ByteArray.toList_eq]; rfl

set_option maxHeartbeats 2000000 in
theorem vright_any (k n : Int) (s : ByteArray) (w : World) (hs : s.size ≤ maxLen) : Calls Tryd.prog 29 #[.agg #[.int .i64 k, .int .i64 n, .string s]] w fun e w' => e = .returned (.bool (rightB k n s.toList)) ∧ Below w.heap.size w w' := by
  have HB : Hid (∀ o, Below w.heap.size w (w.alloc o)) := fun o => (Below.refl _ _).alloc (Nat.le_refl _) _
  have HZ : Hid (s.toList.length = s.size) := tol_len s
  unfold maxLen at hs
  by_cases hk0 : k = 0
  · by_cases n0 : n = 0
    · by_cases s0 : s.toList = []
      · have s1 : s.toList.isEmpty = true := by simp [s0]
        have n1 : (n == 0) = true := by simp [n0]
        have H : Hid (rightB k n s.toList = true) := by show _ = _; simp [rightB, hk0, n0, s0]
        have kt0 : (k == 0) = true := by simp [hk0]
        clear hk0
        try clear n0
        try clear n2
        go_enter Tryd.func29, Tryd.ntmps29
        go_wp2
        go_ret
        exact ⟨ret_bool H.out.symm, HB.out _⟩
      · have s1 : s.toList.isEmpty = false := by simp [s0]
        have n1 : (n == 0) = true := by simp [n0]
        have H : Hid (rightB k n s.toList = false) := by show _ = _; simp [rightB, hk0, n0, s1]
        have kt0 : (k == 0) = true := by simp [hk0]
        clear hk0
        try clear n0
        try clear n2
        go_enter Tryd.func29, Tryd.ntmps29
        go_wp2
        go_ret
        exact ⟨ret_bool H.out.symm, HB.out _⟩
    · have n1 : (n == 0) = false := by simp [n0]
      have H : Hid (rightB k n s.toList = false) := by show _ = _; simp [rightB, hk0, n0]
      have kt0 : (k == 0) = true := by simp [hk0]
      clear hk0
      try clear n0
      try clear n2
      go_enter Tryd.func29, Tryd.ntmps29
      go_wp2
      go_ret
      exact ⟨ret_bool H.out.symm, HB.out _⟩
  by_cases hk1 : k = 1
  · by_cases s0 : s.toList = []
    · have s1 : s.toList.isEmpty = true := by simp [s0]
      have H : Hid (rightB k n s.toList = true) := by show _ = _; simp [rightB, hk1, s0]
      have kt0 : (k == 0) = false := by simp [hk1]
      have kt1 : (k == 1) = true := by simp [hk1]
      clear hk1
      try clear n0
      try clear n2
      go_enter Tryd.func29, Tryd.ntmps29
      go_wp2
      go_ret
      exact ⟨ret_bool H.out.symm, HB.out _⟩
    · have s1 : s.toList.isEmpty = false := by simp [s0]
      have H : Hid (rightB k n s.toList = false) := by show _ = _; simp [rightB, hk1, s1]
      have kt0 : (k == 0) = false := by simp [hk1]
      have kt1 : (k == 1) = true := by simp [hk1]
      clear hk1
      try clear n0
      try clear n2
      go_enter Tryd.func29, Tryd.ntmps29
      go_wp2
      go_ret
      exact ⟨ret_bool H.out.symm, HB.out _⟩
  by_cases hk2 : k = 2
  · by_cases s0 : s.toList = []
    · by_cases n0 : n = 0
      · have s1 : s.toList.isEmpty = true := by simp [s0]
        have n1 : (n == 0) = true := by simp [n0]
        have H : Hid (rightB k n s.toList = true) := by show _ = _; simp [rightB, hk2, n0, s0]
        have kt0 : (k == 0) = false := by simp [hk2]
        have kt1 : (k == 1) = false := by simp [hk2]
        have kt2 : (k == 2) = true := by simp [hk2]
        clear hk2
        try clear n0
        try clear n2
        go_enter Tryd.func29, Tryd.ntmps29
        go_wp2
        go_ret
        exact ⟨ret_bool H.out.symm, HB.out _⟩
      · by_cases n2 : n = 1
        · have s1 : s.toList.isEmpty = true := by simp [s0]
          have n1 : (n == 0) = false := by simp [n0]
          have n3 : (n == 1) = true := by simp [n2]
          have H : Hid (rightB k n s.toList = true) := by show _ = _; simp [rightB, hk2, n2, s0]
          have kt0 : (k == 0) = false := by simp [hk2]
          have kt1 : (k == 1) = false := by simp [hk2]
          have kt2 : (k == 2) = true := by simp [hk2]
          clear hk2
          try clear n0
          try clear n2
          go_enter Tryd.func29, Tryd.ntmps29
          go_wp2
          go_ret
          exact ⟨ret_bool H.out.symm, HB.out _⟩
        · have s1 : s.toList.isEmpty = true := by simp [s0]
          have n1 : (n == 0) = false := by simp [n0]
          have n3 : (n == 1) = false := by simp [n2]
          have H : Hid (rightB k n s.toList = false) := by show _ = _; simp [rightB, hk2, n0, n2]
          have kt0 : (k == 0) = false := by simp [hk2]
          have kt1 : (k == 1) = false := by simp [hk2]
          have kt2 : (k == 2) = true := by simp [hk2]
          clear hk2
          try clear n0
          try clear n2
          go_enter Tryd.func29, Tryd.ntmps29
          go_wp2
          go_ret
          exact ⟨ret_bool H.out.symm, HB.out _⟩
    · by_cases n0 : n = 0
      · have s1 : s.toList.isEmpty = false := by simp [s0]
        have n1 : (n == 0) = true := by simp [n0]
        have H : Hid (rightB k n s.toList = false) := by show _ = _; simp [rightB, hk2, s1]
        have kt0 : (k == 0) = false := by simp [hk2]
        have kt1 : (k == 1) = false := by simp [hk2]
        have kt2 : (k == 2) = true := by simp [hk2]
        clear hk2
        try clear n0
        try clear n2
        go_enter Tryd.func29, Tryd.ntmps29
        go_wp2
        go_ret
        exact ⟨ret_bool H.out.symm, HB.out _⟩
      · by_cases n2 : n = 1
        · have s1 : s.toList.isEmpty = false := by simp [s0]
          have n1 : (n == 0) = false := by simp [n0]
          have n3 : (n == 1) = true := by simp [n2]
          have H : Hid (rightB k n s.toList = false) := by show _ = _; simp [rightB, hk2, s1]
          have kt0 : (k == 0) = false := by simp [hk2]
          have kt1 : (k == 1) = false := by simp [hk2]
          have kt2 : (k == 2) = true := by simp [hk2]
          clear hk2
          try clear n0
          try clear n2
          go_enter Tryd.func29, Tryd.ntmps29
          go_wp2
          go_ret
          exact ⟨ret_bool H.out.symm, HB.out _⟩
        · have s1 : s.toList.isEmpty = false := by simp [s0]
          have n1 : (n == 0) = false := by simp [n0]
          have n3 : (n == 1) = false := by simp [n2]
          have H : Hid (rightB k n s.toList = false) := by show _ = _; simp [rightB, hk2, s1]
          have kt0 : (k == 0) = false := by simp [hk2]
          have kt1 : (k == 1) = false := by simp [hk2]
          have kt2 : (k == 2) = true := by simp [hk2]
          clear hk2
          try clear n0
          try clear n2
          go_enter Tryd.func29, Tryd.ntmps29
          go_wp2
          go_ret
          exact ⟨ret_bool H.out.symm, HB.out _⟩
  by_cases hk3 : k = 3
  · by_cases n0 : n = 0
    · by_cases l0 : s.size ≤ 1024
      · have n1 : (n == 0) = true := by simp [n0]
        have l1 : (s.size : Int) ≤ 1024 := by omega
        have H : Hid (rightB k n s.toList = true) := by show _ = _; simp [rightB, hk3, n0, HZ.out, l0]
        have kt0 : (k == 0) = false := by simp [hk3]
        have kt1 : (k == 1) = false := by simp [hk3]
        have kt2 : (k == 2) = false := by simp [hk3]
        have kt3 : (k == 3) = true := by simp [hk3]
        clear hk3
        try clear n0
        try clear n2
        go_enter Tryd.func29, Tryd.ntmps29
        go_wp2
        go_ret
        exact ⟨ret_bool H.out.symm, HB.out _⟩
      · have n1 : (n == 0) = true := by simp [n0]
        have l1 : ¬ (s.size : Int) ≤ 1024 := by omega
        have H : Hid (rightB k n s.toList = false) := by show _ = _; simp [rightB, hk3, n0, HZ.out]; omega
        have kt0 : (k == 0) = false := by simp [hk3]
        have kt1 : (k == 1) = false := by simp [hk3]
        have kt2 : (k == 2) = false := by simp [hk3]
        have kt3 : (k == 3) = true := by simp [hk3]
        clear hk3
        try clear n0
        try clear n2
        go_enter Tryd.func29, Tryd.ntmps29
        go_wp2
        go_ret
        exact ⟨ret_bool H.out.symm, HB.out _⟩
    · have n1 : (n == 0) = false := by simp [n0]
      have H : Hid (rightB k n s.toList = false) := by show _ = _; simp [rightB, hk3, n0]
      have kt0 : (k == 0) = false := by simp [hk3]
      have kt1 : (k == 1) = false := by simp [hk3]
      have kt2 : (k == 2) = false := by simp [hk3]
      have kt3 : (k == 3) = true := by simp [hk3]
      clear hk3
      try clear n0
      try clear n2
      go_enter Tryd.func29, Tryd.ntmps29
      go_wp2
      go_ret
      exact ⟨ret_bool H.out.symm, HB.out _⟩
  have H : Hid (rightB k n s.toList = false) := by show _ = _; simp [rightB, hk0, hk1, hk2, hk3]
  have kt0 : (k == 0) = false := by simp [hk0]
  have kt1 : (k == 1) = false := by simp [hk1]
  have kt2 : (k == 2) = false := by simp [hk2]
  have kt3 : (k == 3) = false := by simp [hk3]
  clear hk0 hk1 hk2 hk3
  try clear n0
  try clear n2
  go_enter Tryd.func29, Tryd.ntmps29
  go_wp2
  go_ret
  exact ⟨ret_bool H.out.symm, HB.out _⟩

set_option maxHeartbeats 2000000 in
theorem vrefright_any (k n : Int) (s : ByteArray) (w : World) (hs : s.size ≤ maxLen) : Calls Tryd.prog 32 #[.agg #[.int .i64 k, .int .i64 n, .string s]] w fun e w' => e = .returned (.bool (rightB k n s.toList)) ∧ Below w.heap.size w w' := by
  have HB : Hid (∀ o, Below w.heap.size w (w.alloc o)) := fun o => (Below.refl _ _).alloc (Nat.le_refl _) _
  have HZ : Hid (s.toList.length = s.size) := tol_len s
  unfold maxLen at hs
  by_cases hk0 : k = 0
  · by_cases n0 : n = 0
    · by_cases s0 : s.toList = []
      · have s1 : s.toList.isEmpty = true := by simp [s0]
        have n1 : (n == 0) = true := by simp [n0]
        have H : Hid (rightB k n s.toList = true) := by show _ = _; simp [rightB, hk0, n0, s0]
        have kt0 : (k == 0) = true := by simp [hk0]
        clear hk0
        try clear n0
        try clear n2
        go_enter Tryd.func32, Tryd.ntmps32
        go_wp2
        go_ret
        exact ⟨ret_bool H.out.symm, HB.out _⟩
      · have s1 : s.toList.isEmpty = false := by simp [s0]
        have n1 : (n == 0) = true := by simp [n0]
        have H : Hid (rightB k n s.toList = false) := by show _ = _; simp [rightB, hk0, n0, s1]
        have kt0 : (k == 0) = true := by simp [hk0]
        clear hk0
        try clear n0
        try clear n2
        go_enter Tryd.func32, Tryd.ntmps32
        go_wp2
        go_ret
        exact ⟨ret_bool H.out.symm, HB.out _⟩
    · have n1 : (n == 0) = false := by simp [n0]
      have H : Hid (rightB k n s.toList = false) := by show _ = _; simp [rightB, hk0, n0]
      have kt0 : (k == 0) = true := by simp [hk0]
      clear hk0
      try clear n0
      try clear n2
      go_enter Tryd.func32, Tryd.ntmps32
      go_wp2
      go_ret
      exact ⟨ret_bool H.out.symm, HB.out _⟩
  by_cases hk1 : k = 1
  · by_cases s0 : s.toList = []
    · have s1 : s.toList.isEmpty = true := by simp [s0]
      have H : Hid (rightB k n s.toList = true) := by show _ = _; simp [rightB, hk1, s0]
      have kt0 : (k == 0) = false := by simp [hk1]
      have kt1 : (k == 1) = true := by simp [hk1]
      clear hk1
      try clear n0
      try clear n2
      go_enter Tryd.func32, Tryd.ntmps32
      go_wp2
      go_ret
      exact ⟨ret_bool H.out.symm, HB.out _⟩
    · have s1 : s.toList.isEmpty = false := by simp [s0]
      have H : Hid (rightB k n s.toList = false) := by show _ = _; simp [rightB, hk1, s1]
      have kt0 : (k == 0) = false := by simp [hk1]
      have kt1 : (k == 1) = true := by simp [hk1]
      clear hk1
      try clear n0
      try clear n2
      go_enter Tryd.func32, Tryd.ntmps32
      go_wp2
      go_ret
      exact ⟨ret_bool H.out.symm, HB.out _⟩
  by_cases hk2 : k = 2
  · by_cases s0 : s.toList = []
    · by_cases n0 : n = 0
      · have s1 : s.toList.isEmpty = true := by simp [s0]
        have n1 : (n == 0) = true := by simp [n0]
        have H : Hid (rightB k n s.toList = true) := by show _ = _; simp [rightB, hk2, n0, s0]
        have kt0 : (k == 0) = false := by simp [hk2]
        have kt1 : (k == 1) = false := by simp [hk2]
        have kt2 : (k == 2) = true := by simp [hk2]
        clear hk2
        try clear n0
        try clear n2
        go_enter Tryd.func32, Tryd.ntmps32
        go_wp2
        go_ret
        exact ⟨ret_bool H.out.symm, HB.out _⟩
      · by_cases n2 : n = 1
        · have s1 : s.toList.isEmpty = true := by simp [s0]
          have n1 : (n == 0) = false := by simp [n0]
          have n3 : (n == 1) = true := by simp [n2]
          have H : Hid (rightB k n s.toList = true) := by show _ = _; simp [rightB, hk2, n2, s0]
          have kt0 : (k == 0) = false := by simp [hk2]
          have kt1 : (k == 1) = false := by simp [hk2]
          have kt2 : (k == 2) = true := by simp [hk2]
          clear hk2
          try clear n0
          try clear n2
          go_enter Tryd.func32, Tryd.ntmps32
          go_wp2
          go_ret
          exact ⟨ret_bool H.out.symm, HB.out _⟩
        · have s1 : s.toList.isEmpty = true := by simp [s0]
          have n1 : (n == 0) = false := by simp [n0]
          have n3 : (n == 1) = false := by simp [n2]
          have H : Hid (rightB k n s.toList = false) := by show _ = _; simp [rightB, hk2, n0, n2]
          have kt0 : (k == 0) = false := by simp [hk2]
          have kt1 : (k == 1) = false := by simp [hk2]
          have kt2 : (k == 2) = true := by simp [hk2]
          clear hk2
          try clear n0
          try clear n2
          go_enter Tryd.func32, Tryd.ntmps32
          go_wp2
          go_ret
          exact ⟨ret_bool H.out.symm, HB.out _⟩
    · by_cases n0 : n = 0
      · have s1 : s.toList.isEmpty = false := by simp [s0]
        have n1 : (n == 0) = true := by simp [n0]
        have H : Hid (rightB k n s.toList = false) := by show _ = _; simp [rightB, hk2, s1]
        have kt0 : (k == 0) = false := by simp [hk2]
        have kt1 : (k == 1) = false := by simp [hk2]
        have kt2 : (k == 2) = true := by simp [hk2]
        clear hk2
        try clear n0
        try clear n2
        go_enter Tryd.func32, Tryd.ntmps32
        go_wp2
        go_ret
        exact ⟨ret_bool H.out.symm, HB.out _⟩
      · by_cases n2 : n = 1
        · have s1 : s.toList.isEmpty = false := by simp [s0]
          have n1 : (n == 0) = false := by simp [n0]
          have n3 : (n == 1) = true := by simp [n2]
          have H : Hid (rightB k n s.toList = false) := by show _ = _; simp [rightB, hk2, s1]
          have kt0 : (k == 0) = false := by simp [hk2]
          have kt1 : (k == 1) = false := by simp [hk2]
          have kt2 : (k == 2) = true := by simp [hk2]
          clear hk2
          try clear n0
          try clear n2
          go_enter Tryd.func32, Tryd.ntmps32
          go_wp2
          go_ret
          exact ⟨ret_bool H.out.symm, HB.out _⟩
        · have s1 : s.toList.isEmpty = false := by simp [s0]
          have n1 : (n == 0) = false := by simp [n0]
          have n3 : (n == 1) = false := by simp [n2]
          have H : Hid (rightB k n s.toList = false) := by show _ = _; simp [rightB, hk2, s1]
          have kt0 : (k == 0) = false := by simp [hk2]
          have kt1 : (k == 1) = false := by simp [hk2]
          have kt2 : (k == 2) = true := by simp [hk2]
          clear hk2
          try clear n0
          try clear n2
          go_enter Tryd.func32, Tryd.ntmps32
          go_wp2
          go_ret
          exact ⟨ret_bool H.out.symm, HB.out _⟩
  by_cases hk3 : k = 3
  · by_cases n0 : n = 0
    · by_cases l0 : s.size ≤ 1024
      · have n1 : (n == 0) = true := by simp [n0]
        have l1 : (s.size : Int) ≤ 1024 := by omega
        have H : Hid (rightB k n s.toList = true) := by show _ = _; simp [rightB, hk3, n0, HZ.out, l0]
        have kt0 : (k == 0) = false := by simp [hk3]
        have kt1 : (k == 1) = false := by simp [hk3]
        have kt2 : (k == 2) = false := by simp [hk3]
        have kt3 : (k == 3) = true := by simp [hk3]
        clear hk3
        try clear n0
        try clear n2
        go_enter Tryd.func32, Tryd.ntmps32
        go_wp2
        go_ret
        exact ⟨ret_bool H.out.symm, HB.out _⟩
      · have n1 : (n == 0) = true := by simp [n0]
        have l1 : ¬ (s.size : Int) ≤ 1024 := by omega
        have H : Hid (rightB k n s.toList = false) := by show _ = _; simp [rightB, hk3, n0, HZ.out]; omega
        have kt0 : (k == 0) = false := by simp [hk3]
        have kt1 : (k == 1) = false := by simp [hk3]
        have kt2 : (k == 2) = false := by simp [hk3]
        have kt3 : (k == 3) = true := by simp [hk3]
        clear hk3
        try clear n0
        try clear n2
        go_enter Tryd.func32, Tryd.ntmps32
        go_wp2
        go_ret
        exact ⟨ret_bool H.out.symm, HB.out _⟩
    · have n1 : (n == 0) = false := by simp [n0]
      have H : Hid (rightB k n s.toList = false) := by show _ = _; simp [rightB, hk3, n0]
      have kt0 : (k == 0) = false := by simp [hk3]
      have kt1 : (k == 1) = false := by simp [hk3]
      have kt2 : (k == 2) = false := by simp [hk3]
      have kt3 : (k == 3) = true := by simp [hk3]
      clear hk3
      try clear n0
      try clear n2
      go_enter Tryd.func32, Tryd.ntmps32
      go_wp2
      go_ret
      exact ⟨ret_bool H.out.symm, HB.out _⟩
  have H : Hid (rightB k n s.toList = false) := by show _ = _; simp [rightB, hk0, hk1, hk2, hk3]
  have kt0 : (k == 0) = false := by simp [hk0]
  have kt1 : (k == 1) = false := by simp [hk1]
  have kt2 : (k == 2) = false := by simp [hk2]
  have kt3 : (k == 3) = false := by simp [hk3]
  clear hk0 hk1 hk2 hk3
  try clear n0
  try clear n2
  go_enter Tryd.func32, Tryd.ntmps32
  go_wp2
  go_ret
  exact ⟨ret_bool H.out.symm, HB.out _⟩

end Go.Proofs.YtfgmdaemcaamiaaDoor
