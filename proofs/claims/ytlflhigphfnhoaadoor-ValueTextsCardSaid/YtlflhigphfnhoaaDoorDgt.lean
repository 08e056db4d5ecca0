/- The walk of the document's Digits (38). -/
import Derived.Test.YtlflhigphfnhoaaDoorPar3
import Derived.Test.YtlflhigphfnhoaaDoorRSh
import Derived.Deep.DeepCutAuto
import Derived.Deep.LoopGhost
namespace Go.Proofs.YtlflhigphfnhoaaDoor
open Go.RowKit
set_option linter.unusedVariables false

/-- How far the digits of U are: those that stand there already, and the number that is still to be laid. -/
def DigAt (U : Nat) (a : List UInt8) (m : Nat) : Prop := m ≤ U ∧ ((a = [] ∧ m = U) ∨ (a ≠ [] ∧ (if m = 0 then a else Lib.decDigits m ++ a) = Lib.decDigits U))
theorem DigAt.step {U m : Nat} {a : List UInt8} (h : DigAt U a m) (hg : a = [] ∨ 0 < m) : DigAt U (UInt8.ofNat (48 + m % 10) :: a) (m / 10) := by
  obtain ⟨hm, h⟩ := h
  refine ⟨by omega, .inr ⟨by simp, ?_⟩⟩
  have key : (if m / 10 = 0 then UInt8.ofNat (48 + m % 10) :: a else Lib.decDigits (m / 10) ++ UInt8.ofNat (48 + m % 10) :: a) = Lib.decDigits m ++ a := by
    by_cases h10 : m < 10
    · rw [if_pos (by omega), dd_one h10, Nat.mod_eq_of_lt h10]; rfl
    · rw [if_neg (by omega), dd_step h10]; simp
  rw [key]
  rcases h with ⟨rfl, rfl⟩ | ⟨h1, h2⟩
  · simp
  · rcases hg with h | h
    · exact absurd h h1
    · rw [if_neg (by omega)] at h2; exact h2
theorem DigAt.done {U m : Nat} {a : List UInt8} (h : DigAt U a m) (h1 : a ≠ []) (h2 : m = 0) : a = Lib.decDigits U := by
  subst h2
  rcases h.2 with ⟨h, _⟩ | ⟨_, h⟩
  · exact absurd h h1
  · rwa [if_pos rfl] at h

theorem DigAt.len {U m : Nat} {a : List UInt8} (h : DigAt U a m) : a.length ≤ (Lib.decDigits U).length := by
  rcases h.2 with ⟨rfl, _⟩ | ⟨_, h⟩
  · simp
  · rw [← h]
    split
    · exact Nat.le_refl _
    · simp
theorem txt_len' (t : ByteArray) : t.data.toList.length = t.size := by rw [Array.length_toList]; rfl
theorem str_cons (c : UInt8) (a : List UInt8) : str [c] ++ (⟨a.toArray⟩ : ByteArray) = ⟨(c :: a).toArray⟩ := by
  apply ba_data
  rw [ByteArray.data_append]
  simp [str]
set_option maxHeartbeats 4000000 in
set_option maxRecDepth 100000 in
theorem digits_neg (n : Int) (w : World) (h0 : -9223372036854775808 ≤ n) (h1 : n ≤ 9223372036854775807) (hn : n < 0) : Calls Tryd.prog 38 #[.int .i64 n] w fun e w' => e = .returned (.string ⟨(Lib.itoa n).toArray⟩) ∧ Below w.heap.size w w' := by
  obtain ⟨U, hU, hUl⟩ : ∃ U : Nat, IntKind.u64.wrap (-(IntKind.u64.wrap n)) = (U : Int) ∧ n = -(U : Int) := ⟨(-n).toNat, by rw [IntKind.wrap_u64, IntKind.wrap_u64]; omega, by omega⟩
  have HI : Hid ((⟨(Lib.itoa n).toArray⟩ : ByteArray) = ⟨(45 :: Lib.decDigits U).toArray⟩) := by show _ = _; rw [hUl, Lib.itoa_neg U (by omega)]
  have HU : Hid (U < 18446744073709551616) := by show _ < _; omega
  have HLEN : Hid ((Lib.decDigits U).length ≤ 21) := by
    show _ ≤ _
    have := Lib.itoa_length_le n h0 h1
    rw [hUl, Lib.itoa_neg U (by omega)] at this
    simp at this
    omega
  clear hUl
  go_enter Tryd.func38, Tryd.ntmps38
  go_wp2
  go_loopg [3, 4] (U + 1) (fun g x y wr => ∃ (sa : ByteArray) (m : Nat), g = m + (if sa.data.toList = [] then 1 else 0) ∧ x = .string sa ∧ y = .int .u64 m ∧ DigAt U sa.data.toList m ∧ Below w.heap.size w wr)
  case atStart => exact ⟨⟨#[]⟩, U, by simp, rfl, rfl, ⟨Nat.le_refl _, .inl ⟨rfl, rfl⟩⟩, Below.refl _ _⟩
  case round =>
    obtain ⟨sa, m, rfl, rfl, rfl, hA, hbr⟩ := hrel
    have HA := Lib.hid hA
    have HBR := Lib.hid hbr
    have hm : m ≤ U := hA.1
    have hal := hA.len
    have hsa : sa.size ≤ 21 := by rw [← txt_len']; have := HLEN.out; omega
    clear hA hbr hal
    by_cases hgo : sa.data.toList = [] ∨ 0 < m
    · obtain ⟨cB, hcB⟩ : ∃ c, c = UInt8.ofNat (48 + m % 10) := ⟨_, rfl⟩
      have HN := HA.out.step hgo
      have hu := HU.out
      have HC : Hid (48 + (m : Int) % 10 = (cB.toNat : Int)) := by
        show _ = _
        rw [hcB, dig_nat _ (by omega)]
        omega
      have HD : Hid (IntKind.u64.wrap ((m : Int) / 10) = ((m / 10 : Nat) : Int)) := by
        show _ = _
        rw [IntKind.wrap_u64]; omega
      rw [← hcB] at HN
      have HX : Hid ((str [cB] ++ sa).data.toList = cB :: sa.data.toList) := by
        show _ = _
        rw [ByteArray.data_append]; simp [str]
      have HN2 := Lib.hid HN
      have hq := conv_n (byt_one wr cB _ HC.out) 1 1 rfl
      have hsc : (str [cB]).size = 1 := rfl
      have HZ : Hid (Below w.heap.size w (wr.alloc (Obj.cells #[Value.int .u8 (48 + (m : Int) % 10)] 5))) := HBR.out.alloc HBR.out.size _
      clear hcB HN
      generalize str [cB] = sc at hq hsc HX
      rcases Nat.eq_zero_or_pos sa.data.toList.length with hz | hz
      · have ha : sa = ⟨#[]⟩ := by rw [ba_data (List.length_eq_zero_iff.1 hz)]
        subst ha
        clear hgo hz
        go_wp2
        go_roundg (m / 10)
        case measure => omega
        case rel => exact ⟨sc ++ ⟨#[]⟩, m / 10, by rw [HX.out]; simp, rfl, by go_num, by rw [HX.out]; exact HN2.out, HZ.out⟩
      · have hgt : (0 : Int) < (m : Int) := by
          rcases hgo with h | h
          · rw [h] at hz; simp at hz
          · omega
        have hE : sa.toList.isEmpty = false := by
          rw [ByteArray.toList_eq]
          cases hx : sa.data.toList with
          | nil => rw [hx] at hz; simp at hz
          | cons => rfl
        have HNe : Hid (sa.data.toList ≠ []) := by intro e; rw [e] at hz; simp at hz
        clear hgo hz
        go_wp2
        go_roundg (m / 10)
        case measure => omega
        case rel => exact ⟨sc ++ sa, m / 10, by rw [HX.out]; simp, rfl, by go_num, by rw [HX.out]; exact HN2.out, HZ.out⟩
    · have hd : sa.data.toList ≠ [] ∧ m = 0 := ⟨fun h => hgo (.inl h), by rcases Nat.eq_zero_or_pos m with h | h; exact h; exact absurd (.inr h) hgo⟩
      have HD := Lib.hid (HA.out.done hd.1 hd.2)
      obtain ⟨h1, h2⟩ := hd
      have hE : sa.toList.isEmpty = false := by
        rw [ByteArray.toList_eq]
        cases hx : sa.data.toList with
        | nil => exact absurd hx h1
        | cons => rfl
      have hsc : ByteArray.size ⟨#[45]⟩ = 1 := rfl
      subst h2
      clear hgo h1
      go_wp2
      go_ret
      refine ⟨?_, HBR.out⟩
      rw [HI.out, ← HD.out]
      exact congrArg (fun x => Ending.returned (Value.string x)) (ba_data (by rw [ByteArray.data_append]; simp))
set_option maxHeartbeats 4000000 in
set_option maxRecDepth 100000 in
theorem digits_pos (n : Int) (w : World) (h0 : -9223372036854775808 ≤ n) (h1 : n ≤ 9223372036854775807) (hn : ¬ n < 0) : Calls Tryd.prog 38 #[.int .i64 n] w fun e w' => e = .returned (.string ⟨(Lib.itoa n).toArray⟩) ∧ Below w.heap.size w w' := by
  obtain ⟨U, hU, hUl⟩ : ∃ U : Nat, IntKind.u64.wrap n = (U : Int) ∧ n = (U : Int) := ⟨n.toNat, by rw [IntKind.wrap_u64]; omega, by omega⟩
  have HI : Hid ((⟨(Lib.itoa n).toArray⟩ : ByteArray) = ⟨(Lib.decDigits U).toArray⟩) := by show _ = _; rw [hUl, Lib.itoa_nonneg U]
  have HU : Hid (U < 18446744073709551616) := by show _ < _; omega
  have HLEN : Hid ((Lib.decDigits U).length ≤ 21) := by
    show _ ≤ _
    have := Lib.itoa_length_le n h0 h1
    rw [hUl, Lib.itoa_nonneg U] at this
    skip
    omega
  clear hUl
  go_enter Tryd.func38, Tryd.ntmps38
  go_wp2
  go_loopg [3, 4] (U + 1) (fun g x y wr => ∃ (sa : ByteArray) (m : Nat), g = m + (if sa.data.toList = [] then 1 else 0) ∧ x = .string sa ∧ y = .int .u64 m ∧ DigAt U sa.data.toList m ∧ Below w.heap.size w wr)
  case atStart => exact ⟨⟨#[]⟩, U, by simp, rfl, rfl, ⟨Nat.le_refl _, .inl ⟨rfl, rfl⟩⟩, Below.refl _ _⟩
  case round =>
    obtain ⟨sa, m, rfl, rfl, rfl, hA, hbr⟩ := hrel
    have HA := Lib.hid hA
    have HBR := Lib.hid hbr
    have hm : m ≤ U := hA.1
    have hal := hA.len
    have hsa : sa.size ≤ 21 := by rw [← txt_len']; have := HLEN.out; omega
    clear hA hbr hal
    by_cases hgo : sa.data.toList = [] ∨ 0 < m
    · obtain ⟨cB, hcB⟩ : ∃ c, c = UInt8.ofNat (48 + m % 10) := ⟨_, rfl⟩
      have HN := HA.out.step hgo
      have hu := HU.out
      have HC : Hid (48 + (m : Int) % 10 = (cB.toNat : Int)) := by
        show _ = _
        rw [hcB, dig_nat _ (by omega)]
        omega
      have HD : Hid (IntKind.u64.wrap ((m : Int) / 10) = ((m / 10 : Nat) : Int)) := by
        show _ = _
        rw [IntKind.wrap_u64]; omega
      rw [← hcB] at HN
      have HX : Hid ((str [cB] ++ sa).data.toList = cB :: sa.data.toList) := by
        show _ = _
        rw [ByteArray.data_append]; simp [str]
      have HN2 := Lib.hid HN
      have hq := conv_n (byt_one wr cB _ HC.out) 1 1 rfl
      have hsc : (str [cB]).size = 1 := rfl
      have HZ : Hid (Below w.heap.size w (wr.alloc (Obj.cells #[Value.int .u8 (48 + (m : Int) % 10)] 5))) := HBR.out.alloc HBR.out.size _
      clear hcB HN
      generalize str [cB] = sc at hq hsc HX
      rcases Nat.eq_zero_or_pos sa.data.toList.length with hz | hz
      · have ha : sa = ⟨#[]⟩ := by rw [ba_data (List.length_eq_zero_iff.1 hz)]
        subst ha
        clear hgo hz
        go_wp2
        go_roundg (m / 10)
        case measure => omega
        case rel => exact ⟨sc ++ ⟨#[]⟩, m / 10, by rw [HX.out]; simp, rfl, by go_num, by rw [HX.out]; exact HN2.out, HZ.out⟩
      · have hgt : (0 : Int) < (m : Int) := by
          rcases hgo with h | h
          · rw [h] at hz; simp at hz
          · omega
        have hE : sa.toList.isEmpty = false := by
          rw [ByteArray.toList_eq]
          cases hx : sa.data.toList with
          | nil => rw [hx] at hz; simp at hz
          | cons => rfl
        have HNe : Hid (sa.data.toList ≠ []) := by intro e; rw [e] at hz; simp at hz
        clear hgo hz
        go_wp2
        go_roundg (m / 10)
        case measure => omega
        case rel => exact ⟨sc ++ sa, m / 10, by rw [HX.out]; simp, rfl, by go_num, by rw [HX.out]; exact HN2.out, HZ.out⟩
    · have hd : sa.data.toList ≠ [] ∧ m = 0 := ⟨fun h => hgo (.inl h), by rcases Nat.eq_zero_or_pos m with h | h; exact h; exact absurd (.inr h) hgo⟩
      have HD := Lib.hid (HA.out.done hd.1 hd.2)
      obtain ⟨h1, h2⟩ := hd
      have hE : sa.toList.isEmpty = false := by
        rw [ByteArray.toList_eq]
        cases hx : sa.data.toList with
        | nil => exact absurd hx h1
        | cons => rfl
      have hsc : ByteArray.size ⟨#[45]⟩ = 1 := rfl
      subst h2
      clear hgo h1
      go_wp2
      go_ret
      refine ⟨?_, HBR.out⟩
      rw [HI.out, ← HD.out]
      exact congrArg (fun x => Ending.returned (Value.string x)) (ba_data rfl)
theorem digits_any (n : Int) (w : World) (h0 : -9223372036854775808 ≤ n) (h1 : n ≤ 9223372036854775807) : Calls Tryd.prog 38 #[.int .i64 n] w fun e w' => e = .returned (.string ⟨(Lib.itoa n).toArray⟩) ∧ Below w.heap.size w w' := by
  by_cases hn : n < 0
  · exact digits_neg n w h0 h1 hn
  · exact digits_pos n w h0 h1 hn
end Go.Proofs.YtlflhigphfnhoaaDoor
