/- Plain: which values may be, how two stand, and the order's laws. -/
import GoSem.Op.String
import Derived.KernelRfl
namespace Go.Proofs.YtfgmdaemcaamiaaDoor
set_option linter.unusedVariables false

theorem bl_irrefl : ∀ l : List UInt8, Op.bytesLess l l = false
  | [] => rfl
  | a :: x => by simp [Op.bytesLess, bl_irrefl x]
theorem bl_tri : ∀ l m : List UInt8, Op.bytesLess l m = false → Op.bytesLess m l = false → l = m
  | [], [], _, _ => rfl
  | [], _ :: _, h, _ => by simp [Op.bytesLess] at h
  | _ :: _, [], _, h => by simp [Op.bytesLess] at h
  | a :: x, b :: y, h1, h2 => by
      simp only [Op.bytesLess, Bool.or_eq_false_iff, decide_eq_false_iff_not, Bool.and_eq_false_iff, beq_eq_false_iff_ne] at h1 h2
      have hab : a = b := by
        apply UInt8.toNat_inj.1
        have g1 := h1.1
        have g2 := h2.1
        rw [UInt8.lt_iff_toNat_lt] at g1 g2
        omega
      subst hab
      have e1 := h1.2.resolve_left (fun h => h rfl)
      have e2 := h2.2.resolve_left (fun h => h rfl)
      rw [bl_tri x y e1 e2]
theorem bl_trans : ∀ l m k : List UInt8, Op.bytesLess l m = true → Op.bytesLess m k = true → Op.bytesLess l k = true
  | _, _, [], _, h => by simp [Op.bytesLess] at h
  | _, [], _ :: _, h, _ => by simp [Op.bytesLess] at h
  | [], _ :: _, _ :: _, _, _ => rfl
  | a :: x, b :: y, c :: z, h1, h2 => by
      simp only [Op.bytesLess, Bool.or_eq_true, decide_eq_true_eq, Bool.and_eq_true, beq_iff_eq] at h1 h2 ⊢
      rcases h1 with h1 | ⟨rfl, h1⟩
      · rcases h2 with h2 | ⟨rfl, h2⟩
        · exact .inl (UInt8.lt_trans h1 h2)
        · exact .inl h1
      · rcases h2 with h2 | ⟨rfl, h2⟩
        · exact .inl h2
        · exact .inr ⟨rfl, bl_trans x y z h1 h2⟩
theorem bl_asym (l m : List UInt8) (h : Op.bytesLess l m = true) : Op.bytesLess m l = false := by
  cases hm : Op.bytesLess m l with
  | false => rfl
  | true => have := bl_trans l m l h hm; rw [bl_irrefl] at this; cases this

def cmpI (a b : Int) : Int := if a < b then -1 else if b < a then 1 else 0
def cmpL (l m : List UInt8) : Int := if Op.bytesLess l m then -1 else if !(Op.bytesLess l m || l == m) then 1 else 0
def orI (a b : Int) : Int := if a ≠ 0 then a else b
def cmpV (k n : Int) (s : List UInt8) (k' n' : Int) (s' : List UInt8) : Int := orI (cmpI k k') (orI (cmpI n n') (cmpL s s'))

theorem cmpL_lt {l m : List UInt8} (h : Op.bytesLess l m = true) : cmpL l m = -1 := by simp [cmpL, h]
theorem cmpL_gt {l m : List UInt8} (h : Op.bytesLess m l = true) : cmpL l m = 1 := by
  have h1 := bl_asym _ _ h
  have h2 : l ≠ m := by intro e; subst e; rw [bl_irrefl] at h; cases h
  simp [cmpL, h1, h2]
theorem cmpL_self (l : List UInt8) : cmpL l l = 0 := by simp [cmpL, bl_irrefl]
theorem cmpL_cases (l m : List UInt8) : (cmpL l m = -1 ∧ Op.bytesLess l m = true) ∨ (cmpL l m = 1 ∧ Op.bytesLess m l = true) ∨ (cmpL l m = 0 ∧ l = m) := by
  cases h1 : Op.bytesLess l m with
  | true => exact .inl ⟨cmpL_lt h1, rfl⟩
  | false =>
    cases h2 : Op.bytesLess m l with
    | true => exact .inr (.inl ⟨cmpL_gt h2, rfl⟩)
    | false => obtain rfl := bl_tri _ _ h1 h2; exact .inr (.inr ⟨cmpL_self l, rfl⟩)
theorem cmpL_turn (l m : List UInt8) : cmpL m l = - cmpL l m := by
  rcases cmpL_cases l m with ⟨h, g⟩ | ⟨h, g⟩ | ⟨h, rfl⟩
  · rw [h, cmpL_gt g]; rfl
  · rw [h, cmpL_lt g]
  · rw [h]; rfl
theorem cmpL_trans (a b c : List UInt8) (h1 : cmpL a b ≤ 0) (h2 : cmpL b c ≤ 0) : cmpL a c ≤ 0 ∧ (cmpL a b < 0 ∨ cmpL b c < 0 → cmpL a c < 0) := by
  rcases cmpL_cases a b with ⟨e, g⟩ | ⟨e, g⟩ | ⟨e, rfl⟩
  · rcases cmpL_cases b c with ⟨e', g'⟩ | ⟨e', g'⟩ | ⟨e', rfl⟩
    · rw [cmpL_lt (bl_trans _ _ _ g g')]; omega
    · omega
    · rw [e]; omega
  · omega
  · exact ⟨h2, fun h => by rcases h with h | h <;> omega⟩
theorem cmpL_range (l m : List UInt8) : -1 ≤ cmpL l m ∧ cmpL l m ≤ 1 := by
  rcases cmpL_cases l m with ⟨h, _⟩ | ⟨h, _⟩ | ⟨h, _⟩ <;> omega
theorem cmpI_cases (a b : Int) : (cmpI a b = -1 ∧ a < b) ∨ (cmpI a b = 1 ∧ b < a) ∨ (cmpI a b = 0 ∧ a = b) := by
  unfold cmpI
  split
  · exact .inl ⟨rfl, ‹_›⟩
  · split
    · exact .inr (.inl ⟨rfl, ‹_›⟩)
    · exact .inr (.inr ⟨rfl, by omega⟩)
theorem cmpV_turn (k n : Int) (s : List UInt8) (k' n' : Int) (s' : List UInt8) : cmpV k' n' s' k n s = - cmpV k n s k' n' s' := by
  unfold cmpV orI
  rw [cmpL_turn s s']
  have h1 : cmpI k' k = - cmpI k k' := by unfold cmpI; repeat' split <;> omega
  have h2 : cmpI n' n = - cmpI n n' := by unfold cmpI; repeat' split <;> omega
  rw [h1, h2]
  repeat' split
  all_goals omega
theorem cmpV_zero (k n : Int) (s : List UInt8) (k' n' : Int) (s' : List UInt8) : cmpV k n s k' n' s' = 0 ↔ k = k' ∧ n = n' ∧ s = s' := by
  unfold cmpV orI
  rcases cmpI_cases k k' with ⟨h, g⟩ | ⟨h, g⟩ | ⟨h, g⟩
  · rw [h]; simp; omega
  · rw [h]; simp; omega
  · rw [h]
    rcases cmpI_cases n n' with ⟨h', g'⟩ | ⟨h', g'⟩ | ⟨h', g'⟩
    · rw [h']; simp; omega
    · rw [h']; simp; omega
    · rw [h']
      rcases cmpL_cases s s' with ⟨h2, g2⟩ | ⟨h2, g2⟩ | ⟨h2, g2⟩
      · rw [h2]
        have : s ≠ s' := by intro e; subst e; rw [bl_irrefl] at g2; cases g2
        simp [this]
      · rw [h2]
        have : s ≠ s' := by intro e; subst e; rw [bl_irrefl] at g2; cases g2
        simp [this]
      · rw [h2]; simp [g, g', g2]
theorem cmpV_trans (k n : Int) (s : List UInt8) (k' n' : Int) (s' : List UInt8) (k2 n2 : Int) (s2 : List UInt8) (h1 : cmpV k n s k' n' s' ≤ 0) (h2 : cmpV k' n' s' k2 n2 s2 ≤ 0) :
    cmpV k n s k2 n2 s2 ≤ 0 ∧ (cmpV k n s k' n' s' < 0 ∨ cmpV k' n' s' k2 n2 s2 < 0 → cmpV k n s k2 n2 s2 < 0) := by
  have hL := cmpL_trans s s' s2
  unfold cmpV orI at *
  rcases cmpI_cases k k' with ⟨a, a'⟩ | ⟨a, a'⟩ | ⟨a, a'⟩
  all_goals rcases cmpI_cases k' k2 with ⟨b, b'⟩ | ⟨b, b'⟩ | ⟨b, b'⟩
  all_goals rcases cmpI_cases k k2 with ⟨c, c'⟩ | ⟨c, c'⟩ | ⟨c, c'⟩
  all_goals first | omega | skip
  all_goals rw [a] at h1 ⊢; rw [b] at h2 ⊢; rw [c]
  all_goals simp only [ne_eq, not_true_eq_false, if_false] at h1 h2 ⊢
  all_goals first | omega | skip
  rcases cmpI_cases n n' with ⟨a1, a1'⟩ | ⟨a1, a1'⟩ | ⟨a1, a1'⟩
  all_goals rcases cmpI_cases n' n2 with ⟨b1, b1'⟩ | ⟨b1, b1'⟩ | ⟨b1, b1'⟩
  all_goals rcases cmpI_cases n n2 with ⟨c1, c1'⟩ | ⟨c1, c1'⟩ | ⟨c1, c1'⟩
  all_goals first | omega | skip
  all_goals rw [a1] at h1 ⊢; rw [b1] at h2 ⊢; rw [c1]
  all_goals simp only [ne_eq, not_true_eq_false, not_false_eq_true, if_true, if_false, reduceCtorEq, Int.reduceNeg, Int.reduceEq] at h1 h2 ⊢
  all_goals first | omega | exact hL h1 h2

def rightB (k n : Int) (s : List UInt8) : Bool :=
  if k = 0 then decide (n = 0) && s.isEmpty else if k = 1 then s.isEmpty else if k = 2 then (decide (n = 0) || decide (n = 1)) && s.isEmpty else if k = 3 then decide (n = 0) && decide (s.length ≤ 1024) else false
def lessB (k n : Int) (s : List UInt8) (k' n' : Int) (s' : List UInt8) : Bool := if k ≠ k' then decide (k < k') else if k = 3 then Op.bytesLess s s' else decide (n < n')
def refCmp (k n : Int) (s : List UInt8) (k' n' : Int) (s' : List UInt8) : Int := if lessB k n s k' n' s' then -1 else if lessB k' n' s' k n s then 1 else 0
theorem right_text {k n : Int} {s : List UInt8} (h : rightB k n s = true) : (k = 3 → n = 0) ∧ (k ≠ 3 → s = []) ∧ 0 ≤ k ∧ k ≤ 3 := by
  unfold rightB at h
  repeat' split at h
  all_goals simp at h
  all_goals refine ⟨?_, ?_, ?_, ?_⟩ <;> first | omega | (intro; omega) | (intro; exact h.2) | (intro; exact h) | skip
theorem cmp_ref {k n : Int} {s : List UInt8} {k' n' : Int} {s' : List UInt8} (h : rightB k n s = true) (h' : rightB k' n' s' = true) : cmpV k n s k' n' s' = refCmp k n s k' n' s' := by
  obtain ⟨a1, a2, _, _⟩ := right_text h
  obtain ⟨b1, b2, _, _⟩ := right_text h'
  unfold cmpV orI refCmp lessB
  rcases cmpI_cases k k' with ⟨e, g⟩ | ⟨e, g⟩ | ⟨e, g⟩
  · rw [e]
    have : k ≠ k' := by omega
    simp [this, g]
  · rw [e]
    have : k ≠ k' := by omega
    have g2 : ¬ k < k' := by omega
    have g3 : k' ≠ k := by omega
    simp [this, g, g2, g3]
  · subst g
    rw [e]
    by_cases hk : k = 3
    · rw [a1 hk, b1 hk]
      rcases cmpL_cases s s' with ⟨h2, g2⟩ | ⟨h2, g2⟩ | ⟨h2, g2⟩
      · rw [h2]; simp [hk, g2, cmpI]
      · rw [h2]; simp [hk, g2, cmpI, bl_asym _ _ g2]
      · rw [h2]; subst g2; simp [hk, cmpI, bl_irrefl]
    · rw [a2 hk, b2 hk]
      rcases cmpI_cases n n' with ⟨h2, g2⟩ | ⟨h2, g2⟩ | ⟨h2, g2⟩
      · rw [h2]; simp [hk, g2]
      · rw [h2]; have : ¬ n < n' := by omega
        simp [hk, g2, this]
      · rw [h2]; subst g2; simp [hk, cmpL_self]
end Go.Proofs.YtfgmdaemcaamiaaDoor
