/- Lists of integers and their encodings: the plain model. -/
import Derived.Test.YtdchaojgldfagaaDoorZig
import Derived.Test.YtdchaojgldfagaaDoorNum
import Derived.Test.YtdchaojgldfagaaDoorPbV
namespace Go.Proofs.YtdchaojgldfagaaDoor
open Go.RowKit
set_option linter.unusedVariables false

/-- A number of 64 bits. -/
def I64 (n : Int) : Prop := -9223372036854775808 ≤ n ∧ n ≤ 9223372036854775807
def All64 (l : List Int) : Prop := ∀ x ∈ l, I64 x
/-- A number, laid by wire.Signed. -/
def sgn (x : Int) : List UInt8 := num (zig x)
def dif (a b : Int) : Int := IntKind.i64.wrap (b - a)
/-- The step from a number to the next one. -/
def stepW (a b : Int) : W64 := BitVec.ofNat 64 (zig (dif a b))
def stepsL : List Int → List W64
  | [] => []
  | [_] => []
  | a :: b :: t => stepW a b :: stepsL (b :: t)
/-- A number held against the least one. -/
def offW (m x : Int) : W64 := BitVec.ofInt 64 (x - m)
def minL : List Int → Int
  | [] => 0
  | [a] => a
  | a :: b :: t => min a (minL (b :: t))
/-- The width of numbers, and these packed. -/
def packD (d : List W64) : List UInt8 := UInt8.ofNat (widL d) :: pkB (widL d : Int) d
/-- Runs: how long, and which number. -/
def runsL : List Int → List (Nat × Int)
  | [] => []
  | a :: t => match runsL t with
    | (n, b) :: r => if a = b then (n + 1, b) :: r else (1, a) :: (n, b) :: r
    | [] => [(1, a)]
def layRun (r : Nat × Int) : List UInt8 := num r.1 ++ sgn r.2
/-- What stands behind the form's byte. -/
def encB : Nat → List Int → List UInt8
  | 0, l => l.flatMap sgn
  | 1, l => (runsL l).flatMap layRun
  | 2, l => (match l with | [] => [] | a :: t => sgn a ++ packD (stepsL (a :: t)))
  | _, l => (match l with | [] => [] | a :: t => sgn (minL (a :: t)) ++ packD ((a :: t).map (offW (minL (a :: t)))))
/-- The encoding of a list in a form. -/
def encI (f : Nat) (l : List Int) : List UInt8 := UInt8.ofNat f :: encB f l

theorem dif_64 (a b : Int) : I64 (dif a b) := by
  unfold dif I64
  rw [IntKind.wrap_i64]
  omega
theorem stepW_nat (a b : Int) : (stepW a b).toNat = zig (dif a b) := by
  have h := dif_64 a b
  have := zig_lt (dif a b) h.1 h.2
  unfold stepW
  rw [BitVec.toNat_ofNat]
  omega
theorem offW_nat {m x : Int} (hm : I64 m) (hx : I64 x) (h : m ≤ x) : ((offW m x).toNat : Int) = x - m := by
  unfold offW I64 at *
  rw [BitVec.toNat_ofInt]
  omega
theorem sgn_len (x : Int) : (sgn x).length ≤ 10 := (num_len (zig x)).2
theorem minL_le : ∀ (l : List Int) (x : Int), x ∈ l → minL l ≤ x
  | [a], x, h => by
    have : x = a := by simpa using h
    rw [this]; exact Int.le_refl _
  | a :: b :: t, x, h => by
    show min a (minL (b :: t)) ≤ x
    rcases List.mem_cons.1 h with rfl | h2
    · exact Int.min_le_left _ _
    · exact Int.le_trans (Int.min_le_right _ _) (minL_le (b :: t) x h2)
theorem minL_mem : ∀ (l : List Int), l ≠ [] → minL l ∈ l
  | [], h => absurd rfl h
  | [a], _ => by show a ∈ [a]; simp
  | a :: b :: t, _ => by
    show min a (minL (b :: t)) ∈ _
    have := minL_mem (b :: t) (by simp)
    rcases Int.le_total a (minL (b :: t)) with h | h
    · rw [Int.min_eq_left h]; simp
    · rw [Int.min_eq_right h]; exact List.mem_cons_of_mem _ this
theorem minL_snoc : ∀ (l : List Int) (x : Int), l ≠ [] → minL (l ++ [x]) = min (minL l) x
  | [], _, h => absurd rfl h
  | [a], x, _ => rfl
  | a :: b :: t, x, _ => by
    show min a (minL ((b :: t) ++ [x])) = min (min a (minL (b :: t))) x
    rw [minL_snoc (b :: t) x (by simp), Int.min_assoc]
theorem minL_64 {l : List Int} (h : All64 l) (hne : l ≠ []) : I64 (minL l) := h _ (minL_mem l hne)
theorem runsL_pos : ∀ (l : List Int) (r : Nat × Int), r ∈ runsL l → 1 ≤ r.1 ∧ r.2 ∈ l
  | [], r, h => by simp [runsL] at h
  | a :: t, r, h => by
    have ih := runsL_pos t
    rw [runsL] at h
    cases hq : runsL t with
    | nil =>
      rw [hq] at h
      have : r = (1, a) := by simpa using h
      rw [this]; simp
    | cons q qs =>
      obtain ⟨n, b⟩ := q
      rw [hq] at h ih
      simp only at h
      by_cases e : a = b
      · rw [if_pos e] at h
        rcases List.mem_cons.1 h with rfl | h2
        · exact ⟨by simp, List.mem_cons_of_mem _ (ih (n, b) (by simp)).2⟩
        · have := ih r (List.mem_cons_of_mem _ h2)
          exact ⟨this.1, List.mem_cons_of_mem _ this.2⟩
      · rw [if_neg e] at h
        rcases List.mem_cons.1 h with rfl | h2
        · simp
        · have := ih r h2
          exact ⟨this.1, List.mem_cons_of_mem _ this.2⟩
theorem runsL_count : ∀ l : List Int, (runsL l).length ≤ l.length
  | [] => Nat.le_refl _
  | a :: t => by
    have ih := runsL_count t
    rw [runsL]
    cases hq : runsL t with
    | nil => simp
    | cons q qs =>
      obtain ⟨n, b⟩ := q
      rw [hq] at ih
      simp only
      split <;> simp at ih ⊢ <;> omega
/-- The first run of a list. -/
theorem runsL_head (a : Int) (r : List Int) (h : r.head? ≠ some a) : ∀ n, runsL (List.replicate (n + 1) a ++ r) = (n + 1, a) :: runsL r
  | 0 => by
    show runsL (a :: r) = _
    cases r with
    | nil => rfl
    | cons b t =>
      have hb : b ≠ a := by simpa using h
      rw [runsL]
      cases hq : runsL (b :: t) with
      | nil => rfl
      | cons q qs =>
        obtain ⟨m, c⟩ := q
        have hc : c = b := by
          rw [runsL] at hq
          cases hw : runsL t with
          | nil => rw [hw] at hq; simp at hq; exact hq.1.2.symm
          | cons u us =>
            obtain ⟨k, d⟩ := u
            rw [hw] at hq
            simp only at hq
            by_cases e : b = d
            · rw [if_pos e] at hq; simp at hq; rw [← hq.1.2, e]
            · rw [if_neg e] at hq; simp at hq; exact hq.1.2.symm
        simp only
        rw [if_neg (by rw [hc]; exact Ne.symm hb)]
  | n + 1 => by
    show runsL (a :: (List.replicate (n + 1) a ++ r)) = _
    rw [runsL, runsL_head a r h n]
    simp
theorem encB_len {f : Nat} {l : List Int} (hl : l.length ≤ 4096) : (encB f l).length ≤ 100000 := by
  have hpk : ∀ d : List W64, d.length ≤ 4096 → (packD d).length ≤ 32769 := fun d hd => by
    have hw := widL_le d
    unfold packD pkB
    split
    · rw [List.length_cons, packL_len, Int.toNat_natCast]
      have : d.length * widL d ≤ 4096 * 64 := Nat.mul_le_mul hd hw
      omega
    · simp
  have hfl : ∀ (m : Nat) (g : Int → List UInt8), (∀ x, (g x).length ≤ m) → ∀ l : List Int, (l.flatMap g).length ≤ l.length * m := fun m g hg l => by
    induction l with
    | nil => simp
    | cons a t ih => rw [List.flatMap_cons, List.length_append, List.length_cons, Nat.succ_mul]; have := hg a; omega
  match f with
  | 0 =>
    have := hfl 10 sgn sgn_len l
    show (l.flatMap sgn).length ≤ _
    omega
  | 1 =>
    show ((runsL l).flatMap layRun).length ≤ _
    have hr : ∀ L : List (Nat × Int), (L.flatMap layRun).length ≤ L.length * 20 := fun L => by
      induction L with
      | nil => simp
      | cons a t ih =>
        rw [List.flatMap_cons, List.length_append, List.length_cons, Nat.succ_mul]
        have h1 := (num_len a.1).2
        have h2 := sgn_len a.2
        have h3 : (layRun a).length = (num a.1).length + (sgn a.2).length := by unfold layRun; rw [List.length_append]
        omega
    have h1 := hr (runsL l)
    have h2 := runsL_count l
    omega
  | 2 =>
    cases l with
    | nil => simp [encB]
    | cons a t =>
      show (sgn a ++ packD (stepsL (a :: t))).length ≤ _
      have hs : ∀ L : List Int, (stepsL L).length ≤ L.length := fun L => by
        induction L with
        | nil => simp [stepsL]
        | cons a t ih => cases t with
          | nil => simp [stepsL]
          | cons b t => rw [stepsL, List.length_cons, List.length_cons]; omega
      rw [List.length_append]
      have h1 := sgn_len a
      have h2 := hpk (stepsL (a :: t)) (Nat.le_trans (hs _) hl)
      omega
  | f + 3 =>
    cases l with
    | nil => simp [encB]
    | cons a t =>
      show (sgn (minL (a :: t)) ++ packD ((a :: t).map (offW (minL (a :: t))))).length ≤ _
      rw [List.length_append]
      have h1 := sgn_len (minL (a :: t))
      have h2 := hpk ((a :: t).map (offW (minL (a :: t)))) (by rw [List.length_map]; exact hl)
      omega
theorem stepsL_len : ∀ (a : Int) (t : List Int), (stepsL (a :: t)).length = t.length
  | _, [] => rfl
  | a, b :: t => by rw [stepsL, List.length_cons, stepsL_len b t, List.length_cons]
theorem stepsL_get : ∀ (l : List Int) (i : Nat) (h : i + 1 < l.length), (stepsL l)[i]? = some (stepW (l[i]'(by omega)) l[i + 1])
  | [], i, h => by simp at h
  | [a], i, h => by simp at h
  | a :: b :: t, 0, _ => rfl
  | a :: b :: t, i + 1, h => by
    rw [stepsL, List.getElem?_cons_succ, stepsL_get (b :: t) i (by simpa using h)]
    rfl

/-- How long a list is in a form, and the best form. -/
def sizeI (l : List Int) (f : Nat) : Nat := (encI f l).length
def bestL (l : List Int) : Nat :=
  let a := sizeI l 0; let b := sizeI l 1; let c := sizeI l 2; let d := sizeI l 3
  if a ≤ b ∧ a ≤ c ∧ a ≤ d then 0 else if b ≤ c ∧ b ≤ d then 1 else if c ≤ d then 2 else 3
theorem bestL_spec (l : List Int) : bestL l < 4 ∧ ∀ g, g < 4 → sizeI l (bestL l) ≤ sizeI l g ∧ (sizeI l g = sizeI l (bestL l) → bestL l ≤ g) := by
  unfold bestL
  simp only
  generalize ha : sizeI l 0 = a
  generalize hb : sizeI l 1 = b
  generalize hc : sizeI l 2 = c
  generalize hd : sizeI l 3 = d
  have hg : ∀ g, g < 4 → sizeI l g = if g = 0 then a else if g = 1 then b else if g = 2 then c else d := fun g h => by
    have : g = 0 ∨ g = 1 ∨ g = 2 ∨ g = 3 := by omega
    rcases this with rfl | rfl | rfl | rfl <;> simp [*]
  by_cases h0 : a ≤ b ∧ a ≤ c ∧ a ≤ d
  · rw [if_pos h0]
    refine ⟨by omega, fun g h => ?_⟩
    rw [hg g h, ha]
    split
    · omega
    · split
      · omega
      · split <;> omega
  · rw [if_neg h0]
    by_cases h1 : b ≤ c ∧ b ≤ d
    · rw [if_pos h1]
      refine ⟨by omega, fun g h => ?_⟩
      rw [hg g h, hb]
      split
      · omega
      · split
        · omega
        · split <;> omega
    · rw [if_neg h1]
      by_cases h2 : c ≤ d
      · rw [if_pos h2]
        refine ⟨by omega, fun g h => ?_⟩
        rw [hg g h, hc]
        split
        · omega
        · split
          · omega
          · split <;> omega
      · rw [if_neg h2]
        refine ⟨by omega, fun g h => ?_⟩
        rw [hg g h, hd]
        split
        · omega
        · split
          · omega
          · split <;> omega
end Go.Proofs.YtdchaojgldfagaaDoor
