/- Joined: Lists of integers and their encodings: the plain model. Lists of integers: how long their best encodings are (plain). Lists of integers in memory; the least of one, its steps, its numbers held against the least. The walk of layPacked: with the first number and the steps, with the least one and the numbers held against it. The walk of ints.Encode: what is refused, and the plain form. The walk of ints.Encode: the forms that are packed. The first number of a list that differs from its head (slices.IndexFunc with runsOf's closure). The iterator over a list's runs: it keeps what is left in a variable of its own. A range over an iterator that keeps variables of its own and is never left early. The walk of ints.Encode: the form of runs. Encode in every form; the smallest of a row of sizes. The head 'shown' of the laws. The walk of IntsSmall. Integers that came in. The walk of IntsBest. Rows of integers of the call's own. -/
import Derived.Test.YtfgmdaemcaamiaaDoorZig
import Derived.Test.YtfgmdaemcaamiaaDoorNum
import Derived.Test.YtfgmdaemcaamiaaDoorPkA
import Derived.Test.YtfgmdaemcaamiaaDoorSigned
import Derived.Test.YtfgmdaemcaamiaaDoorRegB
import Derived.IntWalk
import Derived.Outline
import Derived.Maps.AppendAt
import Derived.Test.YtfgmdaemcaamiaaDoorRegR
import Derived.RangeFuncNested
import Derived.RangeFuncBound
import Derived.RangeFuncCalls
import Derived.RangeFuncLeaves
import Derived.Shelf.Abstract
import Derived.Shelf.RegionOpen
import Derived.OwnWalkIn
import Derived.TacticsInMore
import Derived.LoopNIn
import Derived.LoopIn
import Derived.RangeFuncFrom
import Derived.ShutString
import Derived.ChangeShapes
/-! Lists of integers and their encodings: the plain model. -/
namespace Go.Proofs.YtfgmdaemcaamiaaDoor
open Go.RowKit
set_option linter.unusedVariables false

/-- A number of 64 bits. -/
def I64 (n : Int) : Prop := -9223372036854775808 ≤ n ∧ n ≤ 9223372036854775807
def All64 (l : List Int) : Prop := ∀ x ∈ l, I64 x
/-- A number, laid by wire.Signed. -/
def sgn (x : Int) : List UInt8 := num (zig x)
def dif (a b : Int) : Int := IntKind.i64.wrap (b - a)
/-- The step from a number to the next one. -/
def stepW (a b : Int) : W64 := BitVec.ofNat 64 (zig (dif a b))
def stepsL : List Int → List W64
  | [] => []
  | [_] => []
  | a :: b :: t => stepW a b :: stepsL (b :: t)
/-- A number held against the least one. -/
def offW (m x : Int) : W64 := BitVec.ofInt 64 (x - m)
def minL : List Int → Int
  | [] => 0
  | [a] => a
  | a :: b :: t => min a (minL (b :: t))
/-- Runs: how long, and which number. -/
def runsL : List Int → List (Nat × Int)
  | [] => []
  | a :: t => match runsL t with
    | (n, b) :: r => if a = b then (n + 1, b) :: r else (1, a) :: (n, b) :: r
    | [] => [(1, a)]
def layRun (r : Nat × Int) : List UInt8 := num r.1 ++ sgn r.2
/-- What stands behind the form's byte. -/
def encB : Nat → List Int → List UInt8
  | 0, l => l.flatMap sgn
  | 1, l => (runsL l).flatMap layRun
  | 2, l => (match l with | [] => [] | a :: t => sgn a ++ packD (stepsL (a :: t)))
  | _, l => (match l with | [] => [] | a :: t => sgn (minL (a :: t)) ++ packD ((a :: t).map (offW (minL (a :: t)))))
/-- The encoding of a list in a form. -/
def encI (f : Nat) (l : List Int) : List UInt8 := UInt8.ofNat f :: encB f l

theorem dif_64 (a b : Int) : I64 (dif a b) := by
  unfold dif I64
  rw [IntKind.wrap_i64]
  omega
theorem stepW_nat (a b : Int) : (stepW a b).toNat = zig (dif a b) := by
  have h := dif_64 a b
  have := zig_lt (dif a b) h.1 h.2
  unfold stepW
  rw [BitVec.toNat_ofNat]
  omega
theorem offW_nat {m x : Int} (hm : I64 m) (hx : I64 x) (h : m ≤ x) : ((offW m x).toNat : Int) = x - m := by
  unfold offW I64 at *
  rw [BitVec.toNat_ofInt]
  omega
theorem sgn_len (x : Int) : (sgn x).length ≤ 10 := (num_len (zig x)).2
theorem minL_le : ∀ (l : List Int) (x : Int), x ∈ l → minL l ≤ x
  | [a], x, h => by
    have : x = a := by simpa using h
    rw [this]; exact Int.le_refl _
  | a :: b :: t, x, h => by
    show min a (minL (b :: t)) ≤ x
    rcases List.mem_cons.1 h with rfl | h2
    · exact Int.min_le_left _ _
    · exact Int.le_trans (Int.min_le_right _ _) (minL_le (b :: t) x h2)
theorem minL_mem : ∀ (l : List Int), l ≠ [] → minL l ∈ l
  | [], h => absurd rfl h
  | [a], _ => by show a ∈ [a]; simp
  | a :: b :: t, _ => by
    show min a (minL (b :: t)) ∈ _
    have := minL_mem (b :: t) (by simp)
    rcases Int.le_total a (minL (b :: t)) with h | h
    · rw [Int.min_eq_left h]; simp
    · rw [Int.min_eq_right h]; exact List.mem_cons_of_mem _ this
theorem minL_snoc : ∀ (l : List Int) (x : Int), l ≠ [] → minL (l ++ [x]) = min (minL l) x
  | [], _, h => absurd rfl h
  | [a], x, _ => rfl
  | a :: b :: t, x, _ => by
    show min a (minL ((b :: t) ++ [x])) = min (min a (minL (b :: t))) x
    rw [minL_snoc (b :: t) x (by simp), Int.min_assoc]
theorem minL_64 {l : List Int} (h : All64 l) (hne : l ≠ []) : I64 (minL l) := h _ (minL_mem l hne)
theorem runsL_pos : ∀ (l : List Int) (r : Nat × Int), r ∈ runsL l → 1 ≤ r.1 ∧ r.2 ∈ l
  | [], r, h => by simp [runsL] at h
  | a :: t, r, h => by
    have ih := runsL_pos t
    rw [runsL] at h
    cases hq : runsL t with
    | nil =>
      rw [hq] at h
      have : r = (1, a) := by simpa using h
      rw [this]; simp
    | cons q qs =>
      obtain ⟨n, b⟩ := q
      rw [hq] at h ih
      simp only at h
      by_cases e : a = b
      · rw [if_pos e] at h
        rcases List.mem_cons.1 h with rfl | h2
        · exact ⟨by simp, List.mem_cons_of_mem _ (ih (n, b) (by simp)).2⟩
        · have := ih r (List.mem_cons_of_mem _ h2)
          exact ⟨this.1, List.mem_cons_of_mem _ this.2⟩
      · rw [if_neg e] at h
        rcases List.mem_cons.1 h with rfl | h2
        · simp
        · have := ih r h2
          exact ⟨this.1, List.mem_cons_of_mem _ this.2⟩
theorem runsL_count : ∀ l : List Int, (runsL l).length ≤ l.length
  | [] => Nat.le_refl _
  | a :: t => by
    have ih := runsL_count t
    rw [runsL]
    cases hq : runsL t with
    | nil => simp
    | cons q qs =>
      obtain ⟨n, b⟩ := q
      rw [hq] at ih
      simp only
      split <;> simp at ih ⊢ <;> omega
/-- The first run of a list. -/
theorem runsL_head (a : Int) (r : List Int) (h : r.head? ≠ some a) : ∀ n, runsL (List.replicate (n + 1) a ++ r) = (n + 1, a) :: runsL r
  | 0 => by
    show runsL (a :: r) = _
    cases r with
    | nil => rfl
    | cons b t =>
      have hb : b ≠ a := by simpa using h
      rw [runsL]
      cases hq : runsL (b :: t) with
      | nil => rfl
      | cons q qs =>
        obtain ⟨m, c⟩ := q
        have hc : c = b := by
          rw [runsL] at hq
          cases hw : runsL t with
          | nil => rw [hw] at hq; simp at hq; exact hq.1.2.symm
          | cons u us =>
            obtain ⟨k, d⟩ := u
            rw [hw] at hq
            simp only at hq
            by_cases e : b = d
            · rw [if_pos e] at hq; simp at hq; rw [← hq.1.2, e]
            · rw [if_neg e] at hq; simp at hq; exact hq.1.2.symm
        simp only
        rw [if_neg (by rw [hc]; exact Ne.symm hb)]
  | n + 1 => by
    show runsL (a :: (List.replicate (n + 1) a ++ r)) = _
    rw [runsL, runsL_head a r h n]
    simp
theorem encB_len {f : Nat} {l : List Int} (hl : l.length ≤ 4096) : (encB f l).length ≤ 100000 := by
  have hpk : ∀ d : List W64, d.length ≤ 4096 → (packD d).length ≤ 32769 := fun d hd => by
    have hw := widL_le d
    unfold packD pkB
    split
    · rw [List.length_cons, packL_len, Int.toNat_natCast]
      have : d.length * widL d ≤ 4096 * 64 := Nat.mul_le_mul hd hw
      omega
    · simp
  have hfl : ∀ (m : Nat) (g : Int → List UInt8), (∀ x, (g x).length ≤ m) → ∀ l : List Int, (l.flatMap g).length ≤ l.length * m := fun m g hg l => by
    induction l with
    | nil => simp
    | cons a t ih => rw [List.flatMap_cons, List.length_append, List.length_cons, Nat.succ_mul]; have := hg a; omega
  match f with
  | 0 =>
    have := hfl 10 sgn sgn_len l
    show (l.flatMap sgn).length ≤ _
    omega
  | 1 =>
    show ((runsL l).flatMap layRun).length ≤ _
    have hr : ∀ L : List (Nat × Int), (L.flatMap layRun).length ≤ L.length * 20 := fun L => by
      induction L with
      | nil => simp
      | cons a t ih =>
        rw [List.flatMap_cons, List.length_append, List.length_cons, Nat.succ_mul]
        have h1 := (num_len a.1).2
        have h2 := sgn_len a.2
        have h3 : (layRun a).length = (num a.1).length + (sgn a.2).length := by unfold layRun; rw [List.length_append]
        omega
    have h1 := hr (runsL l)
    have h2 := runsL_count l
    omega
  | 2 =>
    cases l with
    | nil => simp [encB]
    | cons a t =>
      show (sgn a ++ packD (stepsL (a :: t))).length ≤ _
      have hs : ∀ L : List Int, (stepsL L).length ≤ L.length := fun L => by
        induction L with
        | nil => simp [stepsL]
        | cons a t ih => cases t with
          | nil => simp [stepsL]
          | cons b t => rw [stepsL, List.length_cons, List.length_cons]; omega
      rw [List.length_append]
      have h1 := sgn_len a
      have h2 := hpk (stepsL (a :: t)) (Nat.le_trans (hs _) hl)
      omega
  | f + 3 =>
    cases l with
    | nil => simp [encB]
    | cons a t =>
      show (sgn (minL (a :: t)) ++ packD ((a :: t).map (offW (minL (a :: t))))).length ≤ _
      rw [List.length_append]
      have h1 := sgn_len (minL (a :: t))
      have h2 := hpk ((a :: t).map (offW (minL (a :: t)))) (by rw [List.length_map]; exact hl)
      omega
theorem stepsL_len : ∀ (a : Int) (t : List Int), (stepsL (a :: t)).length = t.length
  | _, [] => rfl
  | a, b :: t => by rw [stepsL, List.length_cons, stepsL_len b t, List.length_cons]
theorem stepsL_get : ∀ (l : List Int) (i : Nat) (h : i + 1 < l.length), (stepsL l)[i]? = some (stepW (l[i]'(by omega)) l[i + 1])
  | [], i, h => by simp at h
  | [a], i, h => by simp at h
  | a :: b :: t, 0, _ => rfl
  | a :: b :: t, i + 1, h => by
    rw [stepsL, List.getElem?_cons_succ, stepsL_get (b :: t) i (by simpa using h)]
    rfl

/-- How long a list is in a form, and the best form. -/
def sizeI (l : List Int) (f : Nat) : Nat := (encI f l).length
def bestL (l : List Int) : Nat :=
  let a := sizeI l 0; let b := sizeI l 1; let c := sizeI l 2; let d := sizeI l 3
  if a ≤ b ∧ a ≤ c ∧ a ≤ d then 0 else if b ≤ c ∧ b ≤ d then 1 else if c ≤ d then 2 else 3
theorem bestL_spec (l : List Int) : bestL l < 4 ∧ ∀ g, g < 4 → sizeI l (bestL l) ≤ sizeI l g ∧ (sizeI l g = sizeI l (bestL l) → bestL l ≤ g) := by
  unfold bestL
  simp only
  generalize ha : sizeI l 0 = a
  generalize hb : sizeI l 1 = b
  generalize hc : sizeI l 2 = c
  generalize hd : sizeI l 3 = d
  have hg : ∀ g, g < 4 → sizeI l g = if g = 0 then a else if g = 1 then b else if g = 2 then c else d := fun g h => by
    have : g = 0 ∨ g = 1 ∨ g = 2 ∨ g = 3 := by omega
    rcases this with rfl | rfl | rfl | rfl <;> simp [*]
  by_cases h0 : a ≤ b ∧ a ≤ c ∧ a ≤ d
  · rw [if_pos h0]
    refine ⟨by omega, fun g h => ?_⟩
    rw [hg g h, ha]
    split
    · omega
    · split
      · omega
      · split <;> omega
  · rw [if_neg h0]
    by_cases h1 : b ≤ c ∧ b ≤ d
    · rw [if_pos h1]
      refine ⟨by omega, fun g h => ?_⟩
      rw [hg g h, hb]
      split
      · omega
      · split
        · omega
        · split <;> omega
    · rw [if_neg h1]
      by_cases h2 : c ≤ d
      · rw [if_pos h2]
        refine ⟨by omega, fun g h => ?_⟩
        rw [hg g h, hc]
        split
        · omega
        · split
          · omega
          · split <;> omega
      · rw [if_neg h2]
        refine ⟨by omega, fun g h => ?_⟩
        rw [hg g h, hd]
        split
        · omega
        · split
          · omega
          · split <;> omega
end Go.Proofs.YtfgmdaemcaamiaaDoor

/-! Lists of integers: how long their best encodings are (plain). -/
namespace Go.Proofs.YtfgmdaemcaamiaaDoor
open Go.RowKit
set_option linter.unusedVariables false

theorem num_two {n : Nat} (h : n < 16384) : (num n).length ≤ 2 := by
  unfold num
  by_cases h1 : n < 128
  · rw [numF_small _ _ h1]; simp
  · rw [numF_big _ _ h1, numF_small _ _ (by omega)]; simp
theorem runs_same (x : Int) (n : Nat) : runsL (List.replicate (n + 1) x) = [(n + 1, x)] := by
  have := runsL_head x [] (by simp) n
  rw [List.append_nil] at this
  exact this
/-- A list of one number, again and again, is a few bytes. -/
theorem best_same (x : Int) (n : Nat) (hn : n ≤ 4096) : sizeI (List.replicate n x) (bestL (List.replicate n x)) ≤ 13 := by
  have h := ((bestL_spec (List.replicate n x)).2 1 (by omega)).1
  refine Nat.le_trans h ?_
  unfold sizeI encI
  rw [List.length_cons]
  cases n with
  | zero => simp [encB, runsL]
  | succ n =>
    show ((runsL (List.replicate (n + 1) x)).flatMap layRun).length + 1 ≤ 13
    rw [runs_same, List.flatMap_cons, List.flatMap_nil, List.append_nil]
    unfold layRun
    rw [List.length_append]
    have h1 : (num (n + 1)).length ≤ 2 := num_two (by omega)
    have h2 := sgn_len x
    show (num (n + 1)).length + (sgn x).length + 1 ≤ 13
    omega
/-- Numbers near one another need a byte each. -/
theorem best_near (low : Int) (b : List UInt8) (hl : -9223372036854775808 ≤ low) (hh : low ≤ 9223372036854775508) (hb : b.length ≤ 1000) :
    sizeI (b.map fun c => low + (c.toNat : Int)) (bestL (b.map fun c => low + (c.toNat : Int))) ≤ b.length + 12 := by
  obtain ⟨l, hL⟩ : ∃ l, (b.map fun c => low + (c.toNat : Int)) = l := ⟨_, rfl⟩
  rw [hL]
  have h := ((bestL_spec l).2 3 (by omega)).1
  refine Nat.le_trans h ?_
  have hmem : ∀ x ∈ l, low ≤ x ∧ x ≤ low + 255 := fun x hx => by
    rw [← hL] at hx
    obtain ⟨c, _, rfl⟩ := List.mem_map.1 hx
    have := c.toNat_lt
    omega
  have hlen : l.length = b.length := by rw [← hL, List.length_map]
  unfold sizeI encI
  rw [List.length_cons]
  cases l with
  | nil => simp [encB]
  | cons a t =>
    show (sgn (minL (a :: t)) ++ packD ((a :: t).map (offW (minL (a :: t))))).length + 1 ≤ _
    have hm := hmem _ (minL_mem (a :: t) (by simp))
    have hw : widL ((a :: t).map (offW (minL (a :: t)))) ≤ 8 := by
      rw [of_width (by omega)]
      intro k hk
      rw [List.length_map] at hk
      rw [List.getElem_map]
      have hx := hmem _ (List.getElem_mem hk)
      have hx2 := minL_le (a :: t) _ (List.getElem_mem hk)
      have := offW_nat (m := minL (a :: t)) (x := (a :: t)[k]) (by unfold I64; omega) (by unfold I64; omega) hx2
      omega
    have h1 := sgn_len (minL (a :: t))
    have h2 : (packD ((a :: t).map (offW (minL (a :: t))))).length ≤ 1 + b.length := by
      unfold packD pkB
      split
      · rw [List.length_cons, packL_len, Int.toNat_natCast, List.length_map, hlen]
        have : b.length * widL ((a :: t).map (offW (minL (a :: t)))) ≤ b.length * 8 := Nat.mul_le_mul_left _ hw
        omega
      · simp
    rw [List.length_append]
    omega
end Go.Proofs.YtfgmdaemcaamiaaDoor

/-! Lists of integers in memory; the least of one, its steps, its numbers held against the least. -/
namespace Go.Proofs.YtfgmdaemcaamiaaDoor
open Go.RowKit
set_option linter.unusedVariables false

/-- The slice at A holds the integers l. -/
def Ints (w : World) (A : Option Addr) (l : List Int) : Prop :=
  ∀ k (h : k < l.length), ∃ b o, A = some ⟨b, o, none⟩ ∧ w.cell? ⟨b, o + k, none⟩ = some (.int .i64 l[k])
theorem Ints.keep {w w' : World} {A : Option Addr} {l : List Int} (h : Ints w A l) (hb : Below w.heap.size w w') : Ints w' A l := by
  intro k hk
  obtain ⟨b, o, e, hc⟩ := h k hk
  exact ⟨b, o, e, (hb.cell (World.block_lt_of_cell? w _ hc)).trans hc⟩
theorem Ints.nil {w : World} {l : List Int} (h : Ints w none l) : l = [] := by
  cases l with
  | nil => rfl
  | cons a t => obtain ⟨b, o, e, _⟩ := h 0 (by simp); cases e
theorem cell_low {w W : World} {p : Addr} {v : Value} (h : Below w.heap.size w W) (hc : w.cell? p = some v) : W.cell? p = some v := (h.cell (World.block_lt_of_cell? w _ hc)).trans hc
theorem minL_take (l : List Int) (k : Nat) (h : k < l.length) (h0 : 1 ≤ k) : minL (l.take (k + 1)) = min (minL (l.take k)) l[k] := by
  rw [List.take_succ_eq_append_getElem h, minL_snoc _ _ (by intro e; have := congrArg List.length e; rw [List.length_take, List.length_nil] at this; omega)]

set_option maxHeartbeats 1000000 in
theorem first_any (A : Option Addr) (cap : Nat) (a : Int) (t : List Int) (W : World) (hl : Ints W A (a :: t)) (hn : (a :: t).length ≤ 4611686018427387904) :
    Calls Tryd.prog 71 #[.slice A (a :: t).length cap] W fun e W' => e = .returned (.int .i64 a) ∧ W = W' := by
  obtain ⟨b, o, rfl, hc⟩ := hl 0 (by simp)
  have hc0 : W.cell? ⟨b, o, none⟩ = some (.int .i64 a) := hc
  have hpos : 0 < (a :: t).length := by simp
  generalize (a :: t).length = n at *
  clear hl hc
  go_enter Tryd.func71, Tryd.ntmps71
  go_wp2
  go_ret
  exact ⟨rfl, rfl⟩

set_option maxHeartbeats 2000000 in
theorem min_any (A : Option Addr) (cap : Nat) (l : List Int) (W : World) (hl : Ints W A l) (hn : l.length ≤ 4611686018427387904) (h0 : 0 < l.length) :
    Calls Tryd.prog 73 #[.slice A l.length cap] W fun e W' => e = .returned (.int .i64 (minL l)) ∧ W = W' := by
  obtain ⟨b, o, rfl, hc⟩ := hl 0 h0
  have hc0 : W.cell? ⟨b, o, none⟩ = some (.int .i64 l[0]) := hc
  have hm1 : l[0] = minL (l.take 1) := by
    cases l with
    | nil => simp at h0
    | cons a t => rfl
  rw [hm1] at hc0
  have hfull : minL l = minL (l.take l.length) := by rw [List.take_length]
  rw [hfull]
  obtain ⟨n, hn2⟩ : ∃ n, l.length = n := ⟨_, rfl⟩
  have HL := Lib.hid hl
  have HN := Lib.hid hn2
  rw [hn2] at hn h0 ⊢
  clear hl hc hm1 hfull hn2
  have h1 : ¬ (n : Int) < 1 := by omega
  go_enter Tryd.func73, Tryd.ntmps73
  go_wp2
  go_loop [3, 4] (fun m i => ∃ k : Nat, (1 ≤ k ∧ k ≤ n) ∧ i = .int .i64 k ∧ m = .int .i64 (minL (l.take k))) (fun _ i => n - (intOf i).toNat)
  case atStart => exact ⟨1, by omega, rfl, rfl⟩
  case round =>
    obtain ⟨k, hk, rfl, rfl⟩ := hrel
    by_cases hlt : k < n
    · obtain ⟨b', o', e', hck⟩ := HL.out k (by rw [HN.out]; exact hlt)
      injection e' with e'
      injection e' with e1 e2
      subst e1 e2
      have hs := minL_take l k (by rw [HN.out]; exact hlt) hk.1
      generalize l[k]'(by rw [HN.out]; exact hlt) = x at hck hs
      have HS := Lib.hid hs
      clear hs
      generalize minL (l.take k) = m at *
      go_wp2
      go_round
      case rel => exact ⟨k + 1, by omega, by go_num, by rw [HS.out]⟩
      case measure => simp [intOf]; omega
    · obtain rfl : k = n := by omega
      go_wp2
      go_ret
      exact ⟨rfl, rfl⟩

theorem n64s_put (l : List W64) (k n : Nat) (x : W64) (h : k = l.length) (hk : k < n) : (n64s (l ++ List.replicate (n - k) 0)).set k (.int .u64 (x.toNat : Int)) = n64s ((l ++ [x]) ++ List.replicate (n - (k + 1)) 0) := by
  subst h
  rw [n64s_set, List.set_append_right _ _ (Nat.le_refl _), Nat.sub_self, show n - l.length = (n - (l.length + 1)) + 1 by omega, List.replicate_succ]
  simp
theorem stepsL_take (l : List Int) (k : Nat) (h : k + 1 < l.length) : (stepsL l).take (k + 1) = (stepsL l).take k ++ [stepW (l[k]'(by omega)) l[k + 1]] := by
  rw [List.take_add_one, stepsL_get l k h]
  rfl

set_option maxRecDepth 100000 in
set_option maxHeartbeats 4000000 in
theorem steps_any (A : Option Addr) (cap : Nat) (l : List Int) (W : World) (hl : Ints W A l) (hn : l.length ≤ 4096) (h0 : 0 < l.length) :
    Calls Tryd.prog 72 #[.slice A l.length cap] W fun e W' => e = .returned (.slice (some ⟨W.heap.size, 0, none⟩) (stepsL l).length (stepsL l).length) ∧ Num W' (some ⟨W.heap.size, 0, none⟩) (stepsL l) ∧ Below W.heap.size W W' := by
  have hsl : (stepsL l).length + 1 = l.length := by
    cases l with
    | nil => simp at h0
    | cons a t => rw [stepsL_len]; rfl
  obtain ⟨n, hn2⟩ : ∃ n, (stepsL l).length = n := ⟨_, rfl⟩
  rw [hn2] at hsl
  have hln : l.length = n + 1 := by omega
  obtain ⟨N, hN⟩ : ∃ N, W.heap.size = N := ⟨_, rfl⟩
  obtain ⟨W1, hW1⟩ : ∃ x, x = W.alloc (.cells (n64s (List.replicate n 0#64)).toArray 43) := ⟨_, rfl⟩
  have hb1 : Blk W1 N 43 (n64s ((stepsL l).take 0 ++ List.replicate (n - 0) 0)) := by
    rw [hW1, ← hN]
    exact Blk.born W _ _
  have hbel1 : Below N W W1 := by rw [hW1, ← hN]; exact (Below.refl _ _).alloc (Nat.le_refl _) _
  have HL := Lib.hid hl
  have HN := Lib.hid hn2
  have HNN := Lib.hid hN
  have HLN := Lib.hid hln
  have HB1 := Lib.hid hb1
  have HE1 := Lib.hid hbel1
  have HW1 := Lib.hid hW1
  rw [hn2, hln, hN]
  rw [hln] at hn h0
  have hwr : IntKind.i64.wrap (((n + 1 : Nat) : Int) - 1) = (n : Int) := by rw [IntKind.wrap_i64]; omega
  clear hl hn2 hsl hb1 hbel1 hW1 hN hln
  go_enter Tryd.func72, Tryd.ntmps72
  go_wp2_with (first | (refine mk_pl22 rfl _ _ rfl n rfl rfl (by omega) ?_))
  rw [← HW1.out, HNN.out]
  go_loopw [12] (fun i wr => ∃ k : Nat, k ≤ n ∧ i = .int .i64 k ∧ Blk wr N 43 (n64s ((stepsL l).take k ++ List.replicate (n - k) 0)) ∧ Below N W wr) (fun i _ => n - (intOf i).toNat)
  case atStart => exact ⟨0, by omega, rfl, HB1.out, HE1.out⟩
  case round =>
    obtain ⟨k, hk, rfl, hblk, hbel⟩ := hrel
    have HBEL := Lib.hid hbel
    have HBLK := Lib.hid hblk
    by_cases hlt : k < n
    · have hk1 : k + 1 < l.length := by rw [HLN.out]; omega
      obtain ⟨b, o, rfl, hca⟩ := HL.out k (by omega)
      obtain ⟨b', o', e', hcb⟩ := HL.out (k + 1) hk1
      injection e' with e'
      injection e' with e1 e2
      subst e1 e2
      have hbN : b < N := by rw [← HNN.out]; exact World.block_lt_of_cell? W _ hca
      have hst := stepsL_take l k hk1
      have hca2 := (hbel.drew.cell (p := ⟨b, o + k, none⟩) hbN).trans hca
      have hcb2 := (hbel.drew.cell (p := ⟨b, o + (k + 1), none⟩) hbN).trans hcb
      have hdw := dif_64 (l[k]'(by omega)) l[k + 1]
      have hnat := stepW_nat (l[k]'(by omega)) l[k + 1]
      have hdef : dif (l[k]'(by omega)) l[k + 1] = IntKind.i64.wrap (l[k + 1] - l[k]'(by omega)) := rfl
      generalize l[k]'(by omega) = x at hca2 hst hdw hnat hdef
      generalize l[k + 1] = y at hcb2 hst hdw hnat hdef
      have hcell := (hblk.at_ k)
      have hfr := hblk.free k
      have hkl : k < (n64s ((stepsL l).take k ++ List.replicate (n - k) 0)).length := by
        rw [n64s_len, List.length_append, List.length_take, List.length_replicate, HN.out]; omega
      rw [List.getElem?_eq_getElem hkl] at hcell
      have hput := n64s_put ((stepsL l).take k) k n (stepW x y) (by rw [List.length_take, HN.out]; omega) hlt
      rw [← hst] at hput
      have HPUT := Lib.hid hput
      generalize (n64s ((stepsL l).take k ++ List.replicate (n - k) 0))[k] = old at hcell
      obtain ⟨d, hd⟩ : ∃ d, dif x y = d := ⟨_, rfl⟩
      rw [hd] at hdw hnat hdef
      obtain ⟨sw, hsw⟩ : ∃ sw, stepW x y = sw := ⟨_, rfl⟩
      rw [hsw] at hnat HPUT
      have hz := zig_wire d hdw.1 hdw.2
      have hZ : bits .xor .u64 (IntKind.u64.wrap (IntKind.u64.wrap d * 2)) (IntKind.u64.wrap (d / 9223372036854775808)) = (sw.toNat : Int) := by rw [hz, hnat]
      have HZ := Lib.hid hZ
      have HDEF := Lib.hid hdef
      have hd0 := hdw.1
      have hd1 := hdw.2
      have HK : Hid (k < n) := hlt
      clear hst hput hblk hbel hca hcb hd hsw hz hZ hnat hdef hdw hkl HB1 HE1 HW1 hk1
      go_upto_region 5 with (fail)
      refine wpB_start 11 (by kernel_rfl) rfl (fun R HR => ?_)
      refine wpB_take HR (i := 0) rfl (by decide +kernel) (by decide +kernel) (by decide +kernel) (fun _ _ _ h => h) (by rfl) (fun W hW => by rfl) ?_
      go_simp
      refine wpB_take HR (i := 1) rfl (by decide +kernel) (by decide +kernel) (by decide +kernel) (fun _ _ _ h => h) (by rfl) (fun W hW => by rfl) ?_
      go_simp
      refine wpB_take HR (i := 2) (v := .int .i64 ((k : Int) + 1)) rfl (by decide +kernel) (by decide +kernel) (by decide +kernel) (fun _ _ _ h => h) (by rfl) (fun W hW => by go_simp; exact IntWalk.i64_in _ ⟨by omega, by omega⟩) ?_
      go_simp
      refine wpB_take HR (i := 3) (v := .pointer (some ⟨b, o + (k + 1), none⟩)) rfl (by decide +kernel) (by decide +kernel) (by decide +kernel) (fun _ _ _ h => h) (by rfl) (fun W hW => by first | (go_simp; done) | (go_simp; intro hx; exact absurd hx (by omega)) | (go_simp; rw [if_pos ⟨by omega, by omega⟩]; done)) ?_
      go_simp
      refine wpB_take HR (i := 4) (v := .int .i64 y) rfl (by decide +kernel) (by decide +kernel) (by decide +kernel) (fun _ _ _ h => h) (by rfl) (fun W hW => by have q := cell_low hW hcb2; go_simp) ?_
      go_simp
      refine wpB_take HR (i := 5) rfl (by decide +kernel) (by decide +kernel) (by decide +kernel) (fun _ _ _ h => h) (by rfl) (fun W hW => by rfl) ?_
      go_simp
      refine wpB_take HR (i := 6) rfl (by decide +kernel) (by decide +kernel) (by decide +kernel) (fun _ _ _ h => h) (by rfl) (fun W hW => by rfl) ?_
      go_simp
      refine wpB_take HR (i := 7) (v := .pointer (some ⟨b, o + k, none⟩)) rfl (by decide +kernel) (by decide +kernel) (by decide +kernel) (fun _ _ _ h => h) (by rfl) (fun W hW => by first | (go_simp; done) | (go_simp; intro hx; exact absurd hx (by omega)) | (go_simp; rw [if_pos ⟨by omega, by omega⟩]; done)) ?_
      go_simp
      refine wpB_take HR (i := 8) (v := .int .i64 x) rfl (by decide +kernel) (by decide +kernel) (by decide +kernel) (fun _ _ _ h => h) (by rfl) (fun W hW => by have q := cell_low hW hca2; go_simp) ?_
      go_simp
      refine wpB_take HR (i := 9) (v := .int .i64 d) rfl (by decide +kernel) (by decide +kernel) (by decide +kernel) (fun _ _ _ h => h) (by rfl) (fun W hW => by go_simp; rw [HDEF.out]) ?_
      go_simp
      refine wpB_take HR (i := 10) rfl (by decide +kernel) (by decide +kernel) (by decide +kernel) (fun _ _ _ h => h) (by rfl) (fun W hW => by rfl) ?_
      go_simp
      refine wpB_done HR (by decide +kernel) ?_
      have hc2 : wr.drew.cell? ⟨N, k, none⟩ = some old := hcell
      have hf2 : wr.drew.frozen? ⟨N, k, none⟩ = false := hfr
      clear hca2 hcb2 hcell hfr
      have hnew : Blk (wr.setCell ⟨N, k, none⟩ (.int .u64 (sw.toNat : Int))) N 43 (n64s ((stepsL l).take (k + 1) ++ List.replicate (n - (k + 1)) 0)) := by rw [← HPUT.out]; exact HBLK.out.store k _
      have HNEW := Lib.hid hnew
      clear hnew
      go_wp2
      go_roundw
      case rel => exact ⟨k + 1, HK.out, by go_num, by rw [HZ.out]; exact HNEW.out, HBEL.out.drew.setCell (by simp) _⟩
      case measure => simp [intOf]; have := HK.out; omega
    · obtain rfl : k = n := by omega
      have hnum : Num wr (some ⟨N, 0, none⟩) (stepsL l) := by
        have hb2 := HBLK.out
        rw [Nat.sub_self, List.replicate_zero, List.append_nil, List.take_of_length_le (by rw [HN.out]; omega)] at hb2
        intro i hi
        refine ⟨N, 0, rfl, ?_⟩
        rw [Nat.zero_add, hb2.at_]
        simp [n64s, hi]
      have HNUM := Lib.hid hnum
      clear hnum
      go_wp2
      go_ret
      exact ⟨rfl, HNUM.out, HBEL.out⟩

theorem off_wire (m x : Int) : IntKind.u64.wrap (IntKind.u64.wrap x - IntKind.u64.wrap m) = ((offW m x).toNat : Int) := by
  rw [IntKind.wrap_u64, IntKind.wrap_u64, IntKind.wrap_u64]
  unfold offW
  rw [BitVec.toNat_ofInt]
  omega
set_option maxRecDepth 100000 in
set_option maxHeartbeats 4000000 in
theorem offs_any (A : Option Addr) (cap : Nat) (l : List Int) (W : World) (hl : Ints W A l) (hn : l.length ≤ 4096) (h0 : 0 < l.length) :
    Calls Tryd.prog 74 #[.slice A l.length cap] W fun e W' => e = .returned (.slice (some ⟨W.heap.size, 0, none⟩) (l.map (offW (minL l))).length (l.map (offW (minL l))).length) ∧ Num W' (some ⟨W.heap.size, 0, none⟩) (l.map (offW (minL l))) ∧ Below W.heap.size W W' := by
  have hmin := min_any A cap l W hl (by omega) h0
  obtain ⟨m, hm⟩ : ∃ m, minL l = m := ⟨_, rfl⟩
  rw [hm] at hmin ⊢
  obtain ⟨D, hD⟩ : ∃ D, l.map (offW m) = D := ⟨_, rfl⟩
  rw [hD]
  have hlD : D.length = l.length := by rw [← hD, List.length_map]
  obtain ⟨n, hn2⟩ : ∃ n, l.length = n := ⟨_, rfl⟩
  rw [hn2] at hlD hmin hn h0
  obtain ⟨N, hN⟩ : ∃ N, W.heap.size = N := ⟨_, rfl⟩
  obtain ⟨W1, hW1⟩ : ∃ x, x = W.alloc (.cells (n64s (List.replicate n 0#64)).toArray 43) := ⟨_, rfl⟩
  have hb1 : Blk W1 N 43 (n64s (D.take 0 ++ List.replicate (n - 0) 0)) := by
    rw [hW1, ← hN]
    exact Blk.born W _ _
  have hbel1 : Below N W W1 := by rw [hW1, ← hN]; exact (Below.refl _ _).alloc (Nat.le_refl _) _
  have HL := Lib.hid hl
  have HN := Lib.hid hn2
  have HD := Lib.hid hD
  have HLD := Lib.hid hlD
  have HNN := Lib.hid hN
  have HB1 := Lib.hid hb1
  have HE1 := Lib.hid hbel1
  have HW1 := Lib.hid hW1
  have HMIN := Lib.hid hmin
  rw [hlD, hN, hn2]
  clear hl hn2 hD hlD hb1 hbel1 hW1 hN hmin hm
  go_enter Tryd.func74, Tryd.ntmps74
  go_wp2_with (first | (go_at_call 73; refine HMIN.out.mono ?_; rintro e w1 ⟨rfl, rfl⟩; clear HMIN) | (refine mk_pl22 rfl _ _ rfl n rfl rfl (by omega) ?_))
  rw [← HW1.out, HNN.out]
  go_loopw [14] (fun i wr => ∃ k : Nat, k ≤ n ∧ i = .int .i64 k ∧ Blk wr N 43 (n64s (D.take k ++ List.replicate (n - k) 0)) ∧ Below N W wr) (fun i _ => n - (intOf i).toNat)
  case atStart => exact ⟨0, by omega, rfl, HB1.out, HE1.out⟩
  case round =>
    obtain ⟨k, hk, rfl, hblk, hbel⟩ := hrel
    have HBEL := Lib.hid hbel
    have HBLK := Lib.hid hblk
    by_cases hlt : k < n
    · have hk1 : k < l.length := by rw [HN.out]; exact hlt
      obtain ⟨b, o, rfl, hca⟩ := HL.out k hk1
      have hbN : b < N := by rw [← HNN.out]; exact World.block_lt_of_cell? W _ hca
      have hca2 := (hbel.cell (p := ⟨b, o + k, none⟩) hbN).trans hca
      have hst : D.take (k + 1) = D.take k ++ [offW m l[k]] := by
        rw [← HD.out, List.take_add_one, List.getElem?_map, List.getElem?_eq_getElem hk1]; rfl
      have hz := off_wire m l[k]
      generalize l[k] = x at hca2 hst hz
      have hcell := (hblk.at_ k)
      have hfr := hblk.free k
      have hkl : k < (n64s (D.take k ++ List.replicate (n - k) 0)).length := by
        rw [n64s_len, List.length_append, List.length_take, List.length_replicate, HLD.out]; omega
      rw [List.getElem?_eq_getElem hkl] at hcell
      have hput := n64s_put (D.take k) k n (offW m x) (by rw [List.length_take, HLD.out]; omega) hlt
      rw [← hst] at hput
      generalize (n64s (D.take k ++ List.replicate (n - k) 0))[k] = old at hcell
      obtain ⟨sw, hsw⟩ : ∃ sw, offW m x = sw := ⟨_, rfl⟩
      rw [hsw] at hput hz
      have hnew : Blk (wr.setCell ⟨N, k, none⟩ (.int .u64 (sw.toNat : Int))) N 43 (n64s (D.take (k + 1) ++ List.replicate (n - (k + 1)) 0)) := by rw [← hput]; exact hblk.store k _
      have HNEW := Lib.hid hnew
      have HZ := Lib.hid hz
      have HK : Hid (k < n) := hlt
      clear hst hput hblk hbel hca hsw hz hkl HB1 HE1 HW1 hk1 hnew
      go_wp2
      go_roundw
      case rel => exact ⟨k + 1, HK.out, by go_num, by first | (rw [HZ.out]; exact HNEW.out) | exact HNEW.out, HBEL.out.setCell (by simp) _⟩
      case measure => simp [intOf]; have := HK.out; omega
    · obtain rfl : k = n := by omega
      have hnum : Num wr (some ⟨N, 0, none⟩) D := by
        have hb2 := HBLK.out
        rw [Nat.sub_self, List.replicate_zero, List.append_nil, List.take_of_length_le (by rw [HLD.out]; omega)] at hb2
        intro i hi
        refine ⟨N, 0, rfl, ?_⟩
        rw [Nat.zero_add, hb2.at_]
        simp [n64s, hi]
      have HNUM := Lib.hid hnum
      clear hnum
      go_wp2
      go_ret
      exact ⟨rfl, HNUM.out, HBEL.out⟩
end Go.Proofs.YtfgmdaemcaamiaaDoor

/-! The walk of layPacked: with the first number and the steps, with the least one and the numbers held against it. -/
namespace Go.Proofs.YtfgmdaemcaamiaaDoor
open Go.RowKit
set_option linter.unusedVariables false

/-- What lies in a row of the call's own, behind an encoding. -/
def LaidI (W0 : World) (b : List UInt8) (e : Ending) (W' : World) : Prop := ∃ v, e = .returned (.tuple #[v, .int .i64 0]) ∧ Own W' W0.heap.size v b ∧ Below W0.heap.size W0 W'
theorem grown_blk {w w' : World} {row : Option Nat} (h : w.grownBy w' row) {X : Nat} {t : TypeId} {cs : List Value} (hb : Blk w X t cs) (hr : row ≠ some X) : Blk w' X t cs := (h.block X (lt_of_block hb) (Ne.symm hr)).trans hb
/-- Append of bytes onto a row of the call's own; where the row then lies. -/
theorem app_at {ops : Array Oper} {rest : List Oper} {o : Oper} {a : Act} {Q : Exit → Act → World → Prop} {w : World} (w0 : World) (hgd : o.guard = none) (s x : Operand)
    (ho : o.op = .call { callee := .builtin .append, args := #[s, x], argTypes := #[24, 24] }) (v : Value) (d : List UInt8) (hs : a.eval s = v) (hown : Own w w0.heap.size v d) (hbel : Below w0.heap.size w0 w)
    (A : Option Addr) (m c : Nat) (q : List UInt8) (hx : a.eval x = .slice A m c) (hm : m = q.length) (hq : Byt w A q) (hn : A = none → c = 0) (hsz : d.length + q.length ≤ 140737488355328)
    (h : ∀ v' w', Own w' w0.heap.size v' (d ++ q) → Below w0.heap.size w0 w' → w.grownBy w' v.ownBlock → (v'.ownBlock = v.ownBlock ∨ v'.ownBlock = some w.heap.size) → wpList Tryd.prog ops Q rest (a.put o.dst v') w') : wpList Tryd.prog ops Q (o :: rest) a w := by
  obtain ⟨i0, hti, hz0, hz1, hz2⟩ := info_parts Tryd.info5
  subst hm
  cases A with
  | none =>
    obtain rfl := hq.nil
    obtain rfl := hn rfl
    refine wpList_append_own_none hgd s x 24 ho w0.heap.size 5 i0 1 Tryd.underlying24 hti v d.length (u8s d) hs hown hx (h v w ?_ hbel (World.grownBy.refl w _) (.inl rfl))
    rw [List.append_nil]; exact hown
  | some ad =>
    refine wpList_append_own_at w hgd s x 24 ho w0.heap.size 5 i0 (.int .u8 0) 1 1 Tryd.underlying24 hti hz0 hz1 hz2 rfl (by decide) v d.length (u8s d) hs hown ad q.length c (u8s q) hx (by rw [u8s_len]; omega) hq.news (u8s_one q) (by unfold maxLen; omega) (by omega) hbel.size ?_
    intro v' w' h1 h2 h5 h6
    obtain ⟨h3, h4⟩ := own_step hbel hown h1 h2
    exact h v' w' h3 h4 h2 h6
theorem ne_at {v v' : Value} {w : World} {X : Nat} (h : v'.ownBlock = v.ownBlock ∨ v'.ownBlock = some w.heap.size) (hv : v.ownBlock ≠ some X) (hX : X < w.heap.size) : v'.ownBlock ≠ some X := by
  rcases h with h | h
  · rw [h]; exact hv
  · rw [h]; intro e; injection e with e; omega
theorem sgn_nil (m : Int) : ([] : List UInt8) ++ num (zig m) = sgn m := rfl

set_option maxRecDepth 100000 in
set_option maxHeartbeats 8000000 in
/-- layPacked, with the first number and the steps. -/
theorem lp_steps (Ab A : Option Addr) (cb cap : Nat) (b : List UInt8) (l : List Int) (W0 W : World) (hown : Own W W0.heap.size (.slice Ab b.length cb) b) (hbel : Below W0.heap.size W0 W) (hbl : b.length ≤ 1000) (hl : Ints W A l) (h64 : All64 l) (hn : l.length ≤ 4096) (h0 : l ≠ []) (hT : TabAt W) :
    Calls Tryd.prog 70 #[.slice Ab b.length cb, .slice A l.length cap, .func (.func 71) #[] #[], .func (.func 72) #[] #[]] W (LaidI W0 (b ++ (sgn (l.headD 0) ++ packD (stepsL l)))) := by
  have hpos : 0 < l.length := List.length_pos_iff.2 h0
  have hdl : (stepsL l).length ≤ 4096 := by cases l with | nil => exact absurd rfl h0 | cons a t => rw [stepsL_len]; rw [List.length_cons] at hn; omega
  have hbase : ∀ w1, Below W.heap.size W w1 → Calls Tryd.prog 71 #[.slice A l.length cap] w1 fun e w' => e = .returned (.int .i64 (l.headD 0)) ∧ w1 = w' := fun w1 h => by cases l with | nil => exact absurd rfl h0 | cons a t => exact first_any A cap a t w1 (hl.keep h) (by omega)
  have hdiff := steps_any A cap l W hl (by omega) hpos
  have hb64 : I64 (l.headD 0) := by cases l with | nil => exact absurd rfl h0 | cons a t => exact h64 a (by simp)
  have hsig := fun (w1 : World) => signed_any none 0 (l.headD 0) [] w1 (Byt.empty _ _) (fun _ => rfl) (by simp) hb64.1 hb64.2
  simp only [sgn_nil, List.length_nil] at hsig
  generalize l.headD 0 = m at *
  generalize stepsL l = d at *
  have hwl := widL_le d
  have hwid := fun w1 (h : Num w1 (some ⟨W.heap.size, 0, none⟩) d) => width_any (some ⟨W.heap.size, 0, none⟩) d.length d w1 h (by omega)
  have hpk : ∀ w1, Num w1 (some ⟨W.heap.size, 0, none⟩) d → Below W.heap.size W w1 → Calls Tryd.prog 19 #[.int .i64 (widL d : Int), .slice (some ⟨W.heap.size, 0, none⟩) d.length d.length] w1 fun e W' => e = .returned (.tuple #[.slice (some ⟨w1.heap.size, 0, none⟩) (pkB (widL d : Int) d).length (pkB (widL d : Int) d).length, .int .i64 0]) ∧ Blk W' w1.heap.size 5 (u8s (pkB (widL d : Int) d)) ∧ Below w1.heap.size w1 W' := fun w1 h h2 => by
    have hh := pack_good (widL d) (some ⟨W.heap.size, 0, none⟩) d.length d w1 h hwl hdl (Nat.le_refl _) (hT.keep h2)
    have e : pkB (widL d : Int) d = packL ((d.length * widL d + 7) / 8) (bitsP (widL d) d) := if_pos (pkE_zero.1 (packE_self hdl))
    rw [e, packL_len]
    exact hh
  have hps := pkB_small (w := (widL d : Int)) hdl (by omega)
  have hsl := sgn_len m
  have hcv : IntKind.u8.wrap ((widL d : Nat) : Int) = ((UInt8.ofNat (widL d)).toNat : Int) := by rw [IntKind.wrap_u8, UInt8.toNat_ofNat']; omega
  have hfin : b ++ (sgn m ++ packD d) = ((b ++ sgn m) ++ [UInt8.ofNat (widL d)]) ++ pkB (widL d : Int) d := by unfold packD; simp
  rw [hfin]
  obtain ⟨wc, hwc⟩ : ∃ wc, UInt8.ofNat (widL d) = wc := ⟨_, rfl⟩
  rw [hwc] at hcv ⊢
  generalize widL d = wd at *
  obtain ⟨pk, hpke⟩ : ∃ pk, pkB (wd : Int) d = pk := ⟨_, rfl⟩
  rw [hpke] at hpk hps ⊢
  obtain ⟨sg, hsge⟩ : ∃ sg, sgn m = sg := ⟨_, rfl⟩
  rw [hsge] at hsl hsig ⊢
  have HBASE := Lib.hid hbase
  have HDIFF := Lib.hid hdiff
  have HSIG := Lib.hid hsig
  have HWID := Lib.hid hwid
  have HPK := Lib.hid hpk
  have HCV := Lib.hid hcv
  have HOWN := Lib.hid hown
  have HBEL := Lib.hid hbel
  have HLEN : Hid (b.length ≤ 1000 ∧ sg.length ≤ 10 ∧ pk.length ≤ 32769) := ⟨hbl, hsl, hps⟩
  have hz : ¬ l.length = 0 := by omega
  have hWB : W0.heap.size ≤ W.heap.size := hbel.size
  have HWB := Lib.hid hWB
  clear hbase hdiff hsig hwid hpk hcv hown hbel hbl hsl hps hl h64 hT hdl hb64 hfin hwc hpke hsge hwl h0 hWB
  generalize l.length = n at *
  have hzi : ((n : Int) == 0) = false := by rw [beq_eq_false_iff_ne]; omega
  obtain ⟨bl, hble⟩ : ∃ bl, b.length = bl := ⟨_, rfl⟩
  have HBLE := Lib.hid hble
  obtain ⟨nd, hnd⟩ : ∃ nd, d.length = nd := ⟨_, rfl⟩
  rw [hnd] at HDIFF HWID HPK
  obtain ⟨np, hnp⟩ : ∃ np, pk.length = np := ⟨_, rfl⟩
  have HNP := Lib.hid hnp
  rw [hnp] at HPK
  rw [hble] at HOWN ⊢
  obtain ⟨b6, hb6⟩ : ∃ x, b ++ sg = x := ⟨_, rfl⟩
  rw [hb6]
  obtain ⟨b7, hb7⟩ : ∃ x, b6 ++ [wc] = x := ⟨_, rfl⟩
  rw [hb7]
  obtain ⟨b8, hb8⟩ : ∃ x, b7 ++ pk = x := ⟨_, rfl⟩
  rw [hb8]
  have hl6 : b6.length ≤ 1010 := by have := HLEN.out; rw [← hb6, List.length_append]; omega
  have hl7 : b7.length ≤ 1011 := by rw [← hb7, List.length_append]; simp; omega
  have HL6 := Lib.hid hl6
  have HL7 := Lib.hid hl7
  have HB6 := Lib.hid hb6
  have HB7 := Lib.hid hb7
  have HB8 := Lib.hid hb8
  obtain ⟨n6, hn6⟩ : ∃ x, b6.length = x := ⟨_, rfl⟩
  have HN6 := Lib.hid hn6
  obtain ⟨n7, hn7⟩ : ∃ x, b7.length = x := ⟨_, rfl⟩
  have HN7 := Lib.hid hn7
  clear hble hnd hnp hb6 hb7 hb8 hl6 hl7 hn6 hn7
  go_enter Tryd.func70, Tryd.ntmps70
  go_wp2_with (first | (go_at_call 72; refine HDIFF.out.mono ?_; rintro e w1 ⟨rfl, hnum, hb1⟩; have HNUM := Lib.hid hnum; have HB1 := Lib.hid hb1; clear HDIFF hnum hb1) | (go_at_call 38; refine (HWID.out _ HNUM.out).mono ?_; rintro e w2 ⟨rfl, rfl⟩; clear HWID) | (go_at_call 19; refine (HPK.out _ HNUM.out HB1.out).mono ?_; rintro e w3 ⟨rfl, y3, hb3⟩; have Y3 := Lib.hid y3; have HX := Lib.hid HB1.out.size; obtain ⟨X, hX⟩ : ∃ X, w2.heap.size = X := ⟨_, rfl⟩; rw [hX] at Y3 HX ⊢; have HB3 := Lib.hid (HB1.out.trans (hb3.mono HB1.out.size)); have O3 := Lib.hid (HOWN.out.below HB3.out); have HNX : Hid ((Value.slice Ab bl cb).ownBlock ≠ some X) := (fun e => by have h1 := (World.ownsRow.lt HOWN.out X e).2; have := HX.out; omega); have E3 := Lib.hid (HBEL.out.trans (HB3.out.mono HWB.out)); clear HPK y3 hb3 hX) | (go_at_call 71; refine (HBASE.out _ HB3.out).mono ?_; rintro e w4 ⟨rfl, rfl⟩; clear HBASE) | (go_at_call 68; refine (HSIG.out _).mono ?_; rintro e w5 ⟨v5, rfl, hown5, hb5⟩; obtain ⟨A5, c5, rfl, y5, n5, l5, _⟩ := hown5.form; have Y5 := Lib.hid y5; have N5 := Lib.hid n5; have Y35 := Lib.hid (Y3.out.below hb5 (lt_of_block Y3.out)); have O5 := Lib.hid (O3.out.below hb5); have E5 := Lib.hid (E3.out.trans (hb5.mono E3.out.size)); clear HSIG y5 n5 l5 hb5 hown5) | (refine app_at W0 rfl (.tmp 31) (.tmp 35) rfl (.slice Ab bl cb) b rfl O5.out E5.out A5 sg.length c5 sg rfl rfl Y5.out N5.out (by have := HLEN.out; omega) ?_; intro v6 w6 hown6 hbel6 hg6 hat6; rw [HB6.out] at hown6; have Y6 := Lib.hid (grown_blk hg6 Y35.out HNX.out); have NX6 : Hid (v6.ownBlock ≠ some X) := ne_at hat6 HNX.out (lt_of_block Y35.out); obtain ⟨A6, c6, rfl, _, _, _, _⟩ := hown6.form; rw [HN6.out] at hown6 NX6 ⊢; have O6 := Lib.hid hown6; have E6 := Lib.hid hbel6; clear hown6 hbel6 hg6 hat6) | (refine app_at W0 rfl (.tmp 37) (.tmp 40) rfl (.slice A6 n6 c6) b6 rfl (O6.out.alloc _) (E6.out.alloc E6.out.size _) (some ⟨w6.heap.size, 0, none⟩) 1 1 [wc] rfl rfl (byt_one w6 wc _ HCV.out) (by simp) (by have := HL6.out; simp; omega) ?_; intro v7 w7 hown7 hbel7 hg7 hat7; rw [HB7.out] at hown7; have Y7 := Lib.hid (grown_blk hg7 (Y6.out.later _) NX6.out); have NX7 : Hid (v7.ownBlock ≠ some X) := ne_at hat7 NX6.out (lt_of_block (Y6.out.later _)); obtain ⟨A7, c7, rfl, _, _, _, _⟩ := hown7.form; rw [HN7.out] at hown7 NX7 ⊢; have O7 := Lib.hid hown7; have E7 := Lib.hid hbel7; clear hown7 hbel7 hg7 hat7) | (refine app_at W0 rfl (.tmp 42) (.tmp 43) rfl (.slice A7 n7 c7) b7 rfl O7.out E7.out (some ⟨X, 0, none⟩) np np pk rfl HNP.out.symm Y7.out.byt (by simp) (by have := HLEN.out; have := HL7.out; omega) ?_; intro v8 w8 hown8 hbel8 _ _; rw [HB8.out] at hown8; have O8 := Lib.hid hown8; have E8 := Lib.hid hbel8; clear hown8 hbel8))
  go_ret2
  exact ⟨_, rfl, O8.out, E8.out⟩

set_option maxRecDepth 100000 in
set_option maxHeartbeats 8000000 in
/-- layPacked, with the least number and the numbers held against it. -/
theorem lp_frame (Ab A : Option Addr) (cb cap : Nat) (b : List UInt8) (l : List Int) (W0 W : World) (hown : Own W W0.heap.size (.slice Ab b.length cb) b) (hbel : Below W0.heap.size W0 W) (hbl : b.length ≤ 1000) (hl : Ints W A l) (h64 : All64 l) (hn : l.length ≤ 4096) (h0 : l ≠ []) (hT : TabAt W) :
    Calls Tryd.prog 70 #[.slice Ab b.length cb, .slice A l.length cap, .func (.func 73) #[] #[], .func (.func 74) #[] #[]] W (LaidI W0 (b ++ (sgn (minL l) ++ packD (l.map (offW (minL l)))))) := by
  have hpos : 0 < l.length := List.length_pos_iff.2 h0
  have hdl : (l.map (offW (minL l))).length ≤ 4096 := by rw [List.length_map]; exact hn
  have hbase : ∀ w1, Below W.heap.size W w1 → Calls Tryd.prog 73 #[.slice A l.length cap] w1 fun e w' => e = .returned (.int .i64 (minL l)) ∧ w1 = w' := fun w1 h => min_any A cap l w1 (hl.keep h) (by omega) hpos
  have hdiff := offs_any A cap l W hl (by omega) hpos
  have hb64 : I64 (minL l) := minL_64 h64 h0
  have hsig := fun (w1 : World) => signed_any none 0 (minL l) [] w1 (Byt.empty _ _) (fun _ => rfl) (by simp) hb64.1 hb64.2
  simp only [sgn_nil, List.length_nil] at hsig
  generalize minL l = m at *
  generalize l.map (offW m) = d at *
  have hwl := widL_le d
  have hwid := fun w1 (h : Num w1 (some ⟨W.heap.size, 0, none⟩) d) => width_any (some ⟨W.heap.size, 0, none⟩) d.length d w1 h (by omega)
  have hpk : ∀ w1, Num w1 (some ⟨W.heap.size, 0, none⟩) d → Below W.heap.size W w1 → Calls Tryd.prog 19 #[.int .i64 (widL d : Int), .slice (some ⟨W.heap.size, 0, none⟩) d.length d.length] w1 fun e W' => e = .returned (.tuple #[.slice (some ⟨w1.heap.size, 0, none⟩) (pkB (widL d : Int) d).length (pkB (widL d : Int) d).length, .int .i64 0]) ∧ Blk W' w1.heap.size 5 (u8s (pkB (widL d : Int) d)) ∧ Below w1.heap.size w1 W' := fun w1 h h2 => by
    have hh := pack_good (widL d) (some ⟨W.heap.size, 0, none⟩) d.length d w1 h hwl hdl (Nat.le_refl _) (hT.keep h2)
    have e : pkB (widL d : Int) d = packL ((d.length * widL d + 7) / 8) (bitsP (widL d) d) := if_pos (pkE_zero.1 (packE_self hdl))
    rw [e, packL_len]
    exact hh
  have hps := pkB_small (w := (widL d : Int)) hdl (by omega)
  have hsl := sgn_len m
  have hcv : IntKind.u8.wrap ((widL d : Nat) : Int) = ((UInt8.ofNat (widL d)).toNat : Int) := by rw [IntKind.wrap_u8, UInt8.toNat_ofNat']; omega
  have hfin : b ++ (sgn m ++ packD d) = ((b ++ sgn m) ++ [UInt8.ofNat (widL d)]) ++ pkB (widL d : Int) d := by unfold packD; simp
  rw [hfin]
  obtain ⟨wc, hwc⟩ : ∃ wc, UInt8.ofNat (widL d) = wc := ⟨_, rfl⟩
  rw [hwc] at hcv ⊢
  generalize widL d = wd at *
  obtain ⟨pk, hpke⟩ : ∃ pk, pkB (wd : Int) d = pk := ⟨_, rfl⟩
  rw [hpke] at hpk hps ⊢
  obtain ⟨sg, hsge⟩ : ∃ sg, sgn m = sg := ⟨_, rfl⟩
  rw [hsge] at hsl hsig ⊢
  have HBASE := Lib.hid hbase
  have HDIFF := Lib.hid hdiff
  have HSIG := Lib.hid hsig
  have HWID := Lib.hid hwid
  have HPK := Lib.hid hpk
  have HCV := Lib.hid hcv
  have HOWN := Lib.hid hown
  have HBEL := Lib.hid hbel
  have HLEN : Hid (b.length ≤ 1000 ∧ sg.length ≤ 10 ∧ pk.length ≤ 32769) := ⟨hbl, hsl, hps⟩
  have hz : ¬ l.length = 0 := by omega
  have hWB : W0.heap.size ≤ W.heap.size := hbel.size
  have HWB := Lib.hid hWB
  clear hbase hdiff hsig hwid hpk hcv hown hbel hbl hsl hps hl h64 hT hdl hb64 hfin hwc hpke hsge hwl h0 hWB
  generalize l.length = n at *
  have hzi : ((n : Int) == 0) = false := by rw [beq_eq_false_iff_ne]; omega
  obtain ⟨bl, hble⟩ : ∃ bl, b.length = bl := ⟨_, rfl⟩
  have HBLE := Lib.hid hble
  obtain ⟨nd, hnd⟩ : ∃ nd, d.length = nd := ⟨_, rfl⟩
  rw [hnd] at HDIFF HWID HPK
  obtain ⟨np, hnp⟩ : ∃ np, pk.length = np := ⟨_, rfl⟩
  have HNP := Lib.hid hnp
  rw [hnp] at HPK
  rw [hble] at HOWN ⊢
  obtain ⟨b6, hb6⟩ : ∃ x, b ++ sg = x := ⟨_, rfl⟩
  rw [hb6]
  obtain ⟨b7, hb7⟩ : ∃ x, b6 ++ [wc] = x := ⟨_, rfl⟩
  rw [hb7]
  obtain ⟨b8, hb8⟩ : ∃ x, b7 ++ pk = x := ⟨_, rfl⟩
  rw [hb8]
  have hl6 : b6.length ≤ 1010 := by have := HLEN.out; rw [← hb6, List.length_append]; omega
  have hl7 : b7.length ≤ 1011 := by rw [← hb7, List.length_append]; simp; omega
  have HL6 := Lib.hid hl6
  have HL7 := Lib.hid hl7
  have HB6 := Lib.hid hb6
  have HB7 := Lib.hid hb7
  have HB8 := Lib.hid hb8
  obtain ⟨n6, hn6⟩ : ∃ x, b6.length = x := ⟨_, rfl⟩
  have HN6 := Lib.hid hn6
  obtain ⟨n7, hn7⟩ : ∃ x, b7.length = x := ⟨_, rfl⟩
  have HN7 := Lib.hid hn7
  clear hble hnd hnp hb6 hb7 hb8 hl6 hl7 hn6 hn7
  go_enter Tryd.func70, Tryd.ntmps70
  go_wp2_with (first | (go_at_call 74; refine HDIFF.out.mono ?_; rintro e w1 ⟨rfl, hnum, hb1⟩; have HNUM := Lib.hid hnum; have HB1 := Lib.hid hb1; clear HDIFF hnum hb1) | (go_at_call 38; refine (HWID.out _ HNUM.out).mono ?_; rintro e w2 ⟨rfl, rfl⟩; clear HWID) | (go_at_call 19; refine (HPK.out _ HNUM.out HB1.out).mono ?_; rintro e w3 ⟨rfl, y3, hb3⟩; have Y3 := Lib.hid y3; have HX := Lib.hid HB1.out.size; obtain ⟨X, hX⟩ : ∃ X, w2.heap.size = X := ⟨_, rfl⟩; rw [hX] at Y3 HX ⊢; have HB3 := Lib.hid (HB1.out.trans (hb3.mono HB1.out.size)); have O3 := Lib.hid (HOWN.out.below HB3.out); have HNX : Hid ((Value.slice Ab bl cb).ownBlock ≠ some X) := (fun e => by have h1 := (World.ownsRow.lt HOWN.out X e).2; have := HX.out; omega); have E3 := Lib.hid (HBEL.out.trans (HB3.out.mono HWB.out)); clear HPK y3 hb3 hX) | (go_at_call 73; refine (HBASE.out _ HB3.out).mono ?_; rintro e w4 ⟨rfl, rfl⟩; clear HBASE) | (go_at_call 68; refine (HSIG.out _).mono ?_; rintro e w5 ⟨v5, rfl, hown5, hb5⟩; obtain ⟨A5, c5, rfl, y5, n5, l5, _⟩ := hown5.form; have Y5 := Lib.hid y5; have N5 := Lib.hid n5; have Y35 := Lib.hid (Y3.out.below hb5 (lt_of_block Y3.out)); have O5 := Lib.hid (O3.out.below hb5); have E5 := Lib.hid (E3.out.trans (hb5.mono E3.out.size)); clear HSIG y5 n5 l5 hb5 hown5) | (refine app_at W0 rfl (.tmp 31) (.tmp 35) rfl (.slice Ab bl cb) b rfl O5.out E5.out A5 sg.length c5 sg rfl rfl Y5.out N5.out (by have := HLEN.out; omega) ?_; intro v6 w6 hown6 hbel6 hg6 hat6; rw [HB6.out] at hown6; have Y6 := Lib.hid (grown_blk hg6 Y35.out HNX.out); have NX6 : Hid (v6.ownBlock ≠ some X) := ne_at hat6 HNX.out (lt_of_block Y35.out); obtain ⟨A6, c6, rfl, _, _, _, _⟩ := hown6.form; rw [HN6.out] at hown6 NX6 ⊢; have O6 := Lib.hid hown6; have E6 := Lib.hid hbel6; clear hown6 hbel6 hg6 hat6) | (refine app_at W0 rfl (.tmp 37) (.tmp 40) rfl (.slice A6 n6 c6) b6 rfl (O6.out.alloc _) (E6.out.alloc E6.out.size _) (some ⟨w6.heap.size, 0, none⟩) 1 1 [wc] rfl rfl (byt_one w6 wc _ HCV.out) (by simp) (by have := HL6.out; simp; omega) ?_; intro v7 w7 hown7 hbel7 hg7 hat7; rw [HB7.out] at hown7; have Y7 := Lib.hid (grown_blk hg7 (Y6.out.later _) NX6.out); have NX7 : Hid (v7.ownBlock ≠ some X) := ne_at hat7 NX6.out (lt_of_block (Y6.out.later _)); obtain ⟨A7, c7, rfl, _, _, _, _⟩ := hown7.form; rw [HN7.out] at hown7 NX7 ⊢; have O7 := Lib.hid hown7; have E7 := Lib.hid hbel7; clear hown7 hbel7 hg7 hat7) | (refine app_at W0 rfl (.tmp 42) (.tmp 43) rfl (.slice A7 n7 c7) b7 rfl O7.out E7.out (some ⟨X, 0, none⟩) np np pk rfl HNP.out.symm Y7.out.byt (by simp) (by have := HLEN.out; have := HL7.out; omega) ?_; intro v8 w8 hown8 hbel8 _ _; rw [HB8.out] at hown8; have O8 := Lib.hid hown8; have E8 := Lib.hid hbel8; clear hown8 hbel8))
  go_ret2
  exact ⟨_, rfl, O8.out, E8.out⟩
end Go.Proofs.YtfgmdaemcaamiaaDoor

/-! The walk of ints.Encode: what is refused, and the plain form. -/
namespace Go.Proofs.YtfgmdaemcaamiaaDoor
open Go.RowKit
set_option linter.unusedVariables false

theorem own_ne {w : World} {B g : Nat} {t : TypeId} {cs : List Value} {v : Value} {l : List UInt8} (h : Own w B v l) (hb : Blk w g t cs) (ht : t ≠ 5) : v.ownBlock ≠ some g := by
  intro e
  rcases h.2 with ⟨rfl, _⟩ | ⟨k, cap, cur, rfl, _, hk, _⟩
  · simp [Value.ownBlock] at e
  · have : k = g := by simpa [Value.ownBlock] using e
    subst this
    unfold Blk at hb
    rw [hk] at hb
    injection hb with hb
    injection hb with _ h2 _
    exact ht h2.symm
theorem own_store {w : World} {B g i : Nat} {t : TypeId} {cs : List Value} {v : Value} {l : List UInt8} (h : Own w B v l) (hb : Blk w g t cs) (ht : t ≠ 5) (u : Value) : Own (w.setCell ⟨g, i, none⟩ u) B v l := by
  have hne := own_ne h hb ht
  refine ⟨h.1, ?_⟩
  rcases h.2 with hn | ⟨k, cap, cur, rfl, hk, hg, rest⟩
  · exact .inl hn
  · refine .inr ⟨k, cap, cur, rfl, hk, ?_, rest⟩
    have : k ≠ g := fun e => hne (by rw [← e]; rfl)
    rw [← hg]
    simp [World.setCell, Array.getElem?_modify, Ne.symm this]

set_option maxHeartbeats 2000000 in
theorem enc_bad (f : Int) (A : Option Addr) (cap n : Nat) (W : World) (hn : n ≤ 4611686018427387904) (h : f < 0 ∨ 4 ≤ f ∨ 4096 < n) :
    Calls Tryd.prog 43 #[.int .i64 f, .slice A n cap] W fun e W' => e = .returned (.tuple #[.slice none 0 0, .int .i64 2]) ∧ W = W' := by
  by_cases h1 : f < 0
  · go_enter Tryd.func43, Tryd.ntmps43
    go_wp2
    go_ret2
    exact ⟨rfl, rfl⟩
  · by_cases h2 : 4 ≤ f
    · go_enter Tryd.func43, Tryd.ntmps43
      go_wp2
      go_ret2
      exact ⟨rfl, rfl⟩
    · have h3 : (4096 : Int) < (n : Int) := by omega
      clear h
      go_enter Tryd.func43, Tryd.ntmps43
      go_wp2
      go_ret2
      exact ⟨rfl, rfl⟩
theorem own_one (w : World) (c : UInt8) : Own (w.alloc (.cells #[Value.int .u8 (c.toNat : Int)] 5)) w.heap.size (.slice (some ⟨w.heap.size, 0, none⟩) 1 1) [c] := by
  refine ⟨rfl, .inr ⟨w.heap.size, 1, #[Value.int .u8 (c.toNat : Int)], rfl, Nat.le_refl _, heap_alloc_new w _, Nat.le_refl _, by unfold maxLen; omega, rfl, rfl⟩⟩
theorem blk_two (w : World) (o : Obj) (t : TypeId) (cs : List Value) : Blk ((w.alloc o).alloc (.cells cs.toArray t)) (w.heap.size + 1) t cs := by
  have := Blk.born (w.alloc o) t cs
  have e : (w.alloc o).heap.size = w.heap.size + 1 := by simp
  rwa [e] at this

set_option maxRecDepth 100000 in
set_option maxHeartbeats 8000000 in
/-- The plain form. -/
theorem enc0_any (A : Option Addr) (cap : Nat) (l : List Int) (W : World) (hl : Ints W A l) (h64 : All64 l) (hn : l.length ≤ 4096) :
    Calls Tryd.prog 43 #[.int .i64 0, .slice A l.length cap] W (LaidI W (encI 0 l)) := by
  obtain ⟨DD, hDD⟩ : ∃ DD : Nat → List UInt8, DD = fun k => [0] ++ (l.take k).flatMap sgn := ⟨_, rfl⟩
  have hfin : encI 0 l = DD l.length := by rw [hDD]; simp only [List.take_length]; rfl
  have hd0 : [(0 : UInt8)] = DD 0 := by rw [hDD]; simp
  have hst : ∀ k (h : k < l.length), DD (k + 1) = DD k ++ sgn l[k] := fun k h => by
    rw [hDD]; simp only [List.take_succ_eq_append_getElem h, List.flatMap_append, List.flatMap_cons, List.flatMap_nil, List.append_nil, List.append_assoc]
  have hdl : ∀ k, k ≤ l.length → (DD k).length ≤ 100001 := fun k hk => by
    have := encB_len (f := 0) (l := l.take k) (by rw [List.length_take]; omega)
    rw [hDD]
    simp only [List.length_append, List.length_cons, List.length_nil]
    have e : encB 0 (l.take k) = (l.take k).flatMap sgn := rfl
    rw [e] at this
    omega
  rw [hfin]
  clear hDD hfin
  obtain ⟨W1, hW1⟩ : ∃ x, x = (W.alloc (.cells #[Value.int .u8 0] 5)).alloc (.cells #[Value.slice (some ⟨W.heap.size, 0, none⟩) 1 1] 24) := ⟨_, rfl⟩
  have hbx : Blk W1 (W.heap.size + 1) 24 [Value.slice (some ⟨W.heap.size, 0, none⟩) 1 1] := by rw [hW1]; exact blk_two W _ _ _
  have how : Own W1 W.heap.size (.slice (some ⟨W.heap.size, 0, none⟩) 1 1) (DD 0) := by
    rw [hW1, ← hd0]
    exact World.ownsRow.alloc (own_one W 0) _
  have hbe : Below W.heap.size W W1 := by rw [hW1]; exact ((Below.refl _ _).alloc (Nat.le_refl _) _).alloc (by simp) _
  have HBX := Lib.hid hbx
  have HOW := Lib.hid how
  have HBE := Lib.hid hbe
  have HW1 := Lib.hid hW1
  have HL := Lib.hid hl
  have H64 := Lib.hid h64
  have HSTEP := Lib.hid hst
  have HDL := Lib.hid hdl
  obtain ⟨n, hln⟩ : ∃ n, l.length = n := ⟨_, rfl⟩
  have HLN := Lib.hid hln
  have hgt : ¬ (4096 : Int) < (n : Int) := by omega
  rw [hln]
  clear hd0 hst hdl hW1 hbx how hbe hl h64 hln
  go_enter Tryd.func43, Tryd.ntmps43
  go_wp2
  rw [← HW1.out]
  go_loopw [30] (fun x30 wr => ∃ k : Nat, k ≤ n ∧ x30 = .int .i64 k ∧ ∃ v, Blk wr (W.heap.size + 1) 24 [v] ∧ Own wr W.heap.size v (DD k) ∧ Below W.heap.size W wr) (fun x _ => n - (intOf x).toNat)
  case atStart => exact ⟨0, by omega, rfl, _, HBX.out, HOW.out, HBE.out⟩
  case round =>
    obtain ⟨k, hk, rfl, v, hbox, hown, hbel⟩ := hrel
    obtain ⟨Ab, cb, rfl, _, _, _, _⟩ := hown.form
    obtain ⟨bb, hbb⟩ : ∃ bb, DD k = bb := ⟨_, rfl⟩
    rw [hbb] at hown hbox
    obtain ⟨nb, hnb⟩ : ∃ nb, bb.length = nb := ⟨_, rfl⟩
    rw [hnb] at hown hbox
    have HBOX := Lib.hid hbox
    have HOWN := Lib.hid hown
    have HBEL := Lib.hid hbel
    have hNW : W.heap.size ≤ W.heap.size + 1 := by omega
    have HNW := Lib.hid hNW
    by_cases hlt : k < n
    · have hk1 : k < l.length := by rw [HLN.out]; exact hlt
      obtain ⟨b, o, rfl, hca⟩ := HL.out k hk1
      have hbN : b < W.heap.size := World.block_lt_of_cell? W _ hca
      have hcell := (hbel.cell (p := ⟨b, o + k, none⟩) hbN).trans hca
      have hs := HSTEP.out k hk1
      have hx64 := H64.out _ (List.getElem_mem hk1)
      generalize l[k] = x at hcell hs hx64
      rw [hbb] at hs
      have HST := Lib.hid hs
      have hsig := fun (w1 : World) => signed_any none 0 x [] w1 (Byt.empty _ _) (fun _ => rfl) (by simp) hx64.1 hx64.2
      simp only [sgn_nil, List.length_nil] at hsig
      have hsl := sgn_len x
      have hbl : bb.length ≤ 100001 := by rw [← hbb]; exact HDL.out k (by omega)
      obtain ⟨sg, hsg⟩ : ∃ sg, sgn x = sg := ⟨_, rfl⟩
      rw [hsg] at hsig HST hsl
      obtain ⟨m5, hm5⟩ : ∃ m5, sg.length = m5 := ⟨_, rfl⟩
      have HM5 := Lib.hid hm5
      have HSIG := Lib.hid hsig
      have HLEN : Hid (bb.length + sg.length ≤ 140737488355328) := by show _ ≤ _; omega
      have HK : Hid (k < n) := hlt
      have hcb : wr.cell? ⟨W.heap.size + 1, 0, none⟩ = some (.slice Ab nb cb) := (hbox.at_ 0).trans rfl
      have hcb2 : wr.drew.cell? ⟨W.heap.size + 1, 0, none⟩ = some (.slice Ab nb cb) := hcb
      clear hs hsig hsl hbl hsg hm5 hbox hown hbel hbb hnb hca hNW hk1
      go_upto_region 9 with (fail)
      clear hcb hcell
      refine wpS_start (fun _ => True) 5 (by kernel_rfl) rfl (fun RG HR => ?_)
      refine wpS_take HR (i := 1) (v := .int .i64 x) rfl (by decide +kernel) (by decide +kernel) (by decide +kernel) (fun _ _ _ h => h) (by rfl) trivial (fun W hW => by go_simp) ?_
      go_simp
      refine wpS_step2 HR (i := 0) (k := 2) (by decide +kernel) ?_ ?_
      · refine stepS_val HR (v := .slice Ab nb cb) rfl (by rfl) (by go_simp) trivial ?_
        go_simp
        refine wpS_step1 HR (i := 2) (by decide +kernel) ?_
        refine stepS_call HR rfl (by rfl) (by go_simp; exact ⟨rfl, rfl⟩) ?_
        refine (HSIG.out _).mono ?_
        rintro e w5 ⟨v5, rfl, hown5, hb5⟩
        obtain ⟨A5, c5, rfl, y5, n5, _, _⟩ := hown5.form
        have Y5 := Lib.hid y5
        have N5 := Lib.hid n5
        have O5 : Hid (Own w5 W.heap.size (.slice Ab nb cb) bb) := HOWN.out.below (w := wr.drew) hb5
        have E5 : Hid (Below W.heap.size W w5) := HBEL.out.drew.trans (hb5.mono (by exact HBEL.out.size))
        have X5 : Hid (Blk w5 (W.heap.size + 1) 24 [Value.slice Ab nb cb]) := Blk.below (w := wr.drew) HBOX.out hb5 (lt_of_block HBOX.out)
        have hc5 : w5.cell? ⟨W.heap.size + 1, 0, none⟩ = some (.slice Ab nb cb) := (X5.out.at_ 0).trans rfl
        rw [HM5.out]
        clear y5 n5 hown5 hb5
        refine ⟨_, rfl, trivial, ?_⟩
        go_simp
        refine wpS_step1 HR (i := 3) (by decide +kernel) ?_
        refine stepS_list HR rfl rfl ?_
        intro K hK
        refine app_at W rfl _ _ rfl (.slice Ab nb cb) bb rfl O5.out E5.out A5 m5 c5 sg rfl HM5.out.symm Y5.out N5.out HLEN.out ?_
        intro v6 w6 hown6 hbel6 hg6 hat6
        obtain ⟨A6, c6, rfl, _, _, _, _⟩ := hown6.form
        obtain ⟨n6, hn6⟩ : ∃ n6, (bb ++ sg).length = n6 := ⟨_, rfl⟩
        rw [hn6] at hown6 ⊢
        clear hn6
        have hx6 : Blk w6 (W.heap.size + 1) 24 [Value.slice Ab nb cb] := grown_blk hg6 X5.out (own_ne O5.out X5.out (by decide))
        have hc6 : w6.cell? ⟨W.heap.size + 1, 0, none⟩ = some (.slice Ab nb cb) := (hx6.at_ 0).trans rfl
        have hf6 : w6.frozen? ⟨W.heap.size + 1, 0, none⟩ = false := hx6.free 0
        have O6 := Lib.hid hown6
        have E6 := Lib.hid hbel6
        have X6 := Lib.hid hx6
        refine wpList_nil (hK _ _ trivial ?_)
        clear hK K hown6 hbel6 hg6 hat6 hx6
        go_simp
        refine wpS_step1 HR (i := 4) (by decide +kernel) ?_
        refine stepS_list HR rfl rfl ?_
        intro K hK
        go_wp2
        refine hK _ _ trivial ?_
        clear hK K
        refine wpS_done HR (by decide +kernel) ?_
        have X7 : Hid (Blk (w6.setCell ⟨(W.heap.size + 1), 0, none⟩ (.slice A6 n6 c6)) (W.heap.size + 1) 24 [.slice A6 n6 c6]) := X6.out.store 0 _
        have O7 : Hid (Own (w6.setCell ⟨(W.heap.size + 1), 0, none⟩ (.slice A6 n6 c6)) W.heap.size (.slice A6 n6 c6) (bb ++ sg)) := own_store O6.out X6.out (by decide) _
        have E7 : Hid (Below W.heap.size W (w6.setCell ⟨(W.heap.size + 1), 0, none⟩ (.slice A6 n6 c6))) := E6.out.setCell (by exact HNW.out) _
        clear hc6 hf6 O6 E6 X6
        clear hc5
        go_wp2
        go_roundw
        case rel => exact ⟨k + 1, HK.out, by go_num, _, X7.out, by rw [HST.out]; exact O7.out, E7.out⟩
        case measure => simp [intOf]; have := HK.out; omega
      · refine stepS_call HR rfl (by rfl) (by go_simp; exact ⟨rfl, rfl⟩) ?_
        refine (HSIG.out _).mono ?_
        rintro e w5 ⟨v5, rfl, hown5, hb5⟩
        obtain ⟨A5, c5, rfl, y5, n5, _, _⟩ := hown5.form
        have Y5 := Lib.hid y5
        have N5 := Lib.hid n5
        have O5 : Hid (Own w5 W.heap.size (.slice Ab nb cb) bb) := HOWN.out.below (w := wr.drew) hb5
        have E5 : Hid (Below W.heap.size W w5) := HBEL.out.drew.trans (hb5.mono (by exact HBEL.out.size))
        have X5 : Hid (Blk w5 (W.heap.size + 1) 24 [Value.slice Ab nb cb]) := Blk.below (w := wr.drew) HBOX.out hb5 (lt_of_block HBOX.out)
        have hc5 : w5.cell? ⟨W.heap.size + 1, 0, none⟩ = some (.slice Ab nb cb) := (X5.out.at_ 0).trans rfl
        rw [HM5.out]
        clear y5 n5 hown5 hb5
        refine ⟨_, rfl, trivial, ?_⟩
        go_simp
        refine wpS_step1 HR (i := 0) (by decide +kernel) ?_
        refine stepS_val HR (v := .slice Ab nb cb) rfl (by rfl) (by go_simp) trivial ?_
        go_simp
        refine wpS_step1 HR (i := 3) (by decide +kernel) ?_
        refine stepS_list HR rfl rfl ?_
        intro K hK
        refine app_at W rfl _ _ rfl (.slice Ab nb cb) bb rfl O5.out E5.out A5 m5 c5 sg rfl HM5.out.symm Y5.out N5.out HLEN.out ?_
        intro v6 w6 hown6 hbel6 hg6 hat6
        obtain ⟨A6, c6, rfl, _, _, _, _⟩ := hown6.form
        obtain ⟨n6, hn6⟩ : ∃ n6, (bb ++ sg).length = n6 := ⟨_, rfl⟩
        rw [hn6] at hown6 ⊢
        clear hn6
        have hx6 : Blk w6 (W.heap.size + 1) 24 [Value.slice Ab nb cb] := grown_blk hg6 X5.out (own_ne O5.out X5.out (by decide))
        have hc6 : w6.cell? ⟨W.heap.size + 1, 0, none⟩ = some (.slice Ab nb cb) := (hx6.at_ 0).trans rfl
        have hf6 : w6.frozen? ⟨W.heap.size + 1, 0, none⟩ = false := hx6.free 0
        have O6 := Lib.hid hown6
        have E6 := Lib.hid hbel6
        have X6 := Lib.hid hx6
        refine wpList_nil (hK _ _ trivial ?_)
        clear hK K hown6 hbel6 hg6 hat6 hx6
        go_simp
        refine wpS_step1 HR (i := 4) (by decide +kernel) ?_
        refine stepS_list HR rfl rfl ?_
        intro K hK
        go_wp2
        refine hK _ _ trivial ?_
        clear hK K
        refine wpS_done HR (by decide +kernel) ?_
        have X7 : Hid (Blk (w6.setCell ⟨(W.heap.size + 1), 0, none⟩ (.slice A6 n6 c6)) (W.heap.size + 1) 24 [.slice A6 n6 c6]) := X6.out.store 0 _
        have O7 : Hid (Own (w6.setCell ⟨(W.heap.size + 1), 0, none⟩ (.slice A6 n6 c6)) W.heap.size (.slice A6 n6 c6) (bb ++ sg)) := own_store O6.out X6.out (by decide) _
        have E7 : Hid (Below W.heap.size W (w6.setCell ⟨(W.heap.size + 1), 0, none⟩ (.slice A6 n6 c6))) := E6.out.setCell (by exact HNW.out) _
        clear hc6 hf6 O6 E6 X6
        clear hc5
        go_wp2
        go_roundw
        case rel => exact ⟨k + 1, HK.out, by go_num, _, X7.out, by rw [HST.out]; exact O7.out, E7.out⟩
        case measure => simp [intOf]; have := HK.out; omega
    · obtain rfl : k = n := by omega
      have hcb : wr.cell? ⟨W.heap.size + 1, 0, none⟩ = some (.slice Ab nb cb) := (hbox.at_ 0).trans rfl
      have hfin : Own wr W.heap.size (.slice Ab nb cb) (DD k) := by rw [hbb]; exact hown
      have HFIN := Lib.hid hfin
      clear hfin hbox hown hbel hbb hnb hNW
      go_wp2
      go_ret2
      exact ⟨_, rfl, HFIN.out, HBEL.out⟩
end Go.Proofs.YtfgmdaemcaamiaaDoor

/-! The walk of ints.Encode: the forms that are packed. -/
namespace Go.Proofs.YtfgmdaemcaamiaaDoor
open Go.RowKit
set_option linter.unusedVariables false

set_option maxHeartbeats 2000000 in
theorem lp_none (Ab A : Option Addr) (cb cap nb fb fd : Nat) (b : List UInt8) (W0 W : World) (hnb : b.length = nb) (hown : Own W W0.heap.size (.slice Ab nb cb) b) (hbel : Below W0.heap.size W0 W) :
    Calls Tryd.prog 70 #[.slice Ab nb cb, .slice A 0 cap, .func (.func fb) #[] #[], .func (.func fd) #[] #[]] W (LaidI W0 b) := by
  have HOWN := Lib.hid hown
  have HBEL := Lib.hid hbel
  clear hown hbel hnb
  go_enter Tryd.func70, Tryd.ntmps70
  go_wp2
  go_ret2
  exact ⟨_, rfl, HOWN.out, HBEL.out⟩

set_option maxRecDepth 100000 in
set_option maxHeartbeats 4000000 in
theorem enc2_any (A : Option Addr) (cap : Nat) (l : List Int) (W : World) (hl : Ints W A l) (h64 : All64 l) (hn : l.length ≤ 4096) (hT : TabAt W) :
    Calls Tryd.prog 43 #[.int .i64 2, .slice A l.length cap] W (LaidI W (encI 2 l)) := by
  obtain ⟨W1, hW1⟩ : ∃ x, x = (W.alloc (.cells #[Value.int .u8 2] 5)).alloc (.cells #[Value.slice (some ⟨W.heap.size, 0, none⟩) 1 1] 24) := ⟨_, rfl⟩
  have hbx : Blk W1 (W.heap.size + 1) 24 [Value.slice (some ⟨W.heap.size, 0, none⟩) 1 1] := by rw [hW1]; exact blk_two W _ _ _
  have how : Own W1 W.heap.size (.slice (some ⟨W.heap.size, 0, none⟩) 1 1) [2] := by
    rw [hW1]
    exact World.ownsRow.alloc (own_one W 2) _
  have hbe : Below W.heap.size W W1 := by rw [hW1]; exact ((Below.refl _ _).alloc (Nat.le_refl _) _).alloc (by simp) _
  have hcall : Calls Tryd.prog 70 #[.slice (some ⟨W.heap.size, 0, none⟩) 1 1, .slice A l.length cap, .func (.func 71) #[] #[], .func (.func 72) #[] #[]] W1 (LaidI W (encI 2 l)) := by
    by_cases h0 : l = []
    · subst h0
      exact lp_none _ A 1 cap 1 _ _ [2] W W1 rfl how hbe
    · have := lp_steps (some ⟨W.heap.size, 0, none⟩) A 1 cap [2] l W W1 how hbe (by simp) (hl.keep hbe) h64 hn h0 (hT.keep hbe)
      have e : encI 2 l = [2] ++ (sgn (l.headD 0) ++ packD (stepsL l)) := by
        cases l with
        | nil => exact absurd rfl h0
        | cons a t => rfl
      rw [e]
      exact this
  have hc : W1.cell? ⟨W.heap.size + 1, 0, none⟩ = some (.slice (some ⟨W.heap.size, 0, none⟩) 1 1) := (hbx.at_ 0).trans rfl
  unfold LaidI at hcall ⊢
  have HCALL := Lib.hid hcall
  have HW1 := Lib.hid hW1
  generalize l.length = n at *
  have hgt : ¬ (4096 : Int) < (n : Int) := by omega
  clear hcall hW1 hbx how hbe hl h64 hT
  go_enter Tryd.func43, Tryd.ntmps43
  go_wp2_with (first | (rw [← HW1.out]; go_at_call 70; refine HCALL.out.mono ?_; rintro e w2 ⟨v2, rfl, hown, hb⟩; obtain ⟨A2, c2, rfl, _, _, _, _⟩ := hown.form; have O2 := Lib.hid hown; have B2 := Lib.hid hb; clear hown hb HCALL))
  go_ret2
  exact ⟨_, rfl, O2.out, B2.out⟩

set_option maxRecDepth 100000 in
set_option maxHeartbeats 4000000 in
theorem enc3_any (A : Option Addr) (cap : Nat) (l : List Int) (W : World) (hl : Ints W A l) (h64 : All64 l) (hn : l.length ≤ 4096) (hT : TabAt W) :
    Calls Tryd.prog 43 #[.int .i64 3, .slice A l.length cap] W (LaidI W (encI 3 l)) := by
  obtain ⟨W1, hW1⟩ : ∃ x, x = (W.alloc (.cells #[Value.int .u8 3] 5)).alloc (.cells #[Value.slice (some ⟨W.heap.size, 0, none⟩) 1 1] 24) := ⟨_, rfl⟩
  have hbx : Blk W1 (W.heap.size + 1) 24 [Value.slice (some ⟨W.heap.size, 0, none⟩) 1 1] := by rw [hW1]; exact blk_two W _ _ _
  have how : Own W1 W.heap.size (.slice (some ⟨W.heap.size, 0, none⟩) 1 1) [3] := by
    rw [hW1]
    exact World.ownsRow.alloc (own_one W 3) _
  have hbe : Below W.heap.size W W1 := by rw [hW1]; exact ((Below.refl _ _).alloc (Nat.le_refl _) _).alloc (by simp) _
  have hcall : Calls Tryd.prog 70 #[.slice (some ⟨W.heap.size, 0, none⟩) 1 1, .slice A l.length cap, .func (.func 73) #[] #[], .func (.func 74) #[] #[]] W1 (LaidI W (encI 3 l)) := by
    by_cases h0 : l = []
    · subst h0
      exact lp_none _ A 1 cap 1 _ _ [3] W W1 rfl how hbe
    · have := lp_frame (some ⟨W.heap.size, 0, none⟩) A 1 cap [3] l W W1 how hbe (by simp) (hl.keep hbe) h64 hn h0 (hT.keep hbe)
      have e : encI 3 l = [3] ++ (sgn (minL l) ++ packD (l.map (offW (minL l)))) := by
        cases l with
        | nil => exact absurd rfl h0
        | cons a t => rfl
      rw [e]
      exact this
  have hc : W1.cell? ⟨W.heap.size + 1, 0, none⟩ = some (.slice (some ⟨W.heap.size, 0, none⟩) 1 1) := (hbx.at_ 0).trans rfl
  unfold LaidI at hcall ⊢
  have HCALL := Lib.hid hcall
  have HW1 := Lib.hid hW1
  generalize l.length = n at *
  have hgt : ¬ (4096 : Int) < (n : Int) := by omega
  clear hcall hW1 hbx how hbe hl h64 hT
  go_enter Tryd.func43, Tryd.ntmps43
  go_wp2_with (first | (rw [← HW1.out]; go_at_call 70; refine HCALL.out.mono ?_; rintro e w2 ⟨v2, rfl, hown, hb⟩; obtain ⟨A2, c2, rfl, _, _, _, _⟩ := hown.form; have O2 := Lib.hid hown; have B2 := Lib.hid hb; clear hown hb HCALL))
  go_ret2
  exact ⟨_, rfl, O2.out, B2.out⟩
end Go.Proofs.YtfgmdaemcaamiaaDoor

/-! The first number of a list that differs from its head (slices.IndexFunc with runsOf's closure). -/
namespace Go.Proofs.YtfgmdaemcaamiaaDoor
open Go.RowKit
set_option linter.unusedVariables false

/-- How many numbers at a list's front are x. -/
def runLen (x : Int) : List Int → Nat
  | [] => 0
  | y :: t => if y = x then runLen x t + 1 else 0
theorem runLen_le (x : Int) : ∀ l : List Int, runLen x l ≤ l.length
  | [] => Nat.le_refl _
  | y :: t => by
    rw [runLen]
    have := runLen_le x t
    split <;> simp <;> omega
theorem runLen_split (x : Int) : ∀ l : List Int, l = List.replicate (runLen x l) x ++ l.drop (runLen x l) ∧ (l.drop (runLen x l)).head? ≠ some x
  | [] => ⟨rfl, by simp [runLen]⟩
  | y :: t => by
    rw [runLen]
    by_cases h : y = x
    · subst h
      obtain ⟨h1, h2⟩ := runLen_split y t
      rw [if_pos rfl, List.replicate_succ, List.drop_succ_cons]
      exact ⟨by rw [List.cons_append, ← h1], h2⟩
    · rw [if_neg h]
      exact ⟨rfl, by simpa using h⟩
theorem runLen_pos (x : Int) (t : List Int) : 1 ≤ runLen x (x :: t) := by rw [runLen, if_pos rfl]; omega
/-- A list's first run, and the others. -/
theorem runsL_step (x : Int) (t : List Int) : runsL (x :: t) = (runLen x (x :: t), x) :: runsL ((x :: t).drop (runLen x (x :: t))) := by
  obtain ⟨h1, h2⟩ := runLen_split x (x :: t)
  have h3 := runLen_pos x t
  obtain ⟨m, hm⟩ : ∃ m, runLen x (x :: t) = m + 1 := ⟨runLen x (x :: t) - 1, by omega⟩
  rw [hm] at h1 h2 ⊢
  conv => lhs; rw [h1]
  exact runsL_head x _ h2 m
theorem runLen_all {x : Int} : ∀ {l : List Int}, (∀ y ∈ l, y = x) → runLen x l = l.length
  | [], _ => rfl
  | y :: t, h => by rw [runLen, if_pos (h y (by simp)), runLen_all (fun z hz => h z (List.mem_cons_of_mem _ hz))]; rfl
theorem runLen_at {x : Int} : ∀ {l : List Int} {k : Nat} (hk : k < l.length), (∀ j (hj : j < l.length), j < k → l[j] = x) → l[k] ≠ x → runLen x l = k
  | y :: t, 0, _, _, h => by rw [runLen, if_neg (by simpa using h)]
  | y :: t, k + 1, hk, ha, h => by
    have h0 : y = x := ha 0 (by simp) (by omega)
    rw [runLen, if_pos h0, runLen_at (l := t) (k := k) (by simpa using hk) (fun j hj hjk => ha (j + 1) (by simpa using hj) (by omega)) (by simpa using h)]

set_option maxHeartbeats 1000000 in
theorem clo_any (q b o m c : Nat) (x y : Int) (W : World) (hm : 0 < m) (hm2 : m ≤ 4096) (hq : W.cell? ⟨q, 0, none⟩ = some (.slice (some ⟨b, o, none⟩) m c)) (hx : W.cell? ⟨b, o, none⟩ = some (.int .i64 x)) :
    Calls Tryd.prog 101 #[.int .i64 y, .pointer (some ⟨q, 0, none⟩)] W fun e W' => e = .returned (.bool (!decide (y = x))) ∧ W = W' := by
  go_enter Tryd.func101, Tryd.ntmps101
  go_wp2
  go_ret
  exact ⟨rfl, rfl⟩

set_option maxRecDepth 100000 in
set_option maxHeartbeats 2000000 in
theorem index_any (q b o c : Nat) (x : Int) (t : List Int) (W : World) (hl : Ints W (some ⟨b, o, none⟩) (x :: t)) (hn : (x :: t).length ≤ 4096) (hq : W.cell? ⟨q, 0, none⟩ = some (.slice (some ⟨b, o, none⟩) (x :: t).length c)) :
    Calls Tryd.prog 100 #[.slice (some ⟨b, o, none⟩) (x :: t).length c, .func (.func 101) #[] #[.pointer (some ⟨q, 0, none⟩)]] W fun e W' =>
      e = .returned (.int .i64 (if runLen x (x :: t) = (x :: t).length then -1 else (runLen x (x :: t) : Int))) ∧ W = W' := by
  obtain ⟨b0, o0, e0, hx0⟩ := hl 0 (by simp)
  injection e0 with e0
  injection e0 with e1 e2
  subst e1 e2
  have hclo := fun y => clo_any q b o (x :: t).length c x y W (by simp) hn hq hx0
  obtain ⟨l, hL⟩ : ∃ l, x :: t = l := ⟨_, rfl⟩
  rw [hL] at hl hn ⊢
  have HALL : Hid (∀ k (h : k < l.length), (∀ j (hj : j < l.length), j < k → l[j] = x) → l[k] ≠ x → (if runLen x l = l.length then -1 else (runLen x l : Int)) = (k : Int)) := fun k h h1 h2 => by
    rw [runLen_at h h1 h2, if_neg (by omega)]
  have HEND : Hid ((∀ j (hj : j < l.length), l[j] = x) → (if runLen x l = l.length then -1 else (runLen x l : Int)) = -1) := fun h => by
    rw [runLen_all (fun y hy => by obtain ⟨i, hi, rfl⟩ := List.getElem_of_mem hy; exact h i hi), if_pos rfl]
  generalize (if runLen x l = l.length then -1 else (runLen x l : Int)) = R at *
  have HL := Lib.hid hl
  have HCLO := Lib.hid hclo
  obtain ⟨n, hn2⟩ : ∃ n, l.length = n := ⟨_, rfl⟩
  have HN := Lib.hid hn2
  rw [hn2] at hn ⊢
  clear hl hclo hq hx0 hn2 hL
  go_enter Tryd.func100, Tryd.ntmps100
  go_wp2
  go_loop [8] (fun i => ∃ k : Nat, k ≤ n ∧ i = .int .i64 k ∧ ∀ j (hj : j < l.length), j < k → l[j] = x) (fun i => n - (intOf i).toNat)
  case atStart => exact ⟨0, by omega, rfl, fun j _ h => by omega⟩
  case round =>
    obtain ⟨k, hk, rfl, hall⟩ := hrel
    have HAL := Lib.hid hall
    clear hall
    by_cases hlt : k < n
    · have hk1 : k < l.length := by rw [HN.out]; exact hlt
      obtain ⟨b', o', e', hc⟩ := HL.out k hk1
      injection e' with e'
      injection e' with e1 e2
      subst e1 e2
      have HK : Hid (k < n) := hlt
      by_cases hy : l[k] = x
      · have HNX : Hid (∀ j (hj : j < l.length), j < k + 1 → l[j] = x) := fun j hj h => by
          by_cases e : j = k
          · subst e; exact hy
          · exact HAL.out j hj (by omega)
        have hcl := HCLO.out l[k]
        rw [hy] at hc hcl
        have hd : (!decide (x = x)) = false := by simp
        rw [hd] at hcl
        have HCL := Lib.hid hcl
        clear hcl hd hy HCLO
        go_wp2_with (go_at_call 101; refine HCL.out.mono ?_; rintro e w1 ⟨rfl, rfl⟩)
        go_round
        case rel => exact ⟨k + 1, HK.out, by go_num, HNX.out⟩
        case measure => simp [intOf]; have := HK.out; omega
      · have hres := HALL.out k hk1 HAL.out hy
        have hcl := HCLO.out l[k]
        have hd : (!decide (l[k] = x)) = true := by simp [hy]
        rw [hd] at hcl
        generalize l[k] = y at hc hcl
        have HCL := Lib.hid hcl
        have HRES := Lib.hid hres
        clear hcl hd hy HCLO hres
        go_wp2_with (go_at_call 101; refine HCL.out.mono ?_; rintro e w1 ⟨rfl, rfl⟩)
        go_ret
        exact ⟨by rw [HRES.out]; rfl, rfl⟩
    · obtain rfl : k = n := by omega
      have hres := HEND.out (fun j hj => HAL.out j hj (by rw [← HN.out]; exact hj))
      have HRES := Lib.hid hres
      clear hres HCLO
      go_wp2
      go_ret
      exact ⟨by rw [HRES.out]; rfl, rfl⟩
end Go.Proofs.YtfgmdaemcaamiaaDoor

/-! The iterator over a list's runs: it keeps what is left in a variable of its own. -/
namespace Go.Proofs.YtfgmdaemcaamiaaDoor
open Go.RowKit Go.Shelf
set_option linter.unusedVariables false
attribute [local go_sem] Oper.semAt_some

theorem ints_drop {w : World} {b o : Nat} {l : List Int} (h : Ints w (some ⟨b, o, none⟩) l) (k : Nat) : Ints w (some ⟨b, o + k, none⟩) (l.drop k) := by
  intro i hi
  rw [List.length_drop] at hi
  obtain ⟨b', o', e, hc⟩ := h (k + i) (by omega)
  injection e with e
  injection e with e1 e2
  subst e1 e2
  refine ⟨b, o + k, rfl, ?_⟩
  rw [List.getElem_drop, Nat.add_assoc]
  exact hc
theorem ints_nil (w : World) (A : Option Addr) : Ints w A [] := fun i hi => absurd hi (by simp)

/-- What an iterator's round keeps: all that lay below, and blocks that are no bytes and no boxes of bytes. -/
def keepsT : Obj → Bool
  | .cells _ t => !(t == 5) && !(t == 24)
  | _ => false
structure KpI (n₀ : Nat) (W W' : World) : Prop where
  size : W.heap.size ≤ W'.heap.size
  low : ∀ k, k < n₀ → W'.heap[k]? = W.heap[k]?
  typ : ∀ (k : Nat) (o : Obj), W.heap[k]? = some o → keepsT o = true → W'.heap[k]? = some o
theorem KpI.refl (n₀ : Nat) (W : World) : KpI n₀ W W := ⟨Nat.le_refl _, fun _ _ => rfl, fun _ _ h _ => h⟩
theorem KpI.trans {n₀ : Nat} {a b c : World} (h : KpI n₀ a b) (k : KpI n₀ b c) : KpI n₀ a c :=
  ⟨Nat.le_trans h.size k.size, fun i hi => (k.low i hi).trans (h.low i hi), fun i o hi ho => k.typ i o (h.typ i o hi ho) ho⟩
theorem KpI.blk {n₀ : Nat} {a b : World} (h : KpI n₀ a b) {X : Nat} {t : TypeId} {cs : List Value} (hb : Blk a X t cs) (ht : (!(t == 5) && !(t == 24)) = true) : Blk b X t cs := h.typ X _ hb ht
theorem Ints.low {a b : World} {n₀ : Nat} (h : ∀ k, k < n₀ → b.heap[k]? = a.heap[k]?) {A : Option Addr} {l : List Int} (hl : Ints a A l) (hlt : ∀ bl o, A = some ⟨bl, o, none⟩ → l ≠ [] → bl < n₀) : Ints b A l := by
  intro i hi
  obtain ⟨bl, o, e, hc⟩ := hl i hi
  exact ⟨bl, o, e, (World.cell?_of_block (h bl (hlt bl o e (by intro e0; subst e0; simp at hi)))).trans hc⟩
/-- How much is left, at the iterator's variable. -/
def restLen (i : Value) (W : World) : Nat :=
  match i with
  | .pointer (some p) => match W.cell? p with
    | some (.slice _ n _) => n
    | _ => 0
  | _ => 0
theorem restLen_of {W : World} {q : Nat} {t : TypeId} {R : Option Addr} {n c : Nat} (h : Blk W q t [.slice R n c]) : restLen (.pointer (some ⟨q, 0, none⟩)) W = n := by
  have := (h.at_ 0).trans rfl
  unfold restLen
  simp only [this]
  rfl

theorem box_born {W3 : World} {q : Nat} {v : Value} {t : TypeId} : Blk ((W3.setCell ⟨q, 0, none⟩ v).alloc (.cells #[v] t)) W3.heap.size t [v] := by
  have hbo := Blk.born (W3.setCell ⟨q, 0, none⟩ v) t [v]
  have hs : (W3.setCell ⟨q, 0, none⟩ v).heap.size = W3.heap.size := by simp [World.setCell]
  rw [hs] at hbo
  exact hbo
/-- A round's end: what is left lies in a box laid anew. -/
theorem round_end {n₀ q b o c m k len n2 c2 : Nat} {wr W3 W : World} {r : List Int} {ls : List (Nat × Int)} {J : Nat → World → Prop}
    (hJ : ∀ s a b row, J s a → a.grownBy b row → (∀ r, row = some r → W.heap.size ≤ r ∧ ∃ c, a.heap[r]? = some (.cells c 69)) → J s b) (hq : W.heap.size ≤ q) (hk3 : KpI n₀ wr W3) (hir : Ints wr (some ⟨b, o, none⟩) r) (hbn : b < n₀) (hnW : n₀ ≤ W.heap.size) (hln : r.length = len)
    (hb3 : Blk W3 q 69 [.slice (some ⟨b, o, none⟩) len c]) (hj3 : J (k + 1) W3) (hm : m ≤ len) (hrc : len ≤ c) (hr4 : len ≤ 4096) (hd : ls.drop (k + 1) = runsL (r.drop m)) (hk : k < ls.length) {R : Option Addr} (hR : R = some ⟨b, o + m, none⟩ ∨ len = m) (hn2 : len - m = n2) (hc2 : c2 = c - m) :
    ∃ (k' q' : Nat) (R' : Option Addr) (c' : Nat) (r' : List Int), Value.pointer (some ⟨W3.heap.size, 0, none⟩) = .pointer (some ⟨q', 0, none⟩) ∧ W.heap.size ≤ q' ∧ Blk ((W3.setCell ⟨q, 0, none⟩ (.slice R n2 c2)).alloc (.cells #[.slice R n2 c2] 69)) q' 69 [.slice R' r'.length c'] ∧ r'.length ≤ c' ∧ r'.length ≤ 4096 ∧ ls.drop k' = runsL r' ∧ k' ≤ ls.length ∧ J k' ((W3.setCell ⟨q, 0, none⟩ (.slice R n2 c2)).alloc (.cells #[.slice R n2 c2] 69)) ∧ Ints ((W3.setCell ⟨q, 0, none⟩ (.slice R n2 c2)).alloc (.cells #[.slice R n2 c2] 69)) R' r' ∧ (∀ b o, R' = some ⟨b, o, none⟩ → r' ≠ [] → b < n₀) := by
  subst hln hc2
  have hq3 := lt_of_block hb3
  have hlow : ∀ k, k < n₀ → ((W3.setCell ⟨q, 0, none⟩ (.slice R n2 (c - m))).alloc (.cells #[.slice R n2 (c - m)] 69)).heap[k]? = wr.heap[k]? := fun k hk => by
    rw [Below.heap_alloc _ _ _ (by simp [World.setCell]; omega), Below.heap_setCell _ _ _ _ (by show k ≠ q; omega)]
    exact hk3.low k hk
  have hsl : ∀ v, J (k + 1) (W3.setCell ⟨q, 0, none⟩ v) := fun v => hJ _ _ _ (some q) hj3 (grownBy_setCell' W3 q v) (fun r e => by injection e with e; subst e; exact ⟨hq, _, hb3⟩)
  refine ⟨k + 1, W3.heap.size, R, c - m, r.drop m, rfl, by omega, ?_, by rw [List.length_drop]; omega, by rw [List.length_drop]; omega, hd, hk, hJ _ _ _ none (hsl _) (World.grownBy_alloc _ _ none) (fun r e => by cases e), ?_, ?_⟩
  · rw [List.length_drop, hn2]
    exact box_born
  · rcases hR with rfl | h
    · exact (ints_drop hir m).low hlow (fun b' o' e _ => by injection e with e; injection e with e1 e2; omega)
    · rw [List.drop_of_length_le (by omega)]
      exact ints_nil _ _
  · intro b' o' e hne
    rcases hR with rfl | h
    · injection e with e
      injection e with e1 e2
      omega
    · exact absurd (List.drop_of_length_le (by omega)) hne
theorem round_meas {q n2 c2 len c : Nat} {wr W3 : World} {t : TypeId} {R R0 : Option Addr} (hb : Blk wr q t [.slice R0 len c]) (h : n2 < len) :
    restLen (.pointer (some ⟨W3.heap.size, 0, none⟩)) ((W3.setCell ⟨q, 0, none⟩ (.slice R n2 c2)).alloc (.cells #[.slice R n2 c2] t)) < restLen (.pointer (some ⟨q, 0, none⟩)) wr := by
  rw [restLen_of hb, restLen_of box_born]
  exact h

set_option maxRecDepth 100000 in
set_option maxHeartbeats 4000000 in
theorem runs_it (n : Nat) (hn : 1 ≤ n) (y Bl n₀ : Nat) (A : Option Addr) (cap : Nat) (l : List Int) (hlen : l.length ≤ 4096) (hcap : l.length ≤ cap) (W : World)
    (J : Nat → World → Prop) (hJ : ∀ s a b row, J s a → a.grownBy b row → (∀ r, row = some r → W.heap.size ≤ r ∧ ∃ c, a.heap[r]? = some (.cells c 69)) → J s b)
    (hY : ∀ k (h : k < (runsL l).length) w1, J k w1 → YieldAt Fence.wide (n - 1) Tryd.prog y #[.int .i64 ((runsL l)[k].1 : Int), .int .i64 (runsL l)[k].2] w1 fun e w2 => e = .returned (.bool true) ∧ J (k + 1) w2 ∧ KpI n₀ w1 w2)
    (hBl : W.cell? ⟨Bl, 0, none⟩ = some (.slice A l.length cap)) (hl : Ints W A l) (hlt : ∀ b o, A = some ⟨b, o, none⟩ → l ≠ [] → b < n₀) (hnW : n₀ ≤ W.heap.size) (h0 : J 0 W) :
    CallsIn Fence.wide n Tryd.prog 99 #[.func (.yield y) #[] #[], .pointer (some ⟨Bl, 0, none⟩)] W fun e W' => (∃ v, e = .returned v) ∧ J (runsL l).length W' := by
  have HY := Lib.hid hY
  have HJ := Lib.hid hJ
  have HL := Lib.hid hl
  have HLT := Lib.hid hlt
  have HB0 : Hid (J 0 ((W.alloc (.cells #[.slice A l.length cap] 69)))) := hJ _ _ _ none h0 (World.grownBy_alloc W _ none) (fun r e => by cases e)
  have hbx : Blk (W.alloc (.cells #[.slice A l.length cap] 69)) W.heap.size 69 [.slice A l.length cap] := Blk.born W 69 _
  clear hY hJ hl hlt h0
  refine callsIn_of_wp Tryd.func99 rfl trivial ?_ rfl
  simp only [Tryd.ntmps99, List.size_toArray, List.length_cons, List.length_nil, Nat.reduceAdd, Nat.reduceSub, Array.replicate_succ, Array.replicate_zero, List.push_toArray, List.append_toArray, List.nil_append, List.cons_append]
  gi_wp2
  gi_loopw [3] (fun i wr => ∃ (k q : Nat) (R : Option Addr) (c : Nat) (r : List Int), i = .pointer (some ⟨q, 0, none⟩) ∧ W.heap.size ≤ q ∧ Blk wr q 69 [.slice R r.length c] ∧ r.length ≤ c ∧ r.length ≤ 4096 ∧ (runsL l).drop k = runsL r ∧ k ≤ (runsL l).length ∧ J k wr ∧ Ints wr R r ∧ (∀ b o, R = some ⟨b, o, none⟩ → r ≠ [] → b < n₀)) (fun i wr => restLen i wr)
  case atStart =>
    exact ⟨0, W.heap.size, A, cap, l, rfl, Nat.le_refl _, hbx, hcap, hlen, rfl, Nat.zero_le _, HB0.out, (HL.out).low (n₀ := n₀) (fun k hk => Below.heap_alloc _ _ _ (by omega)) HLT.out, fun b o e h => HLT.out b o e h⟩
  case round =>
    obtain ⟨k, q, R, c, r, rfl, hq, hbq, hrc, hr4, hdr, hk, hJk, hir, hlr⟩ := hrel
    have hbq1 : wr.cell? ⟨q, 0, none⟩ = some (.slice R r.length c) := (hbq.at_ 0).trans rfl
    cases r with
    | nil =>
      have hke : k = (runsL l).length := by
        have h := congrArg List.length hdr
        simp [runsL] at h
        omega
      rw [hke] at hJk
      have HJK := Lib.hid hJk
      clear hJk hdr
      gi_wp2
      go_end0
      exact ⟨⟨_, rfl⟩, HJK.out⟩
    | cons x t =>
      obtain ⟨b, o, e0, hx0⟩ := hir 0 (by simp)
      subst e0
      have hx1 : wr.cell? ⟨b, o, none⟩ = some (.int .i64 x) := hx0
      clear hx0
      have hbn := hlr b o rfl (by simp)
      have hk2 : k < (runsL l).length := by
        apply Nat.lt_of_not_le
        intro h
        rw [List.drop_of_length_le h, runsL_step] at hdr
        cases hdr
      rw [List.drop_eq_getElem_cons hk2, runsL_step] at hdr
      injection hdr with hd1 hd2
      have hidx := index_any q b o c x t wr hir hr4 hbq1
      have hy0 := HY.out k hk2
      rw [hd1] at hy0
      have hm1 := runLen_pos x t
      have hm2 := runLen_le x (x :: t)
      generalize hL : x :: t = r at *
      generalize runLen x r = m at *
      have HIDX : Hid (CallsIn Fence.wide (n - 1) Tryd.prog 100 #[.slice (some ⟨b, o, none⟩) r.length c, .func (.func 101) #[] #[.pointer (some ⟨q, 0, none⟩)]] wr fun e W' => e = .returned (.int .i64 (if m = r.length then -1 else (m : Int))) ∧ wr = W') := callsIn_wide.2 hidx
      generalize hln : r.length = len at *
      clear hidx
      have hxl : 0 < len := by omega
      obtain ⟨fn, tmps, assign, body, hy, hR⟩ := hy0 wr hJk
      have HR := Lib.hid hR
      have HBQ := Lib.hid hbq
      have HIR := Lib.hid hir
      clear hR hy0 hJk hbq hlr hir
      gi_wp2_with (refine ⟨trivial, ?_⟩; gi_at_call 100; refine HIDX.out.mono ?_; rintro e w1 ⟨rfl, rfl⟩)
      case' inl => (have hml : (m : Int) = len := by omega)
      case' inl => rw [← hml]
      case' inl => (rw [hy]; gi_wp2)
      all_goals refine HR.out.mono ?_
      all_goals rintro e W3 ⟨rfl, hj3, hk3⟩
      all_goals have hb3 := hk3.blk HBQ.out (by decide)
      all_goals have hq3 : W3.cell? ⟨q, 0, none⟩ = some (.slice (some ⟨b, o, none⟩) len c) := (hb3.at_ 0).trans rfl
      all_goals have hf3 : W3.frozen? ⟨q, 0, none⟩ = false := hb3.free 0
      all_goals gi_wp2
      all_goals go_roundw
      case rel => exact round_end HJ.out hq hk3 HIR.out hbn hnW hln hb3 hj3 (Nat.le_of_eq h) hrc hr4 hd2 hk2 (.inr h.symm) (by omega) (by omega)
      case measure => exact round_meas HBQ.out hxl
      case rel => exact round_end HJ.out hq hk3 HIR.out hbn hnW hln hb3 hj3 hm2 hrc hr4 hd2 hk2 (.inl rfl) rfl rfl
      case measure => exact round_meas HBQ.out (by omega)
end Go.Proofs.YtfgmdaemcaamiaaDoor

/-! A range over an iterator that keeps variables of its own and is never left early. -/
namespace Go.Proofs.YtfgmdaemcaamiaaDoor
open Go.RowKit
set_option linter.unusedVariables false

/-- What may be said of a world while an iterator turns blocks that it laid itself. -/
def Abide (ok : Obj → Prop) (B : Nat) (J : Nat → World → Prop) : Prop :=
  ∀ s a b row, J s a → a.grownBy b row → (∀ r, row = some r → B ≤ r ∧ ∃ o : Obj, a.heap[r]? = some o ∧ ok o) → J s b
theorem Abide.new {ok : Obj → Prop} {B : Nat} {J : Nat → World → Prop} (h : Abide ok B J) {s : Nat} {w : World} (o : Obj) (hj : J s w) : J s (w.alloc o) :=
  h s w _ none hj (World.grownBy_alloc w o none) (fun r e => by cases e)
theorem Abide.put {ok : Obj → Prop} {B : Nat} {J : Nat → World → Prop} (h : Abide ok B J) {s : Nat} {w : World} {l : Nat} {o : Obj} (o' : Obj) (hj : J s w) (hl : w.heap[l]? = some o) (hB : B ≤ l) (ho : ok o) : J s (w.putObj l o') :=
  h s w _ (some l) hj (grownBy_putObj' w l o') (fun r e => by cases e; exact ⟨hB, o, hl, ho⟩)

theorem range_all {F : Fence} {n : Nat} {P : Program} {g : Operand} {ps : Array Tmp} {assign body : Code} {Q : Exit → Act → World → Prop} {a : Act} {w : World}
    (hro : F.round = none) (h1 : 1 ≤ n) {gf : Nat} {lb : Array Value} (hg : a.eval g = .func (.func gf) #[] lb) (hFg : F.fn gf) (eg : ∀ args w, (callFunc gf args).run P w = .ok (.enter gf args) w)
    (N : Nat) (encs : Nat → Array Value) (ok : Obj → Prop) (Kp : World → World → Prop) (hps : ∀ k, (encs k).size = ps.size)
    (hseq : ∀ (l : Nat) (W : World) (J : Nat → World → Prop), Below w.heap.size w W → Abide ok W.heap.size J →
      (∀ k, k < N → ∀ W1, J k W1 → YieldAt F (n - 1 - 1) P l (encs k) W1 fun e W2 => e = .returned (.bool true) ∧ J (k + 1) W2 ∧ Kp W1 W2) → J 0 W →
      CallsIn F (n - 1) P gf (#[.func (.yield l) #[] #[]] ++ lb) W fun e W2 => (∃ v, e = .returned v) ∧ J N W2)
    (hKt : ∀ {A B C : World}, Kp A B → Kp B C → Kp A C) (hKb : ∀ (W : World) (l : Nat) (o o' : Obj), w.heap.size ≤ l → W.heap[l]? = some o → o.isCells = false → Kp W (W.putObj l o'))
    (I : Nat → World → Prop) (hI : Abide (fun o => o.isCells = false ∨ ok o) w.heap.size I) (h0 : I 0 w) (a₁ : Nat → Act)
    (hassign : ∀ (l k : Nat) (W : World) (K : Act → World → Prop), K (a₁ k) W →
      assign.wpIn (F.inRound l) (n - 1 - 1) P (Exit.then K (fun _ _ _ => False)) { tmps := (ps.zip (encs k)).foldl (fun t (p, v) => t.setIfInBounds p v) a.tmps, defers := [] } W)
    (hbody : ∀ (l k : Nat) (W : World), I k W → k < N → body.wpIn (F.inRound l) (n - 1 - 1) P (fun e _ W2 => e = .normal ∧ KeepsOthers W W2 ∧ Kp W W2 ∧ I (k + 1) W2) (a₁ k) W)
    (hdone : ∀ (D : Nat) (W : World), w.heap.size ≤ D → I N W → W.heap[D]? = some (.deferred (some [])) → Q .normal { a with defers := { target := .collected D, args := #[] } :: a.defers } W) :
    (Code.rangeFunc g ps assign body).wpIn F n P Q a w := by
  refine wpIn_rangeFunc fun fn hfn => ?_
  rw [hro]
  -- the record in its two states, and the world in which the iterator is called
  let idle : Loop := { state := .ready, pending := none, fn, tmps := a.tmps, params := ps, assign, body, defers := w.heap.size }
  let busy : Loop := { state := .busy, pending := none, fn, tmps := a.tmps, params := ps, assign, body, defers := w.heap.size }
  obtain ⟨D, hD⟩ : ∃ D, w.heap.size = D := ⟨_, rfl⟩
  obtain ⟨W0, hW0⟩ : ∃ x, x = (w.alloc (.deferred (some []))).alloc (.loop idle) := ⟨_, rfl⟩
  have hsz : W0.heap.size = D + 2 := by rw [hW0]; simp [hD]
  have hrec : W0.heap[D + 1]? = some (.loop idle) := by
    rw [hW0, ← hD]
    have := World.alloc_heap_new (w.alloc (.deferred (some []))) (.loop idle)
    rwa [World.size_alloc] at this
  have hdef : W0.heap[D]? = some (.deferred (some [])) := by
    rw [hW0, ← hD]
    exact (Below.heap_alloc _ _ _ (by simp)).trans (World.alloc_heap_new w _)
  have hbel : Below w.heap.size w W0 := by rw [hW0]; exact ((Below.refl _ _).alloc (Nat.le_refl _) _).alloc (by simp) _
  have hi0 : I 0 W0 := by rw [hW0]; exact hI.new _ (hI.new _ h0)
  refine ⟨D + 1, [{ target := .collected D, args := #[] }], W0, { target := .fn (.func gf) lb, args := #[.func (.yield (D + 1)) #[] #[]] }, W0, gf, #[.func (.yield (D + 1)) #[] #[]] ++ lb, W0, ?_, ?_, ?_, ?_, fun _ => h1, ?_⟩
  · rw [hW0, ← hD]; exact run_enterLoop_outer _ _ _ _ _
  · simp only [resolve, hg]; simp [go_sem]
  · intro f' hf'; simp [Target.leads] at hf'; subst hf'; exact hFg
  · simp [invoke, go_sem, eg]
  · refine (hseq (D + 1) W0 (fun k W => I k W ∧ W.heap[D + 1]? = some (.loop idle) ∧ W.heap[D]? = some (.deferred (some []))) hbel ?_ ?_ ⟨hi0, hrec, hdef⟩).mono ?_
    · -- the iterator turns blocks that lie beyond the record
      rintro s x y row ⟨hi, hl, hd⟩ hgr hrow
      have keep : ∀ k, k < D + 2 → k < x.heap.size → y.heap[k]? = x.heap[k]? := fun k hk hx => hgr.block k hx (fun e => by have := (hrow k e.symm).1; omega)
      refine ⟨hI s x y row hi hgr (fun r e => ?_), (keep _ (by omega) (Array.getElem?_eq_some_iff.1 hl).1).trans hl, (keep _ (by omega) (Array.getElem?_eq_some_iff.1 hd).1).trans hd⟩
      obtain ⟨h2, o, h3, h4⟩ := hrow r e
      exact ⟨by omega, o, h3, .inr h4⟩
    · -- a round
      rintro k hk W ⟨hi, hl, hd⟩
      have hlt := (Array.getElem?_eq_some_iff.1 hl).1
      refine ⟨fn, _, assign, body, run_yield (P := P) (args := encs k) hl (hps k), roundIn_of_wpIn hfn (hassign _ k W _ ⟨_, run_beginRound hl rfl, ?_⟩)⟩
      have hlb : (W.putObj (D + 1) (.loop busy)).heap[D + 1]? = some (.loop busy) := World.putObj_heap_same hlt
      have hdb : (W.putObj (D + 1) (.loop busy)).heap[D]? = some (.deferred (some [])) := (World.putObj_heap_other (by omega)).trans hd
      refine wpIn_mono (hbody _ k _ (hI.put _ hi hl (by omega) (.inl rfl)) hk) ?_
      rintro e a3 W3 ⟨rfl, hko, hkp, hi3⟩
      have hl3 := hko.same _ _ hlb rfl
      exact ⟨_, _, run_endRound (P := P) none hl3, rfl, ⟨hI.put _ hi3 hl3 (by omega) (.inl rfl), World.putObj_heap_same (Array.getElem?_eq_some_iff.1 hl3).1, (World.putObj_heap_other (by omega)).trans (hko.same _ _ hdb rfl)⟩,
        hKt (hKt (hKb W _ _ _ (by omega) hl rfl) hkp) (hKb W3 _ _ _ (by omega) hl3 rfl)⟩
    · -- behind the iterator
      rintro e W2 ⟨⟨v, rfl⟩, hi, hl, hd⟩
      exact ⟨none, _, run_endLoop (P := P) hl (by simp [idle]), hdone D _ (by omega) (hI.put _ hi hl (by omega) (.inl rfl)) ((World.putObj_heap_other (by omega)).trans hd)⟩
end Go.Proofs.YtfgmdaemcaamiaaDoor

/-! The walk of ints.Encode: the form of runs. -/
namespace Go.Proofs.YtfgmdaemcaamiaaDoor
open Go.RowKit Go.Shelf
set_option linter.unusedVariables false
attribute [local go_sem] Oper.semAt_some

theorem runsL_ne : ∀ l : List Int, l ≠ [] → runsL l ≠ []
  | [], h => absurd rfl h
  | x :: t, _ => by rw [runsL_step]; simp
theorem runsL_mem : ∀ (n : Nat) (l : List Int), l.length ≤ n → ∀ r ∈ runsL l, 1 ≤ r.1 ∧ r.1 ≤ l.length ∧ r.2 ∈ l := by
  intro n
  induction n with
  | zero => intro l h r hr; have : l = [] := List.length_eq_zero_iff.1 (by omega); subst this; simp [runsL] at hr
  | succ n ih =>
    intro l h r hr
    cases l with
    | nil => simp [runsL] at hr
    | cons x t =>
      rw [runsL_step] at hr
      have h1 := runLen_pos x t
      have h2 := runLen_le x (x :: t)
      rcases List.mem_cons.1 hr with rfl | hr
      · exact ⟨h1, h2, by simp⟩
      · obtain ⟨h3, h4, h5⟩ := ih _ (by rw [List.length_drop]; omega) r hr
        rw [List.length_drop] at h4
        exact ⟨h3, by omega, List.mem_of_mem_drop h5⟩
theorem runsL_len : ∀ (n : Nat) (l : List Int), l.length ≤ n → (runsL l).length ≤ l.length := by
  intro n
  induction n with
  | zero => intro l h; have : l = [] := List.length_eq_zero_iff.1 (by omega); subst this; simp [runsL]
  | succ n ih =>
    intro l h
    cases l with
    | nil => simp [runsL]
    | cons x t =>
      rw [runsL_step]
      have h1 := runLen_pos x t
      have h2 := runLen_le x (x :: t)
      have := ih ((x :: t).drop (runLen x (x :: t))) (by rw [List.length_drop]; omega)
      rw [List.length_drop] at this
      rw [List.length_cons]
      omega

set_option maxRecDepth 100000 in
theorem runs_of (n : Nat) (A : Option Addr) (len cap : Nat) (W : World) : CallsIn Fence.wide n Tryd.prog 69 #[.slice A len cap] W fun e W' =>
    e = .returned (.func (.func 99) #[] #[.pointer (some ⟨W.heap.size, 0, none⟩)]) ∧ W' = W.alloc (.cells #[.slice A len cap] 69) := by
  refine callsIn_of_wp Tryd.func69 rfl trivial ?_ rfl
  simp only [Tryd.ntmps69, List.size_toArray, List.length_cons, List.length_nil, Nat.reduceAdd, Nat.reduceSub, Array.replicate_succ, Array.replicate_zero, List.push_toArray, List.append_toArray, List.nil_append, List.cons_append]
  gi_wp2
  go_ret
  exact ⟨rfl, rfl⟩

/-- What a body of bytes keeps, for the iterator and for the range. -/
def KK (n₀ : Nat) (W W' : World) : Prop := KpI n₀ W W' ∧ KeepsOthers W W'
theorem KK.refl (n₀ : Nat) (W : World) : KK n₀ W W := ⟨KpI.refl _ _, KeepsOthers.refl _⟩
theorem KK.trans {n₀ : Nat} {a b c : World} (h : KK n₀ a b) (k : KK n₀ b c) : KK n₀ a c := ⟨h.1.trans k.1, h.2.trans k.2⟩
theorem KK.drew {n₀ : Nat} {a b : World} (h : KK n₀ a b) : KK n₀ a b.drew := ⟨⟨h.1.size, h.1.low, h.1.typ⟩, ⟨h.2.size, h.2.same⟩⟩
theorem kk_below {n₀ : Nat} {w w' : World} (h : Below w.heap.size w w') (hn : n₀ ≤ w.heap.size) : KK n₀ w w' :=
  ⟨⟨h.size, fun k hk => h.block k (by omega), fun k o hk _ => (h.block k (Array.getElem?_eq_some_iff.1 hk).1).trans hk⟩, ⟨h.size, fun k o hk _ => (h.block k (Array.getElem?_eq_some_iff.1 hk).1).trans hk⟩⟩
theorem own_at {w : World} {B g : Nat} {v : Value} {l : List UInt8} (h : Own w B v l) (e : v.ownBlock = some g) : B ≤ g ∧ ∃ c, w.heap[g]? = some (.cells c 5) := by
  rcases h.2 with ⟨rfl, _⟩ | ⟨k, cap, cur, rfl, hk, hg, _⟩
  · simp [Value.ownBlock] at e
  · have : k = g := by simpa [Value.ownBlock] using e
    subst this
    exact ⟨hk, _, hg⟩
theorem kk_app {n₀ : Nat} {w w' : World} {v : Value} {l : List UInt8} (hg : w.grownBy w' v.ownBlock) (h : Own w n₀ v l) (hn : n₀ ≤ w.heap.size) : KK n₀ w w' := by
  refine ⟨⟨hg.size, fun k hk => ?_, fun k o hk ho => ?_⟩, KeepsOthers.of_grownBy hg (fun j o e ho => ?_)⟩
  · exact hg.block k (by omega) (fun e => by have := (own_at h e.symm).1; omega)
  · refine (hg.block k (Array.getElem?_eq_some_iff.1 hk).1 (fun e => ?_)).trans hk
    obtain ⟨_, c, hc⟩ := own_at h e.symm
    rw [hk] at hc
    injection hc with hc
    subst hc
    cases ho
  · obtain ⟨_, c, hc⟩ := own_at h e
    rw [ho] at hc
    injection hc with hc
    subst hc
    rfl
theorem kk_box {n₀ X : Nat} {w : World} {cs : List Value} (hb : Blk w X 24 cs) (ht : True) (hX : n₀ ≤ X) (u : Value) : KK n₀ w (w.setCell ⟨X, 0, none⟩ u) := by
  refine ⟨⟨by simp [World.setCell], fun k hk => Below.heap_setCell _ _ _ _ (by show k ≠ X; omega), fun k o hk ho => ?_⟩, KeepsOthers.setCell _ _ _⟩
  refine (Below.heap_setCell _ _ _ _ ?_).trans hk
  intro e
  subst e
  unfold Blk at hb
  rw [hk] at hb
  injection hb with hb
  subst hb
  cases ho
theorem own_put {w : World} {B D : Nat} {v : Value} {l : List UInt8} (h : Own w B v l) {o : Obj} (o' : Obj) (hD : w.heap[D]? = some o) (ho : o.isCells = false) : Own (w.putObj D o') B v l := by
  refine World.ownsRow.kept h (grownBy_putObj' w D o') (.inr fun e => ?_)
  obtain ⟨_, c, hc⟩ := own_at h e
  rw [hD] at hc
  injection hc with hc
  subst hc
  cases ho
theorem runs_flat (f : Nat × Int → List UInt8) (hf : ∀ r, (f r).length ≤ 20) : ∀ l : List (Nat × Int), (l.flatMap f).length ≤ l.length * 20
  | [] => by simp
  | a :: t => by rw [List.flatMap_cons, List.length_append, List.length_cons, Nat.succ_mul]; have := hf a; have := runs_flat f hf t; omega
theorem layRun_len (r : Nat × Int) : (layRun r).length ≤ 20 := by
  unfold layRun
  have := (num_len r.1).2
  have := sgn_len r.2
  rw [List.length_append]
  omega

set_option maxRecDepth 100000 in
set_option maxHeartbeats 8000000 in
theorem enc1_any (A : Option Addr) (cap : Nat) (l : List Int) (W : World) (hl : Ints W A l) (h64 : All64 l) (hn : l.length ≤ 4096) (hcap : l.length ≤ cap) :
    Calls Tryd.prog 43 #[.int .i64 1, .slice A l.length cap] W (LaidI W (encI 1 l)) := by
  obtain ⟨W1, hW1⟩ : ∃ x, x = (W.alloc (.cells #[Value.int .u8 1] 5)).alloc (.cells #[Value.slice (some ⟨W.heap.size, 0, none⟩) 1 1] 24) := ⟨_, rfl⟩
  obtain ⟨rk, hrk⟩ : ∃ rk : Nat → Nat × Int, ∀ k (h : k < (runsL l).length), (runsL l)[k] = rk k := ⟨fun k => (runsL l).getD k (0, 0), fun k h => by simp [List.getD, h]⟩
  obtain ⟨DD, hDD⟩ : ∃ DD : Nat → List UInt8, DD = fun k => [1] ++ ((runsL l).take k).flatMap layRun := ⟨_, rfl⟩
  have hrl := runsL_len l.length l (Nat.le_refl _)
  have hfin : encI 1 l = DD (runsL l).length := by rw [hDD]; simp only [List.take_length]; rfl
  have hd0 : [(1 : UInt8)] = DD 0 := by rw [hDD]; simp
  have hst : ∀ k (h : k < (runsL l).length), DD (k + 1) = (DD k ++ num (rk k).1) ++ sgn (rk k).2 := fun k h => by
    rw [hDD]; simp only [List.take_succ_eq_append_getElem h, List.flatMap_append, List.flatMap_cons, List.flatMap_nil, List.append_nil, List.append_assoc, hrk k h]; rfl
  have hdl : ∀ k, (DD k).length ≤ 100001 := fun k => by
    rw [hDD]
    have := runs_flat layRun layRun_len ((runsL l).take k)
    simp only [List.length_append, List.length_cons, List.length_nil]
    rw [List.length_take] at this
    omega
  have hel : ∀ k, k < (runsL l).length → (rk k).1 ≤ 4096 ∧ I64 (rk k).2 := fun k h => by
    obtain ⟨h1, h2, h3⟩ := runsL_mem l.length l (Nat.le_refl _) _ (List.getElem_mem h)
    rw [hrk k h] at h1 h2 h3
    exact ⟨by omega, h64 _ h3⟩
  have hbx : Blk W1 (W.heap.size + 1) 24 [Value.slice (some ⟨W.heap.size, 0, none⟩) 1 1] := by rw [hW1]; exact blk_two W _ _ _
  have how : Own W1 W.heap.size (.slice (some ⟨W.heap.size, 0, none⟩) 1 1) (DD 0) := by
    rw [hW1, ← hd0]
    exact World.ownsRow.alloc (own_one W 1) _
  have hbe : Below W.heap.size W W1 := by rw [hW1]; exact ((Below.refl _ _).alloc (Nat.le_refl _) _).alloc (by simp) _
  have hsz : W1.heap.size = W.heap.size + 2 := by rw [hW1]; simp
  rw [hfin]
  have hgt : ¬ (4096 : Int) < (l.length : Int) := by omega
  obtain ⟨n, hln⟩ : ∃ n, l.length = n := ⟨_, rfl⟩
  have HLN := Lib.hid hln
  have HW1 := Lib.hid hW1
  have HL := Lib.hid hl
  have HSTEP := Lib.hid hst
  have HDL := Lib.hid hdl
  have HEL := Lib.hid hel
  have HRK := Lib.hid hrk
  have HBX := Lib.hid hbx
  have HOW := Lib.hid how
  have HBE := Lib.hid hbe
  have HSZ := Lib.hid hsz
  have HNC : Hid (n ≤ 4096 ∧ n ≤ cap) := ⟨by omega, by omega⟩
  rw [hln] at hgt ⊢
  clear hln hW1 hl hst hdl hel hrk hbx how hbe hDD hfin hd0 h64 hcap hn hrl hsz
  refine (callsIn_wide (n := 12)).1 ?_
  refine callsIn_of_wp_marks Tryd.func43 rfl trivial ?_ rfl
  simp only [Tryd.ntmps43, List.size_toArray, List.length_cons, List.length_nil, Nat.reduceAdd, Nat.reduceSub, Array.replicate_succ, Array.replicate_zero, List.push_toArray, List.append_toArray, List.nil_append, List.cons_append]
  gi_wp2_with (refine ⟨trivial, ?_⟩; gi_at_call 69; refine (runs_of 11 A n cap _).mono ?_; rintro e w1 ⟨rfl, rfl⟩)
  rw [← HW1.out]
  obtain ⟨W2, hW2⟩ : ∃ x, x = W1.alloc (.cells #[Value.slice A n cap] 69) := ⟨_, rfl⟩
  have hs2 : W2.heap.size = W.heap.size + 3 := by rw [hW2]; simp [HSZ.out]
  have hb2 : Blk W2 (W.heap.size + 1) 24 [Value.slice (some ⟨W.heap.size, 0, none⟩) 1 1] := by rw [hW2]; exact HBX.out.later _
  have ho2 : Own W2 W.heap.size (.slice (some ⟨W.heap.size, 0, none⟩) 1 1) (DD 0) := by rw [hW2]; exact World.ownsRow.alloc HOW.out _
  have he2 : Below W.heap.size W W2 := by rw [hW2]; exact HBE.out.alloc (by rw [HSZ.out]; omega) _
  have hl2 : W2.cell? ⟨W.heap.size + 1 + 1, 0, none⟩ = some (.slice A n cap) := by
    have := Blk.born W1 69 [Value.slice A n cap]
    rw [HSZ.out] at this
    rw [hW2]
    exact (this.at_ 0).trans rfl
  rw [← hW2]
  refine range_all rfl (by omega) (gf := 99) (lb := #[.pointer (some ⟨W.heap.size + 1 + 1, 0, none⟩)]) rfl trivial (enters_of Tryd.func99 (by kernel_rfl) rfl)
    (runsL l).length (fun k => #[.int .i64 ((rk k).1 : Int), .int .i64 (rk k).2]) (fun o => ∃ c, o = .cells c 69) (KpI W.heap.size) (fun _ => rfl)
    ?seq KpI.trans ?kb
    (fun k Wd => ∃ v, Blk Wd (W.heap.size + 1) 24 [v] ∧ Own Wd W.heap.size v (DD k) ∧ Below W.heap.size W Wd) ?ab ⟨_, hb2, ho2, he2⟩
    (fun k => { tmps := #[Value.int IntKind.i64 1, Value.slice A n cap, undef, undef, Value.slice none 0 0, Value.int IntKind.i64 0, Value.pointer (some ⟨W.heap.size + 1, 0, none⟩), undef, undef, Value.int IntKind.i64 ((rk k).1 : Int), Value.int IntKind.i64 (rk k).2, Value.int IntKind.i64 1, Value.bool false, Value.bool false, Value.int IntKind.i64 1, Value.bool false, Value.bool false, Value.bool false, Value.slice A n cap, Value.int IntKind.i64 (n : Int), Value.bool false, Value.bool false, Value.int IntKind.i64 1, Value.int IntKind.u8 1, Value.slice (some ⟨W.heap.size, 0, none⟩) 1 1, Value.int IntKind.i64 1, Value.bool false, Value.bool false, undef, undef, undef, undef, undef, undef, undef, undef, undef, undef, undef, Value.bool true, Value.bool true, Value.slice A n cap, Value.func (Fn.func 99) #[] #[Value.pointer (some ⟨W.heap.size + 1 + 1, 0, none⟩)], Value.int IntKind.i64 ((rk k).1 : Int), Value.int IntKind.i64 (rk k).2, undef, undef, undef, undef, undef, undef, undef, undef, undef, undef, undef, undef, undef, undef, undef, undef, undef, undef, undef, undef, undef, undef, undef, undef], defers := [] }) ?assign ?body ?done
  case seq =>
    intro y Wy J hWy hJ hY h0
    refine runs_it 11 (by omega) y (W.heap.size + 1 + 1) W.heap.size A cap l (by rw [HLN.out]; exact HNC.out.1) (by rw [HLN.out]; exact HNC.out.2) Wy J (fun s a b row hs hg hr => hJ s a b row hs hg (fun r e => by obtain ⟨h1, c, h2⟩ := hr r e; exact ⟨h1, _, h2, c, rfl⟩)) (fun k hk w1 hj => by rw [HRK.out k hk]; exact hY k hk w1 hj) ?_ ?_ ?_ ?_ h0
    · rw [HLN.out]; exact (hWy.cell (p := ⟨W.heap.size + 1 + 1, 0, none⟩) (by show W.heap.size + 1 + 1 < W2.heap.size; omega)).trans hl2
    · exact HL.out.keep (he2.trans (hWy.mono (by rw [hs2]; omega)))
    · intro b o e hne
      obtain ⟨b', o', e', hc⟩ := HL.out 0 (List.length_pos_iff.2 hne)
      rw [e] at e'
      injection e' with e'
      injection e' with e1 e2
      subst e1
      exact World.block_lt_of_cell? W _ hc
    · have := hWy.size
      omega
  case kb =>
    intro Wk k o o' hk ho hc
    refine ⟨by simp, fun j hj => World.putObj_heap_other (by omega), fun j oj hj hoj => (World.putObj_heap_other ?_).trans hj⟩
    rintro rfl
    rw [ho] at hj
    injection hj with hj
    subst hj
    cases o <;> first | cases hoj | cases hc
  case ab =>
    rintro s a b row ⟨v, h1, h2, h3⟩ hg hr
    refine ⟨v, grown_blk hg h1 (fun e => ?_), World.ownsRow.kept h2 hg ?_, h3.grown hg h3.size (fun r e => by have := (hr r e).1; omega)⟩
    · have := (hr _ e).1
      omega
    · by_cases hv : v.ownBlock = none
      · exact .inl hv
      refine .inr fun e => ?_
      cases row with
      | none => exact hv e
      | some r =>
        obtain ⟨_, o, ho, hk⟩ := hr r rfl
        obtain ⟨_, c, hc⟩ := own_at h2 e
        rw [ho] at hc
        injection hc with hc
        subst hc
        rcases hk with hk | ⟨c2, hk⟩
        · cases hk
        · injection hk with _ hk; exact absurd hk (by decide)
  case assign =>
    intro l' k Wd K hK
    gi_wp2
    exact hK
  case body =>
    rintro l' k Wd ⟨v, hbox, hown, hbel⟩ hk
    obtain ⟨Ab, cb, rfl, _, _, _, _⟩ := hown.form
    have hs := HSTEP.out k hk
    obtain ⟨hm, hx⟩ := HEL.out k hk
    have hdk := HDL.out k
    generalize (rk k).1 = m at *
    generalize (rk k).2 = x at *
    obtain ⟨bb, hbb⟩ : ∃ bb, DD k = bb := ⟨_, rfl⟩
    rw [hbb] at hown hbox hs hdk
    obtain ⟨nb, hnb⟩ : ∃ nb, bb.length = nb := ⟨_, rfl⟩
    rw [hnb] at hown hbox
    obtain ⟨sg, hsg⟩ : ∃ sg, num m = sg := ⟨_, rfl⟩
    obtain ⟨sx, hsx⟩ : ∃ sx, sgn x = sx := ⟨_, rfl⟩
    have hnum := fun (w1 : World) => number_any none 0 m [] w1 (Byt.empty _ _) (fun _ => rfl) (by simp) (by omega)
    have hsig := fun (w1 : World) => signed_any none 0 x [] w1 (Byt.empty _ _) (fun _ => rfl) (by simp) hx.1 hx.2
    simp only [List.length_nil, List.nil_append] at hnum
    simp only [sgn_nil, List.length_nil] at hsig
    have hgl := (num_len m).2
    have hxl := sgn_len x
    rw [hsg] at hnum hgl hs
    rw [hsx] at hsig hxl hs
    have HLEN1 : Hid (bb.length + sg.length ≤ 140737488355328) := by show _ ≤ _; omega
    have HLEN2 : Hid ((bb ++ sg).length + sx.length ≤ 140737488355328) := by show _ ≤ _; rw [List.length_append]; omega
    obtain ⟨m5, hm5⟩ : ∃ m5, sg.length = m5 := ⟨_, rfl⟩
    have HM5 := Lib.hid hm5
    have HNUM := Lib.hid hnum
    obtain ⟨m8, hm8⟩ : ∃ m8, sx.length = m8 := ⟨_, rfl⟩
    have HM8 := Lib.hid hm8
    have HSIG := Lib.hid hsig
    have HS := Lib.hid hs
    have HNW : Hid (W.heap.size ≤ W.heap.size + 1) := by show _ ≤ _; omega
    have HBOX := Lib.hid hbox
    have HOWN := Lib.hid hown
    have HBEL := Lib.hid hbel
    have HKK : Hid (KK W.heap.size Wd Wd) := KK.refl _ _
    have hwm : IntKind.u64.wrap (m : Int) = (m : Int) := by rw [IntKind.wrap_u64]; omega
    have hcb : Wd.cell? ⟨W.heap.size + 1, 0, none⟩ = some (.slice Ab nb cb) := (hbox.at_ 0).trans rfl
    have hcb2 : Wd.drew.cell? ⟨W.heap.size + 1, 0, none⟩ = some (.slice Ab nb cb) := hcb
    clear hs hnum hsig hgl hxl hsg hsx hm5 hm8 hbox hown hbel hnb hdk hW2 hb2 ho2 he2 hl2 hs2
    gi_wp2
    refine region_in (S := fun _ => True) (k := 6) (by kernel_rfl) (by rintro ⟨a, w, h, _⟩; cases h) (by kernel_rfl) rfl (fun RG HR => ?_)
    refine wpS_take HR (i := 1) (v := .int .i64 (m : Int)) rfl (by decide +kernel) (by decide +kernel) (by decide +kernel) (fun _ _ _ h => h) (by rfl) trivial (fun W hW => by go_simp) ?_
    go_simp
    refine wpS_take HR (i := 2) (v := .int .u64 (m : Int)) rfl (by decide +kernel) (by decide +kernel) (by decide +kernel) (fun _ _ _ h => h) (by rfl) trivial (fun W hW => by go_simp) ?_
    go_simp
    refine wpS_step2 HR (i := 0) (k := 3) (by decide +kernel) ?ra ?rb
    case' ra =>
      refine stepS_val HR (v := .slice Ab nb cb) rfl (by rfl) (by go_simp) trivial ?_
      go_simp
      refine wpS_step1 HR (i := 3) (by decide +kernel) ?_
      refine stepS_call HR rfl (by rfl) (by go_simp; exact ⟨rfl, rfl⟩) ?_
      refine (HNUM.out _).mono ?_
      rintro e w5 ⟨v5, rfl, hown5, hb5⟩
      obtain ⟨A5, c5, rfl, y5, n5, _, _⟩ := hown5.form
      have Y5 := Lib.hid y5
      have N5 := Lib.hid n5
      have O5 : Hid (Own w5 W.heap.size (.slice Ab nb cb) bb) := HOWN.out.below (w := Wd.drew) hb5
      have E5 : Hid (Below W.heap.size W w5) := HBEL.out.drew.trans (hb5.mono (by exact HBEL.out.size))
      have X5 : Hid (Blk w5 (W.heap.size + 1) 24 [Value.slice Ab nb cb]) := Blk.below (w := Wd.drew) HBOX.out hb5 (lt_of_block HBOX.out)
      have K5 : Hid (KK W.heap.size Wd w5) := (HKK.out.drew).trans (kk_below hb5 (by exact HBEL.out.size))
      have hc5 : w5.cell? ⟨W.heap.size + 1, 0, none⟩ = some (.slice Ab nb cb) := (X5.out.at_ 0).trans rfl
      rw [HM5.out]
      clear y5 n5 hown5 hb5
      refine ⟨_, rfl, trivial, ?_⟩
      go_simp
      refine wpS_step1 HR (i := 4) (by decide +kernel) ?_
      refine stepS_list HR rfl rfl ?_
      intro K hK
      refine app_at W rfl _ _ rfl (.slice Ab nb cb) bb rfl O5.out E5.out A5 m5 c5 sg rfl HM5.out.symm Y5.out N5.out (by exact HLEN1.out) ?_
      intro v6 w6 hown6 hbel6 hg6 hat6
      have K6 : Hid (KK W.heap.size Wd w6) := K5.out.trans (kk_app hg6 O5.out (by exact E5.out.size))
      obtain ⟨A6, c6, rfl, _, _, _, _⟩ := hown6.form
      obtain ⟨n6, hn6⟩ : ∃ n6, (bb ++ sg).length = n6 := ⟨_, rfl⟩
      have N6 := Lib.hid hn6
      rw [hn6] at hown6 ⊢
      clear hn6
      have hx6 : Blk w6 (W.heap.size + 1) 24 [Value.slice Ab nb cb] := grown_blk hg6 X5.out (own_ne O5.out X5.out (by decide))
      have hc6 : w6.cell? ⟨W.heap.size + 1, 0, none⟩ = some (.slice Ab nb cb) := (hx6.at_ 0).trans rfl
      have hf6 : w6.frozen? ⟨W.heap.size + 1, 0, none⟩ = false := hx6.free 0
      have O6 := Lib.hid hown6
      have E6 := Lib.hid hbel6
      have X6 := Lib.hid hx6
      refine wpList_nil (hK _ _ trivial ?_)
      clear hK K hown6 hbel6 hg6 hat6 hx6
      go_simp
      refine wpS_step1 HR (i := 5) (by decide +kernel) ?_
      refine stepS_list HR rfl rfl ?_
      intro K hK
      go_wp2
      refine hK _ _ trivial ?_
      clear hK K
      refine wpS_done HR (by decide +kernel) ?_
      have X7 : Hid (Blk (w6.setCell ⟨W.heap.size + 1, 0, none⟩ (.slice A6 n6 c6)) (W.heap.size + 1) 24 [.slice A6 n6 c6]) := X6.out.store 0 _
      have O7 : Hid (Own (w6.setCell ⟨W.heap.size + 1, 0, none⟩ (.slice A6 n6 c6)) W.heap.size (.slice A6 n6 c6) (bb ++ sg)) := own_store O6.out X6.out (by decide) _
      have E7 : Hid (Below W.heap.size W (w6.setCell ⟨W.heap.size + 1, 0, none⟩ (.slice A6 n6 c6))) := E6.out.setCell (by exact HNW.out) _
      have K7 : Hid (KK W.heap.size Wd (w6.setCell ⟨W.heap.size + 1, 0, none⟩ (.slice A6 n6 c6))) := K6.out.trans (kk_box X6.out (by decide) (by exact HNW.out) _)
      clear hc6 hf6 hc5 HR O6 E6 X6 K6 O5 E5 X5 K5 Y5 N5
    case' rb =>
      refine stepS_call HR rfl (by rfl) (by go_simp; exact ⟨rfl, rfl⟩) ?_
      refine (HNUM.out _).mono ?_
      rintro e w5 ⟨v5, rfl, hown5, hb5⟩
      obtain ⟨A5, c5, rfl, y5, n5, _, _⟩ := hown5.form
      have Y5 := Lib.hid y5
      have N5 := Lib.hid n5
      have O5 : Hid (Own w5 W.heap.size (.slice Ab nb cb) bb) := HOWN.out.below (w := Wd.drew) hb5
      have E5 : Hid (Below W.heap.size W w5) := HBEL.out.drew.trans (hb5.mono (by exact HBEL.out.size))
      have X5 : Hid (Blk w5 (W.heap.size + 1) 24 [Value.slice Ab nb cb]) := Blk.below (w := Wd.drew) HBOX.out hb5 (lt_of_block HBOX.out)
      have K5 : Hid (KK W.heap.size Wd w5) := (HKK.out.drew).trans (kk_below hb5 (by exact HBEL.out.size))
      have hc5 : w5.cell? ⟨W.heap.size + 1, 0, none⟩ = some (.slice Ab nb cb) := (X5.out.at_ 0).trans rfl
      rw [HM5.out]
      clear y5 n5 hown5 hb5
      refine ⟨_, rfl, trivial, ?_⟩
      go_simp
      refine wpS_step1 HR (i := 0) (by decide +kernel) ?_
      refine stepS_val HR (v := .slice Ab nb cb) rfl (by rfl) (by go_simp) trivial ?_
      go_simp
      refine wpS_step1 HR (i := 4) (by decide +kernel) ?_
      refine stepS_list HR rfl rfl ?_
      intro K hK
      refine app_at W rfl _ _ rfl (.slice Ab nb cb) bb rfl O5.out E5.out A5 m5 c5 sg rfl HM5.out.symm Y5.out N5.out (by exact HLEN1.out) ?_
      intro v6 w6 hown6 hbel6 hg6 hat6
      have K6 : Hid (KK W.heap.size Wd w6) := K5.out.trans (kk_app hg6 O5.out (by exact E5.out.size))
      obtain ⟨A6, c6, rfl, _, _, _, _⟩ := hown6.form
      obtain ⟨n6, hn6⟩ : ∃ n6, (bb ++ sg).length = n6 := ⟨_, rfl⟩
      have N6 := Lib.hid hn6
      rw [hn6] at hown6 ⊢
      clear hn6
      have hx6 : Blk w6 (W.heap.size + 1) 24 [Value.slice Ab nb cb] := grown_blk hg6 X5.out (own_ne O5.out X5.out (by decide))
      have hc6 : w6.cell? ⟨W.heap.size + 1, 0, none⟩ = some (.slice Ab nb cb) := (hx6.at_ 0).trans rfl
      have hf6 : w6.frozen? ⟨W.heap.size + 1, 0, none⟩ = false := hx6.free 0
      have O6 := Lib.hid hown6
      have E6 := Lib.hid hbel6
      have X6 := Lib.hid hx6
      refine wpList_nil (hK _ _ trivial ?_)
      clear hK K hown6 hbel6 hg6 hat6 hx6
      go_simp
      refine wpS_step1 HR (i := 5) (by decide +kernel) ?_
      refine stepS_list HR rfl rfl ?_
      intro K hK
      go_wp2
      refine hK _ _ trivial ?_
      clear hK K
      refine wpS_done HR (by decide +kernel) ?_
      have X7 : Hid (Blk (w6.setCell ⟨W.heap.size + 1, 0, none⟩ (.slice A6 n6 c6)) (W.heap.size + 1) 24 [.slice A6 n6 c6]) := X6.out.store 0 _
      have O7 : Hid (Own (w6.setCell ⟨W.heap.size + 1, 0, none⟩ (.slice A6 n6 c6)) W.heap.size (.slice A6 n6 c6) (bb ++ sg)) := own_store O6.out X6.out (by decide) _
      have E7 : Hid (Below W.heap.size W (w6.setCell ⟨W.heap.size + 1, 0, none⟩ (.slice A6 n6 c6))) := E6.out.setCell (by exact HNW.out) _
      have K7 : Hid (KK W.heap.size Wd (w6.setCell ⟨W.heap.size + 1, 0, none⟩ (.slice A6 n6 c6))) := K6.out.trans (kk_box X6.out (by decide) (by exact HNW.out) _)
      clear hc6 hf6 hc5 HR O6 E6 X6 K6 O5 E5 X5 K5 Y5 N5
    all_goals (
      clear HBOX HOWN HBEL HKK hcb hcb2 HNUM HLEN1 HM5 N6
      generalize w6.setCell ⟨W.heap.size + 1, 0, none⟩ (.slice A6 n6 c6) = w7 at *
      generalize bb ++ sg = bb7 at *
      have hcb7 : w7.cell? ⟨W.heap.size + 1, 0, none⟩ = some (.slice A6 n6 c6) := (X7.out.at_ 0).trans rfl
      have hcb8 : w7.drew.cell? ⟨W.heap.size + 1, 0, none⟩ = some (.slice A6 n6 c6) := hcb7
      gi_wp2
      refine region_in (S := fun _ => True) (k := 5) (by kernel_rfl) (by rintro ⟨a, w, h, _⟩; cases h) (by kernel_rfl) rfl (fun RG HR => ?_)
      refine wpS_take HR (i := 1) (v := .int .i64 x) rfl (by decide +kernel) (by decide +kernel) (by decide +kernel) (fun _ _ _ h => h) (by rfl) trivial (fun W hW => by go_simp) ?_
      go_simp
      refine wpS_step2 HR (i := 0) (k := 2) (by decide +kernel) ?_ ?_
      ·
        refine stepS_val HR (v := .slice A6 n6 c6) rfl (by rfl) (by go_simp) trivial ?_
        go_simp
        refine wpS_step1 HR (i := 2) (by decide +kernel) ?_
        refine stepS_call HR rfl (by rfl) (by go_simp; exact ⟨rfl, rfl⟩) ?_
        refine (HSIG.out _).mono ?_
        rintro e w8 ⟨v8, rfl, hown8, hb8⟩
        obtain ⟨A8, c8, rfl, y8, n8, _, _⟩ := hown8.form
        have Y8 := Lib.hid y8
        have N8 := Lib.hid n8
        have O8 : Hid (Own w8 W.heap.size (.slice A6 n6 c6) bb7) := O7.out.below (w := w7.drew) hb8
        have E8 : Hid (Below W.heap.size W w8) := E7.out.drew.trans (hb8.mono (by exact E7.out.size))
        have X8 : Hid (Blk w8 (W.heap.size + 1) 24 [Value.slice A6 n6 c6]) := Blk.below (w := w7.drew) X7.out hb8 (lt_of_block X7.out)
        have K8 : Hid (KK W.heap.size Wd w8) := (K7.out.drew).trans (kk_below hb8 (by exact E7.out.size))
        have hc8 : w8.cell? ⟨W.heap.size + 1, 0, none⟩ = some (.slice A6 n6 c6) := (X8.out.at_ 0).trans rfl
        rw [HM8.out]
        clear y8 n8 hown8 hb8
        refine ⟨_, rfl, trivial, ?_⟩
        go_simp
        refine wpS_step1 HR (i := 3) (by decide +kernel) ?_
        refine stepS_list HR rfl rfl ?_
        intro K hK
        refine app_at W rfl _ _ rfl (.slice A6 n6 c6) bb7 rfl O8.out E8.out A8 m8 c8 sx rfl HM8.out.symm Y8.out N8.out (by exact HLEN2.out) ?_
        intro v9 w9 hown9 hbel9 hg9 hat9
        have K9 : Hid (KK W.heap.size Wd w9) := K8.out.trans (kk_app hg9 O8.out (by exact E8.out.size))
        obtain ⟨A9, c9, rfl, _, _, _, _⟩ := hown9.form
        obtain ⟨n9, hn9⟩ : ∃ n9, (bb7 ++ sx).length = n9 := ⟨_, rfl⟩
        have N9 := Lib.hid hn9
        rw [hn9] at hown9 ⊢
        clear hn9
        have hx9 : Blk w9 (W.heap.size + 1) 24 [Value.slice A6 n6 c6] := grown_blk hg9 X8.out (own_ne O8.out X8.out (by decide))
        have hc9 : w9.cell? ⟨W.heap.size + 1, 0, none⟩ = some (.slice A6 n6 c6) := (hx9.at_ 0).trans rfl
        have hf9 : w9.frozen? ⟨W.heap.size + 1, 0, none⟩ = false := hx9.free 0
        have O9 := Lib.hid hown9
        have E9 := Lib.hid hbel9
        have X9 := Lib.hid hx9
        refine wpList_nil (hK _ _ trivial ?_)
        clear hK K hown9 hbel9 hg9 hat9 hx9
        go_simp
        refine wpS_step1 HR (i := 4) (by decide +kernel) ?_
        refine stepS_list HR rfl rfl ?_
        intro K hK
        go_wp2
        refine hK _ _ trivial ?_
        clear hK K
        refine wpS_done HR (by decide +kernel) ?_
        have X10 : Hid (Blk (w9.setCell ⟨W.heap.size + 1, 0, none⟩ (.slice A9 n9 c9)) (W.heap.size + 1) 24 [.slice A9 n9 c9]) := X9.out.store 0 _
        have O10 : Hid (Own (w9.setCell ⟨W.heap.size + 1, 0, none⟩ (.slice A9 n9 c9)) W.heap.size (.slice A9 n9 c9) (bb7 ++ sx)) := own_store O9.out X9.out (by decide) _
        have E10 : Hid (Below W.heap.size W (w9.setCell ⟨W.heap.size + 1, 0, none⟩ (.slice A9 n9 c9))) := E9.out.setCell (by exact HNW.out) _
        have K10 : Hid (KK W.heap.size Wd (w9.setCell ⟨W.heap.size + 1, 0, none⟩ (.slice A9 n9 c9))) := K9.out.trans (kk_box X9.out (by decide) (by exact HNW.out) _)
        clear hc9 hf9 hc8 HR O9 E9 X9 K9 O8 E8 X8 K8 Y8 N8
        gi_wp2
        exact ⟨K10.out.2, K10.out.1, _, X10.out, by rw [HS.out]; exact O10.out, E10.out⟩
      ·
        refine stepS_call HR rfl (by rfl) (by go_simp; exact ⟨rfl, rfl⟩) ?_
        refine (HSIG.out _).mono ?_
        rintro e w8 ⟨v8, rfl, hown8, hb8⟩
        obtain ⟨A8, c8, rfl, y8, n8, _, _⟩ := hown8.form
        have Y8 := Lib.hid y8
        have N8 := Lib.hid n8
        have O8 : Hid (Own w8 W.heap.size (.slice A6 n6 c6) bb7) := O7.out.below (w := w7.drew) hb8
        have E8 : Hid (Below W.heap.size W w8) := E7.out.drew.trans (hb8.mono (by exact E7.out.size))
        have X8 : Hid (Blk w8 (W.heap.size + 1) 24 [Value.slice A6 n6 c6]) := Blk.below (w := w7.drew) X7.out hb8 (lt_of_block X7.out)
        have K8 : Hid (KK W.heap.size Wd w8) := (K7.out.drew).trans (kk_below hb8 (by exact E7.out.size))
        have hc8 : w8.cell? ⟨W.heap.size + 1, 0, none⟩ = some (.slice A6 n6 c6) := (X8.out.at_ 0).trans rfl
        rw [HM8.out]
        clear y8 n8 hown8 hb8
        refine ⟨_, rfl, trivial, ?_⟩
        go_simp
        refine wpS_step1 HR (i := 0) (by decide +kernel) ?_
        refine stepS_val HR (v := .slice A6 n6 c6) rfl (by rfl) (by go_simp) trivial ?_
        go_simp
        refine wpS_step1 HR (i := 3) (by decide +kernel) ?_
        refine stepS_list HR rfl rfl ?_
        intro K hK
        refine app_at W rfl _ _ rfl (.slice A6 n6 c6) bb7 rfl O8.out E8.out A8 m8 c8 sx rfl HM8.out.symm Y8.out N8.out (by exact HLEN2.out) ?_
        intro v9 w9 hown9 hbel9 hg9 hat9
        have K9 : Hid (KK W.heap.size Wd w9) := K8.out.trans (kk_app hg9 O8.out (by exact E8.out.size))
        obtain ⟨A9, c9, rfl, _, _, _, _⟩ := hown9.form
        obtain ⟨n9, hn9⟩ : ∃ n9, (bb7 ++ sx).length = n9 := ⟨_, rfl⟩
        have N9 := Lib.hid hn9
        rw [hn9] at hown9 ⊢
        clear hn9
        have hx9 : Blk w9 (W.heap.size + 1) 24 [Value.slice A6 n6 c6] := grown_blk hg9 X8.out (own_ne O8.out X8.out (by decide))
        have hc9 : w9.cell? ⟨W.heap.size + 1, 0, none⟩ = some (.slice A6 n6 c6) := (hx9.at_ 0).trans rfl
        have hf9 : w9.frozen? ⟨W.heap.size + 1, 0, none⟩ = false := hx9.free 0
        have O9 := Lib.hid hown9
        have E9 := Lib.hid hbel9
        have X9 := Lib.hid hx9
        refine wpList_nil (hK _ _ trivial ?_)
        clear hK K hown9 hbel9 hg9 hat9 hx9
        go_simp
        refine wpS_step1 HR (i := 4) (by decide +kernel) ?_
        refine stepS_list HR rfl rfl ?_
        intro K hK
        go_wp2
        refine hK _ _ trivial ?_
        clear hK K
        refine wpS_done HR (by decide +kernel) ?_
        have X10 : Hid (Blk (w9.setCell ⟨W.heap.size + 1, 0, none⟩ (.slice A9 n9 c9)) (W.heap.size + 1) 24 [.slice A9 n9 c9]) := X9.out.store 0 _
        have O10 : Hid (Own (w9.setCell ⟨W.heap.size + 1, 0, none⟩ (.slice A9 n9 c9)) W.heap.size (.slice A9 n9 c9) (bb7 ++ sx)) := own_store O9.out X9.out (by decide) _
        have E10 : Hid (Below W.heap.size W (w9.setCell ⟨W.heap.size + 1, 0, none⟩ (.slice A9 n9 c9))) := E9.out.setCell (by exact HNW.out) _
        have K10 : Hid (KK W.heap.size Wd (w9.setCell ⟨W.heap.size + 1, 0, none⟩ (.slice A9 n9 c9))) := K9.out.trans (kk_box X9.out (by decide) (by exact HNW.out) _)
        clear hc9 hf9 hc8 HR O9 E9 X9 K9 O8 E8 X8 K8 Y8 N8
        gi_wp2
        exact ⟨K10.out.2, K10.out.1, _, X10.out, by rw [HS.out]; exact O10.out, E10.out⟩
      )

  case done =>
    rintro D Wd hD ⟨v, hbox, hown, hbel⟩ hK
    obtain ⟨Ab, cb, rfl, _, _, _, _⟩ := hown.form
    obtain ⟨nb, hnb⟩ : ∃ nb, (DD (runsL l).length).length = nb := ⟨_, rfl⟩
    rw [hnb] at hown hbox
    have hcb : Wd.cell? ⟨W.heap.size + 1, 0, none⟩ = some (.slice Ab nb cb) := (hbox.at_ 0).trans rfl
    have hOW := own_put hown (.deferred none) hK rfl
    have hBE : Below W.heap.size W (Wd.putObj D (.deferred none)) := hbel.grown (grownBy_putObj' Wd D (.deferred none)) hbel.size (fun r e => by cases e; omega)
    have HFIN := Lib.hid hOW
    have HB := Lib.hid hBE
    clear hOW hBE hown hbel
    gi_wp2
    refine ⟨by simp, .inl ⟨_, _, rfl, run_takeDeferred hK, ?_⟩⟩
    exact ⟨_, results_tmp2 rfl _ _ _, ⟨_, rfl, HFIN.out, HB.out⟩⟩
end Go.Proofs.YtfgmdaemcaamiaaDoor

/-! Encode in every form; the smallest of a row of sizes. -/
namespace Go.Proofs.YtfgmdaemcaamiaaDoor
open Go.RowKit
set_option linter.unusedVariables false

theorem enc_any (f : Nat) (hf : f < 4) (A : Option Addr) (cap : Nat) (l : List Int) (W : World) (hl : Ints W A l) (h64 : All64 l) (hn : l.length ≤ 4096) (hcap : l.length ≤ cap) (hT : TabAt W) :
    Calls Tryd.prog 43 #[.int .i64 (f : Int), .slice A l.length cap] W (LaidI W (encI f l)) := by
  have : f = 0 ∨ f = 1 ∨ f = 2 ∨ f = 3 := by omega
  rcases this with rfl | rfl | rfl | rfl
  · exact enc0_any A cap l W hl h64 hn
  · exact enc1_any A cap l W hl h64 hn hcap
  · exact enc2_any A cap l W hl h64 hn hT
  · exact enc3_any A cap l W hl h64 hn hT

set_option maxHeartbeats 2000000 in
theorem minI_any (A : Option Addr) (cap : Nat) (l : List Int) (W : World) (hl : Ints W A l) (hn : l.length ≤ 4611686018427387904) (h0 : 0 < l.length) :
    Calls Tryd.prog 98 #[.slice A l.length cap] W fun e W' => e = .returned (.int .i64 (minL l)) ∧ W = W' := by
  obtain ⟨b, o, rfl, hc⟩ := hl 0 h0
  have hc0 : W.cell? ⟨b, o, none⟩ = some (.int .i64 l[0]) := hc
  have hm1 : l[0] = minL (l.take 1) := by
    cases l with
    | nil => simp at h0
    | cons a t => rfl
  rw [hm1] at hc0
  have hfull : minL l = minL (l.take l.length) := by rw [List.take_length]
  rw [hfull]
  obtain ⟨n, hn2⟩ : ∃ n, l.length = n := ⟨_, rfl⟩
  have HL := Lib.hid hl
  have HN := Lib.hid hn2
  rw [hn2] at hn h0 ⊢
  clear hl hc hm1 hfull hn2
  have h1 : ¬ (n : Int) < 1 := by omega
  go_enter Tryd.func98, Tryd.ntmps98
  go_wp2
  go_loop [3, 4] (fun m i => ∃ k : Nat, (1 ≤ k ∧ k ≤ n) ∧ i = .int .i64 k ∧ m = .int .i64 (minL (l.take k))) (fun _ i => n - (intOf i).toNat)
  case atStart => exact ⟨1, by omega, rfl, rfl⟩
  case round =>
    obtain ⟨k, hk, rfl, rfl⟩ := hrel
    by_cases hlt : k < n
    · obtain ⟨b', o', e', hck⟩ := HL.out k (by rw [HN.out]; exact hlt)
      injection e' with e'
      injection e' with e1 e2
      subst e1 e2
      have hs := minL_take l k (by rw [HN.out]; exact hlt) hk.1
      generalize l[k]'(by rw [HN.out]; exact hlt) = x at hck hs
      have HS := Lib.hid hs
      clear hs
      generalize minL (l.take k) = m at *
      go_wp2
      go_round
      case rel => exact ⟨k + 1, by omega, by go_num, by rw [HS.out]⟩
      case measure => simp [intOf]; omega
    · obtain rfl : k = n := by omega
      go_wp2
      go_ret
      exact ⟨rfl, rfl⟩

/-- The first place of a number. -/
def idxL (x : Int) : List Int → Nat
  | [] => 0
  | y :: t => if y = x then 0 else idxL x t + 1
theorem idxL_at {x : Int} : ∀ {l : List Int} {k : Nat} (hk : k < l.length), (∀ j (hj : j < l.length), j < k → l[j] ≠ x) → l[k] = x → idxL x l = k
  | y :: t, 0, _, _, h => by rw [idxL, if_pos (by simpa using h)]
  | y :: t, k + 1, hk, ha, h => by
    have h0 : y ≠ x := ha 0 (by simp) (by omega)
    rw [idxL, if_neg h0, idxL_at (l := t) (k := k) (by simpa using hk) (fun j hj hjk => ha (j + 1) (by simpa using hj) (by omega)) (by simpa using h)]

set_option maxRecDepth 100000 in
set_option maxHeartbeats 2000000 in
theorem idx_any (A : Option Addr) (c : Nat) (x : Int) (l : List Int) (W : World) (hl : Ints W A l) (hn : l.length ≤ 4096) (hx : x ∈ l) :
    Calls Tryd.prog 97 #[.slice A l.length c, .int .i64 x] W fun e W' => e = .returned (.int .i64 (idxL x l : Int)) ∧ W = W' := by
  obtain ⟨b, o, rfl, hc0⟩ := hl 0 (by cases l with | nil => cases hx | cons _ _ => simp)
  have HALL : Hid (∀ k (h : k < l.length), (∀ j (hj : j < l.length), j < k → l[j] ≠ x) → l[k] = x → idxL x l = k) := fun k h h1 h2 => idxL_at h h1 h2
  have HX := Lib.hid hx
  have HL := Lib.hid hl
  obtain ⟨n, hn2⟩ : ∃ n, l.length = n := ⟨_, rfl⟩
  have HN := Lib.hid hn2
  rw [hn2] at hn ⊢
  clear hl hn2 hx hc0
  go_enter Tryd.func97, Tryd.ntmps97
  go_wp2
  go_loop [8] (fun i => ∃ k : Nat, k ≤ n ∧ i = .int .i64 k ∧ ∀ j (hj : j < l.length), j < k → l[j] ≠ x) (fun i => n - (intOf i).toNat)
  case atStart => exact ⟨0, by omega, rfl, fun j _ h => by omega⟩
  case round =>
    obtain ⟨k, hk, rfl, hall⟩ := hrel
    have HAL := Lib.hid hall
    clear hall
    by_cases hlt : k < n
    · have hk1 : k < l.length := by rw [HN.out]; exact hlt
      obtain ⟨b', o', e', hc⟩ := HL.out k hk1
      injection e' with e'
      injection e' with e1 e2
      subst e1 e2
      have HK : Hid (k < n) := hlt
      by_cases hy : l[k] = x
      · have hres := HALL.out k hk1 HAL.out hy
        rw [hy] at hc
        have HRES := Lib.hid hres
        clear hres hy
        go_wp2
        go_ret
        exact ⟨by rw [HRES.out]; rfl, rfl⟩
      · have HNX : Hid (∀ j (hj : j < l.length), j < k + 1 → l[j] ≠ x) := fun j hj h => by
          by_cases e : j = k
          · subst e; exact hy
          · exact HAL.out j hj (by omega)
        have hyx : ¬ x = l[k] := fun e => hy e.symm
        generalize l[k] = y at hc hy hyx
        go_wp2
        go_round
        case rel => exact ⟨k + 1, HK.out, by go_num, HNX.out⟩
        case measure => simp [intOf]; have := HK.out; omega
    · obtain rfl : k = n := by omega
      obtain ⟨i, hi, he⟩ := List.getElem_of_mem HX.out
      exact absurd he (HAL.out i hi (by rw [← HN.out]; exact hi))

set_option maxRecDepth 100000 in
set_option maxHeartbeats 2000000 in
theorem small_any (A : Option Addr) (c : Nat) (l : List Int) (W : World) (hl : Ints W A l) (hn : l.length ≤ 4096) (h0 : 0 < l.length) :
    Calls Tryd.prog 67 #[.slice A l.length c] W fun e W' => e = .returned (.int .i64 (idxL (minL l) l : Int)) ∧ W = W' := by
  have hmin := minI_any A c l W hl (by omega) h0
  have hidx := idx_any A c (minL l) l W hl hn (minL_mem l (by intro e; subst e; simp at h0))
  generalize l.length = n at *
  generalize idxL (minL l) l = r at *
  generalize minL l = m at *
  clear hl
  go_enter Tryd.func67, Tryd.ntmps67
  go_wp2_with (first | (go_at_call 98; refine hmin.mono ?_; rintro e w1 ⟨rfl, rfl⟩) | (go_at_call 97; refine hidx.mono ?_; rintro e w1 ⟨rfl, rfl⟩))
  all_goals (go_ret; exact ⟨rfl, rfl⟩)
/-- The sizes that are known so far. -/
def szC (l : List Int) (k : Nat) : List Value := (List.range 4).map fun i => .int .i64 (if i < k then (sizeI l i : Int) else 0)
theorem szC_len (l : List Int) (k : Nat) : (szC l k).length = 4 := by simp [szC]
theorem szC_set (l : List Int) (k : Nat) (hk : k < 4) : (szC l k).set k (.int .i64 (sizeI l k : Int)) = szC l (k + 1) := by
  have : k = 0 ∨ k = 1 ∨ k = 2 ∨ k = 3 := by omega
  rcases this with rfl | rfl | rfl | rfl <;> simp [szC, List.range, List.range.loop]
/-- The sizes in every form. -/
def szL (l : List Int) : List Int := [(sizeI l 0 : Int), sizeI l 1, sizeI l 2, sizeI l 3]
theorem szC_full (l : List Int) : szC l 4 = (szL l).map (Value.int .i64) := by simp [szC, szL, List.range, List.range.loop]
theorem szC_at (l : List Int) (k : Nat) (hk : k < 4) : (szC l k)[k]? = some (.int .i64 0) := by
  have : k = 0 ∨ k = 1 ∨ k = 2 ∨ k = 3 := by omega
  rcases this with rfl | rfl | rfl | rfl <;> simp [szC, List.range, List.range.loop]
theorem idx_best (l : List Int) : idxL (minL (szL l)) (szL l) = bestL l := by
  obtain ⟨h1, h2⟩ := bestL_spec l
  have hmem := minL_mem (szL l) (by simp [szL])
  have hle := minL_le (szL l)
  generalize minL (szL l) = m at *
  generalize bestL l = b at *
  have g0 := h2 0 (by omega)
  have g1 := h2 1 (by omega)
  have g2 := h2 2 (by omega)
  have g3 := h2 3 (by omega)
  unfold szL at *
  simp only [List.mem_cons, List.not_mem_nil, or_false] at hmem
  have l0 := hle (sizeI l 0) (by simp)
  have l1 := hle (sizeI l 1) (by simp)
  have l2 := hle (sizeI l 2) (by simp)
  have l3 := hle (sizeI l 3) (by simp)
  simp only [idxL]
  have : b = 0 ∨ b = 1 ∨ b = 2 ∨ b = 3 := by omega
  clear h2 hle h1
  rcases this with rfl | rfl | rfl | rfl
  all_goals generalize sizeI l 0 = a at *
  all_goals generalize sizeI l 1 = b at *
  all_goals generalize sizeI l 2 = c at *
  all_goals generalize sizeI l 3 = d at *
  all_goals (repeat' split)
  all_goals omega
set_option maxRecDepth 100000 in
set_option maxHeartbeats 4000000 in
theorem best_big (A : Option Addr) (cap n : Nat) (W : World) (hn : n ≤ 4611686018427387904) (h : 4096 < n) :
    Calls Tryd.prog 42 #[.slice A n cap] W fun e W' => e = .returned (.tuple #[.int .i64 0, .int .i64 2]) ∧ Below W.heap.size W W' := by
  have henc := fun (w1 : World) => enc_bad 0 A cap n w1 hn (.inr (.inr h))
  have hbe : Below W.heap.size W (W.alloc (.cells #[Value.int .i64 0, .int .i64 0, .int .i64 0, .int .i64 0] 99)) := (Below.refl _ _).alloc (Nat.le_refl _) _
  have HENC := Lib.hid henc
  have HBE := Lib.hid hbe
  clear henc hbe
  go_enter Tryd.func42, Tryd.ntmps42
  go_wp2
  go_loopw [8] (fun x wr => x = .int .i64 0 ∧ Below W.heap.size W wr) (fun x _ => 0)
  case atStart => exact ⟨rfl, HBE.out⟩
  case round =>
    obtain ⟨rfl, hbel⟩ := hrel
    have HBEL := Lib.hid hbel
    clear hbel
    go_wp2_with (go_at_call 43; refine (HENC.out _).mono ?_; rintro e w1 ⟨rfl, rfl⟩)
    go_ret2
    exact ⟨rfl, HBEL.out⟩
set_option maxRecDepth 100000 in
set_option maxHeartbeats 4000000 in
theorem best_any (A : Option Addr) (cap : Nat) (l : List Int) (W : World) (hl : Ints W A l) (h64 : All64 l) (hn : l.length ≤ 4096) (hcap : l.length ≤ cap) (hT : TabAt W) :
    Calls Tryd.prog 42 #[.slice A l.length cap] W fun e W' => e = .returned (.tuple #[.int .i64 (bestL l : Int), .int .i64 0]) ∧ Below W.heap.size W W' := by
  have henc := fun f (hf : f < 4) (w1 : World) (hb : Below W.heap.size W w1) => enc_any f hf A cap l w1 (hl.keep hb) h64 hn hcap (hT.keep hb)
  have hsz : ∀ f, (encI f l).length = sizeI l f := fun f => rfl
  have hszb : ∀ f, sizeI l f ≤ 100001 := fun f => by
    have := encB_len (f := f) hn
    show (encI f l).length ≤ _
    unfold encI
    rw [List.length_cons]
    omega
  rw [← idx_best]
  have HENC := Lib.hid henc
  have HSZ := Lib.hid hsz
  have HSB := Lib.hid hszb
  have hb0 : Blk (W.alloc (.cells (szC l 0).toArray 99)) W.heap.size 99 (szC l 0) := Blk.born W _ _
  have hbe : Below W.heap.size W (W.alloc (.cells (szC l 0).toArray 99)) := (Below.refl _ _).alloc (Nat.le_refl _) _
  have HB0 := Lib.hid hb0
  have HBE := Lib.hid hbe
  generalize l.length = n at *
  clear hl h64 henc hsz hszb hT hb0 hbe
  go_enter Tryd.func42, Tryd.ntmps42
  go_wp2
  go_loopw [8] (fun x wr => ∃ k : Nat, k ≤ 4 ∧ x = .int .i64 k ∧ Blk wr W.heap.size 99 (szC l k) ∧ Below W.heap.size W wr) (fun x _ => 4 - (intOf x).toNat)
  case atStart => exact ⟨0, by omega, rfl, HB0.out, HBE.out⟩
  case round =>
    obtain ⟨k, hk, rfl, hbk, hbel⟩ := hrel
    by_cases hlt : k < 4
    · have hcall := HENC.out k hlt wr hbel
      have hset := szC_set l k hlt
      have hln := HSZ.out k
      have hsb := HSB.out k
      generalize encI k l = eb at hcall hln
      generalize sizeI l k = sk at hset hln hsb
      have HCALL := Lib.hid hcall
      have HBK := Lib.hid hbk
      have HBEL := Lib.hid hbel
      have HSET := Lib.hid hset
      have HLT : Hid (k < 4) := hlt
      have HAT : Hid ((szC l k)[k]? = some (.int .i64 0)) := szC_at l k hlt
      clear hcall hbk hbel hset
      subst hln
      unfold LaidI at HCALL
      go_wp2_with (go_at_call 43; refine HCALL.out.mono ?_; rintro e w1 ⟨v1, rfl, hown, hb1⟩; obtain ⟨A1, c1, rfl, _, _, _, _⟩ := hown.form; have HB1 := Lib.hid hb1; clear hown hb1 HCALL; have hbq := Blk.below HBK.out HB1.out (lt_of_block HBK.out); have HBQ := Lib.hid hbq; have hfz : w1.frozen? ⟨W.heap.size, k, none⟩ = false := hbq.free k; have hce : w1.cell? ⟨W.heap.size, k, none⟩ = some (.int .i64 0) := (hbq.at_ k).trans HAT.out; clear hbq)
      go_roundw
      case rel =>
        have hst := HBQ.out.store k (.int .i64 (eb.length : Int))
        rw [HSET.out] at hst
        exact ⟨k + 1, HLT.out, by go_num, hst, (HBEL.out.trans (HB1.out.mono (by exact HBEL.out.size))).setCell (Nat.le_refl _) _⟩
      case measure => simp [intOf]; omega
    · obtain rfl : k = 4 := by omega
      rw [szC_full] at hbk
      have hints : Ints wr (some ⟨W.heap.size, 0, none⟩) (szL l) := by
        intro i hi
        refine ⟨_, 0, rfl, ?_⟩
        rw [Nat.zero_add]
        exact (hbk.at_ i).trans (by simp [hi])
      have hsm := small_any (some ⟨W.heap.size, 0, none⟩) 4 (szL l) wr hints (by simp [szL]) (by simp [szL])
      have e4 : (szL l).length = 4 := rfl
      rw [e4] at hsm
      obtain ⟨r, hr⟩ : ∃ r, idxL (minL (szL l)) (szL l) = r := ⟨_, rfl⟩
      have HR := Lib.hid hr
      rw [hr] at hsm
      have HBEL := Lib.hid hbel
      clear hbel hints hbk hr
      go_wp2_with (go_at_call 67; refine hsm.mono ?_; rintro e w1 ⟨rfl, rfl⟩)
      go_ret2
      exact ⟨by rw [HR.out]; rfl, HBEL.out⟩
end Go.Proofs.YtfgmdaemcaamiaaDoor

/-! The head 'shown' of the laws. -/
namespace Go.Proofs.YtfgmdaemcaamiaaDoor
open Go.RowKit
set_option linter.unusedVariables false

theorem ints_blk {W : World} {g : Nat} {t : TypeId} {l : List Int} (h : Blk W g t (l.map (Value.int .i64))) : Ints W (some ⟨g, 0, none⟩) l := by
  intro i hi
  refine ⟨g, 0, rfl, ?_⟩
  rw [Nat.zero_add]
  exact (h.at_ i).trans (by simp [hi])
theorem ints_born (W : World) (t : TypeId) (l : List Int) : Ints (W.alloc (.cells (l.map (Value.int .i64)).toArray t)) (some ⟨W.heap.size, 0, none⟩) l := ints_blk (Blk.born W t _)
theorem encI_567 : encI 2 [5, 6, 7] = [2, 10, 2, 10] := by decide +kernel
theorem best_777 : bestL [7, 7, 7] = 1 := by decide +kernel

end Go.Proofs.YtfgmdaemcaamiaaDoor

/-! The walk of IntsSmall. -/
namespace Go.Proofs.YtfgmdaemcaamiaaDoor
open Go.RowKit
set_option linter.unusedVariables false

theorem info_i64 : (Tryd.prog.info? 2).map (fun i => (i.zero, i.size, i.bytes)) = some (some (.int .i64 0), 1, 8) := by kernel_rfl
/-- Integers in memory. -/
def i64s (l : List Int) : List Value := l.map (Value.int .i64)
theorem i64s_len (l : List Int) : (i64s l).length = l.length := by simp [i64s]
theorem made_i64 (k : Nat) : madeCells (Value.int .i64 0).cells k = (i64s (List.replicate k 0)).toArray := by
  apply Array.ext'
  apply List.ext_getElem
  · simp [madeCells, i64s]
  · intro i h1 h2
    have e1 : i % 1 = 0 := Nat.mod_one i
    simp [madeCells, i64s, Value.cells, e1]
theorem mk_i64 {ops : Array Oper} {rest : List Oper} {o : Oper} {a : Act} {Q : Exit → Act → World → Prop} {w : World} (hgd : o.guard = none) (l c : Operand)
    (hop : o.op = Op.makeSlice 69 l c) (k : Nat) (hl : a.eval l = .int .i64 (k : Int)) (hc : a.eval c = .int .i64 (k : Int)) (hsz : k ≤ 281474976710)
    (h : wpList Tryd.prog ops Q rest (a.put o.dst (.slice (some ⟨w.heap.size, 0, none⟩) k k)) (w.alloc (.cells (i64s (List.replicate k 0)).toArray 2))) : wpList Tryd.prog ops Q (o :: rest) a w := by
  obtain ⟨i0, hti, hz0, hz1, hz2⟩ := info_parts info_i64
  have hr := run_make (P := Tryd.prog) w 69 2 i0 (.int .i64 0) Tryd.underlying69 hti hz0 .i64 .i64 k k (by omega) (by omega) (by rw [hz2]; omega) (by omega)
  simp only [Int.toNat_natCast] at hr
  rw [hz1, Nat.mul_one, made_i64] at hr
  refine wpList_plain hgd fun K hK' => ?_
  unfold Oper.wp
  simp [execOp, hop, hl, hc, hr, Result.andThen]
  exact hK' _ _ h
theorem rep_put (x : Int) (n k : Nat) (hk : k < n) : (i64s (List.replicate k x ++ List.replicate (n - k) 0)).set k (.int .i64 x) = i64s (List.replicate (k + 1) x ++ List.replicate (n - (k + 1)) 0) := by
  unfold i64s
  apply List.ext_getElem
  · simp; omega
  · intro i h1 h2
    rw [List.getElem_set]
    simp only [List.getElem_map, List.getElem_append, List.length_replicate, List.getElem_replicate]
    by_cases e : k = i
    · subst e; simp
    · rw [if_neg e]
      by_cases h : i < k
      · rw [dif_pos h, dif_pos (by omega)]
      · rw [dif_neg h, dif_neg (by omega)]

end Go.Proofs.YtfgmdaemcaamiaaDoor

/-! Integers that came in. -/
namespace Go.Proofs.YtfgmdaemcaamiaaDoor
open Go.RowKit
theorem i64_wf {n : Int} (h : (Lit.int .i64 n).wf = true) : I64 n := by
  simp [Lit.wf, IntKind.min, IntKind.max, IntKind.signed, IntKind.bits] at h
  unfold I64
  omega
end Go.Proofs.YtfgmdaemcaamiaaDoor

/-! The walk of IntsBest. -/
namespace Go.Proofs.YtfgmdaemcaamiaaDoor
open Go.RowKit
set_option linter.unusedVariables false

end Go.Proofs.YtfgmdaemcaamiaaDoor

/-! Rows of integers of the call's own. -/
namespace Go.Proofs.YtfgmdaemcaamiaaDoor
open Go.RowKit
set_option linter.unusedVariables false

def OwnI (w : World) (B : Nat) (v : Value) (l : List Int) : Prop := w.ownsRow B 2 1 v l.length (i64s l)
theorem i64s_app (l m : List Int) : i64s (l ++ m) = i64s l ++ i64s m := by simp [i64s]
theorem i64s_one (l : List Int) : ∀ u ∈ i64s l, u.oneCell' = true := by
  intro u hu
  obtain ⟨c, _, rfl⟩ := List.mem_map.1 hu
  rfl
theorem Ints.news {w : World} {ad : Addr} {l : List Int} (h : Ints w (some ad) l) : ∀ j u, (i64s l)[j]? = some u → w.cell? (ad.add j) = some u := by
  intro j u hu
  have hj : j < l.length := by
    have := (List.getElem?_eq_some_iff.1 hu).1
    rwa [i64s_len] at this
  obtain ⟨b, o, e, hc⟩ := h j hj
  injection e with e
  subst e
  rw [Addr.add_lit, hc, ← hu]
  simp [i64s, hj]
theorem OwnI.form {w : World} {B : Nat} {v : Value} {l : List Int} (h : OwnI w B v l) : ∃ A c, v = .slice A l.length c ∧ Ints w A l ∧ (A = none → c = 0) ∧ l.length ≤ c := by
  rcases h.2 with ⟨rfl, h0⟩ | ⟨g, cap, cur, rfl, hb, hg, hn, hm, hs, ht⟩
  · have : l = [] := List.length_eq_zero_iff.1 h0
    subst this
    exact ⟨none, 0, rfl, fun k hk => by simp at hk, fun _ => rfl, Nat.le_refl _⟩
  · refine ⟨some ⟨g, 0, none⟩, cap, rfl, ?_, by simp, hn⟩
    intro k hk
    refine ⟨g, 0, rfl, ?_⟩
    have := World.ownsRow.cells h (g := g) rfl k (.int .i64 l[k]) (by simp [i64s, hk])
    rwa [Addr.add_lit] at this
theorem app_i64 {ops : Array Oper} {rest : List Oper} {o : Oper} {a : Act} {Q : Exit → Act → World → Prop} {w : World} (w0 : World) (hgd : o.guard = none) (s x : Operand)
    (ho : o.op = .call { callee := .builtin .append, args := #[s, x], argTypes := #[69, 69] }) (v : Value) (d : List Int) (hs : a.eval s = v) (hown : OwnI w w0.heap.size v d) (hbel : Below w0.heap.size w0 w)
    (A : Option Addr) (m c : Nat) (q : List Int) (hx : a.eval x = .slice A m c) (hm : m = q.length) (hq : Ints w A q) (hn : A = none → c = 0) (hsz : d.length + q.length ≤ 17000000000000)
    (h : ∀ v' w', OwnI w' w0.heap.size v' (d ++ q) → Below w0.heap.size w0 w' → wpList Tryd.prog ops Q rest (a.put o.dst v') w') : wpList Tryd.prog ops Q (o :: rest) a w := by
  obtain ⟨i0, hti, hz0, hz1, hz2⟩ := info_parts info_i64
  subst hm
  cases A with
  | none =>
    obtain rfl := hq.nil
    obtain rfl := hn rfl
    refine wpList_append_own_none hgd s x 69 ho w0.heap.size 2 i0 1 Tryd.underlying69 hti v d.length (i64s d) hs hown hx (h v w ?_ hbel)
    rw [List.append_nil]; exact hown
  | some ad =>
    refine wpList_append_own w hgd s x 69 ho w0.heap.size 2 i0 (.int .i64 0) 1 8 Tryd.underlying69 hti hz0 hz1 hz2 rfl (by decide) v d.length (i64s d) hs hown ad q.length c (i64s q) hx (by rw [i64s_len]; omega) hq.news (i64s_one q) (by unfold maxLen; omega) (by omega) hbel.size ?_
    intro v' w' h1 h2 h5
    refine h v' w' ?_ (hbel.grown h2 hbel.size (fun k hk => (World.ownsRow.lt hown k hk).1))
    show w'.ownsRow w0.heap.size 2 1 v' (d ++ q).length (i64s (d ++ q))
    rw [List.length_append, i64s_app]; exact h1

end Go.Proofs.YtfgmdaemcaamiaaDoor
