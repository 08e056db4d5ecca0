/- The walk of the document's Parse of a schema. -/
import Derived.Test.YtabnjiepmhblaaaDoorTxE
import Derived.Test.YtabnjiepmhblaaaDoorTxD
namespace Go.Proofs.YtabnjiepmhblaaaDoor
open Go.RowKit Go.Shelf Go.Maps
set_option linter.unusedVariables false

def dropB (t : List UInt8) : List UInt8 := match t with | [] => [] | x :: r => if x = 32 then r else x :: r
/-- The kind of a word, of those up to j. -/
def kindUp (w : List UInt8) : Nat → Int
  | 0 => 0
  | j + 1 => if w = wordT ((j : Int) + 1) then (j : Int) + 1 else kindUp w j
def looseP : List (List UInt8) → Option (List UInt8 × Int × Bool)
  | nm :: wd :: rest => some (nm, kindUp wd 3, !rest.isEmpty)
  | _ => none
def looseC (t : List UInt8) : Option (List UInt8 × Int × Bool) := looseP (partsL 32 (dropB t))
def looseCs : List (List UInt8) → Option (List Col)
  | [] => some []
  | p :: ps => match looseC p with | some x => (match looseCs ps with | some l => some (colP x :: l) | none => none) | none => none
def looseL (s : List UInt8) : Option (List Col) := if 16 < (partsL 44 s).length then none else looseCs (partsL 44 s)
/-- What the document's Parse answers. -/
def refS (s : List UInt8) : Option (List Col) := match looseL s with
  | some cs => if rightC cs = true ∧ showL cs = s then some cs else none
  | none => none

theorem parts_pre : ∀ (pre x : List UInt8) (ys : List (List UInt8)), (44 : UInt8) ∉ pre ++ x → (∀ y ∈ ys, (44 : UInt8) ∉ y) → partsL 44 (pre ++ Lib.join (x :: ys) [44, 32]) = (pre ++ x) :: ys.map (fun y => 32 :: y)
  | pre, x, [], h, _ => by rw [join_one, parts_end _ _ h]; rfl
  | pre, x, y :: t, h, hy => by
    rw [join_cons, ← List.append_assoc, parts_hit _ _ _ h]
    have h2 : (44 : UInt8) ∉ [32] ++ y := by
      rw [List.mem_append]
      rintro (h3 | h3)
      · simp at h3
      · exact hy y (by simp) h3
    have := parts_pre [32] y t h2 (fun z hz => hy z (List.mem_cons_of_mem _ hz))
    rw [show (32 :: Lib.join (y :: t) [44, 32]) = [32] ++ Lib.join (y :: t) [44, 32] by rfl, this]
    rfl
theorem tail_parts (k : Int) (nl : Bool) (h : k = 1 ∨ k = 2 ∨ k = 3) : ∃ r, tailT k nl = 32 :: r ∧ ∃ rest, partsL 32 r = wordT k :: rest ∧ rest.isEmpty = !nl := by
  rcases h with rfl | rfl | rfl <;> cases nl <;> exact ⟨_, rfl, _, rfl, rfl⟩
theorem kindUp_word (k : Int) (h : k = 1 ∨ k = 2 ∨ k = 3) : kindUp (wordT k) 3 = k := by
  rcases h with rfl | rfl | rfl <;> decide
theorem loose_show {c : Col} (h : colOk c = true) : looseC (showC c) = some (c.name.data.toList, c.kind, c.null) ∧ looseC (32 :: showC c) = some (c.name.data.toList, c.kind, c.null) := by
  obtain ⟨h1, h2⟩ := colOk_parts h
  have hk : c.kind = 1 ∨ c.kind = 2 ∨ c.kind = 3 := by omega
  obtain ⟨hn, _⟩ := name_chars h1
  obtain ⟨r, hr, rest, hp, he⟩ := tail_parts c.kind c.null hk
  have hl : 1 ≤ c.name.data.toList.length := by
    unfold nameL at h1
    rw [Bool.and_eq_true, decide_eq_true_iff] at h1
    exact h1.1.1
  obtain ⟨x, t, hx⟩ : ∃ x t, c.name.data.toList = x :: t := by
    cases hq : c.name.data.toList with
    | nil => rw [hq] at hl; simp at hl
    | cons x t => exact ⟨x, t, rfl⟩
  have hx32 : x ≠ 32 := fun e => hn (by rw [hx, e]; simp)
  have hparts : partsL 32 (showC c) = c.name.data.toList :: wordT c.kind :: rest := by
    rw [showC_eq, hr, parts_hit _ _ _ hn, hp]
  have hd1 : dropB (showC c) = showC c := by
    rw [showC_eq, hx]
    show (if x = 32 then _ else _) = _
    rw [if_neg hx32]
    rfl
  have hd2 : dropB (32 :: showC c) = showC c := rfl
  constructor
  · unfold looseC
    rw [hd1, hparts]
    simp only [looseP, kindUp_word _ hk, he, Bool.not_not]
  · unfold looseC
    rw [hd2, hparts]
    simp only [looseP, kindUp_word _ hk, he, Bool.not_not]
theorem colP_col (c : Col) : colP (c.name.data.toList, c.kind, c.null) = c := by
  have hb := c.bound
  cases c with
  | mk nm k nl b =>
    unfold colP
    simp only [Col.mk.injEq, and_true]
    have : nm.data.toList.length ≤ 140737488351232 := by rw [sz_list]; exact b
    rw [List.take_of_length_le this]
    simp [str]
theorem looseCs_show : ∀ {l : List Col}, (∀ c ∈ l, colOk c = true) → looseCs (l.map (fun c => 32 :: showC c)) = some l
  | [], _ => rfl
  | c :: l, h => by
    rw [List.map_cons, looseCs, (loose_show (h c (by simp))).2, looseCs_show (fun x hx => h x (List.mem_cons_of_mem _ hx))]
    show some (colP _ :: l) = _
    rw [colP_col]
theorem loose_back {l : List Col} (h : rightC l = true) : looseL (showL l) = some l := by
  have hl := rightC_lens h
  have hok := cols_ok h
  cases l with
  | nil => simp at hl
  | cons c t =>
    have hp : partsL 44 (showL (c :: t)) = showC c :: t.map (fun c => 32 :: showC c) := by
      have := parts_pre [] (showC c) (t.map showC) (by simpa using showC_comma (hok c (by simp))) (fun y hy => by
        obtain ⟨d, hd, rfl⟩ := List.mem_map.1 hy
        exact showC_comma (hok d (List.mem_cons_of_mem _ hd)))
      rw [List.nil_append, List.nil_append, List.map_map] at this
      exact this
    unfold looseL
    rw [hp, if_neg (by rw [List.length_cons, List.length_map]; rw [List.length_cons] at hl; omega), looseCs, (loose_show (hok c (by simp))).1, looseCs_show (fun x hx => hok x (List.mem_cons_of_mem _ hx))]
    show some (colP _ :: t) = _
    rw [colP_col]
/-- The document's Parse reads what the program's reads. -/
theorem refS_eq (s : List UInt8) (hs : s.length ≤ 140737488351232) : refS s = parseL s := by
  cases hp : parseL s with
  | some l =>
    obtain ⟨h1, h2⟩ := parseL_show hs hp
    unfold refS
    rw [← h2, loose_back h1]
    simp only [h1, and_self, if_true]
  | none =>
    unfold refS
    cases hl : looseL s with
    | none => rfl
    | some cs =>
      simp only
      by_cases hc : rightC cs = true ∧ showL cs = s
      · have := (parseL_iff hs).2 hc
        rw [this] at hp
        cases hp
      · rw [if_neg hc]
theorem looseCs_snoc : ∀ (l : List (List UInt8)) (p : List UInt8), looseCs (l ++ [p]) = match looseCs l with | some cs => (match looseC p with | some x => some (cs ++ [colP x]) | none => none) | none => none
  | [], p => by
    simp only [List.nil_append, looseCs]
  | q :: l, p => by
    rw [List.cons_append, looseCs, looseCs, looseCs_snoc l p]
    cases looseC q with
    | none => rfl
    | some x =>
      cases looseCs l with
      | none => rfl
      | some cs => cases looseC p <;> rfl
theorem looseCs_stuck : ∀ (l m : List (List UInt8)), looseCs l = none → looseCs (l ++ m) = none
  | [], m, h => by cases h
  | q :: l, m, h => by
    rw [List.cons_append]
    rw [looseCs] at h ⊢
    cases hq : looseC q with
    | none => rfl
    | some x =>
      rw [hq] at h
      cases hl : looseCs l with
      | none => rw [looseCs_stuck l m hl]
      | some cs => rw [hl] at h; cases h
theorem looseCs_len : ∀ {l : List (List UInt8)} {cs : List Col}, looseCs l = some cs → cs.length = l.length
  | [], cs, h => by
    have : cs = [] := by simpa [looseCs] using h.symm
    rw [this]; rfl
  | p :: ps, cs, h => by
    rw [looseCs] at h
    cases hp : looseC p with
    | none => rw [hp] at h; cases h
    | some x =>
      rw [hp] at h
      cases hq : looseCs ps with
      | none => rw [hq] at h; cases h
      | some m =>
        rw [hq] at h
        have e : cs = colP x :: m := (Option.some.inj h).symm
        rw [e, List.length_cons, List.length_cons, looseCs_len hq]
end Go.Proofs.YtabnjiepmhblaaaDoor
