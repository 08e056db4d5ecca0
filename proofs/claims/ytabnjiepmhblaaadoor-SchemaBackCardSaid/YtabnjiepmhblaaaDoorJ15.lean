/- Joined texts: A column off a text: the plain model of parseColumn, and that it reads what Show writes. A text cut at ', ' and joined again; what Parse reads of a text, plain. -/
import Derived.Test.YtabnjiepmhblaaaDoorJ14
import Derived.Lib.Split
import Derived.Lib.IndexMore
/-! A column off a text: the plain model of parseColumn, and that it reads what Show writes. -/
namespace Go.Proofs.YtabnjiepmhblaaaDoor
set_option linter.unusedVariables false

theorem has_iff {s p : List UInt8} : Lib.hasSuffix s p = true ↔ ∃ t, s = t ++ p := by
  unfold Lib.hasSuffix
  rw [List.isSuffixOf_iff_suffix]
  exact ⟨fun ⟨t, h⟩ => ⟨t, h.symm⟩, fun ⟨t, h⟩ => ⟨t, h.symm⟩⟩
theorem trim_app (t p : List UInt8) : Lib.trimSuffix (t ++ p) p = t := by
  unfold Lib.trimSuffix
  rw [if_pos (has_iff.2 ⟨t, rfl⟩)]
  simp
theorem trim_no {s p : List UInt8} (h : Lib.hasSuffix s p = false) : Lib.trimSuffix s p = s := by
  unfold Lib.trimSuffix
  rw [h]
  rfl
/-- The word that null may stand. -/
def nullT : List UInt8 := [32, 110, 117, 108, 108]
/-- The name, the kind and null of a column's text. -/
def parseC (s : List UInt8) : Option (List UInt8 × Int × Bool) :=
  if Lib.hasSuffix (Lib.trimSuffix s nullT) (kindT 1) then some (Lib.trimSuffix (Lib.trimSuffix s nullT) (kindT 1), 1, Lib.hasSuffix s nullT)
  else if Lib.hasSuffix (Lib.trimSuffix s nullT) (kindT 2) then some (Lib.trimSuffix (Lib.trimSuffix s nullT) (kindT 2), 2, Lib.hasSuffix s nullT)
  else if Lib.hasSuffix (Lib.trimSuffix s nullT) (kindT 3) then some (Lib.trimSuffix (Lib.trimSuffix s nullT) (kindT 3), 3, Lib.hasSuffix s nullT)
  else none
theorem null_back (s : List UInt8) : s = Lib.trimSuffix s nullT ++ if Lib.hasSuffix s nullT then nullT else [] := by
  cases h : Lib.hasSuffix s nullT with
  | true =>
    obtain ⟨t, rfl⟩ := has_iff.1 h
    rw [trim_app]
    rfl
  | false => rw [trim_no h]; simp
/-- What is read off a text, written again, is the text. -/
theorem parseC_back {s nm : List UInt8} {k : Int} {nl : Bool} (h : parseC s = some (nm, k, nl)) : (k = 1 ∨ k = 2 ∨ k = 3) ∧ s = nm ++ tailT k nl := by
  have hs := null_back s
  unfold parseC at h
  by_cases h1 : Lib.hasSuffix (Lib.trimSuffix s nullT) (kindT 1) = true
  · rw [if_pos h1] at h
    simp only [Option.some.injEq, Prod.mk.injEq] at h
    obtain ⟨rfl, rfl, rfl⟩ := h
    refine ⟨by simp, ?_⟩
    obtain ⟨t, ht⟩ := has_iff.1 h1
    unfold tailT
    rw [← List.append_assoc, ht, trim_app, ← ht]
    exact hs
  · rw [if_neg h1] at h
    by_cases h2 : Lib.hasSuffix (Lib.trimSuffix s nullT) (kindT 2) = true
    · rw [if_pos h2] at h
      simp only [Option.some.injEq, Prod.mk.injEq] at h
      obtain ⟨rfl, rfl, rfl⟩ := h
      refine ⟨by simp, ?_⟩
      obtain ⟨t, ht⟩ := has_iff.1 h2
      unfold tailT
      rw [← List.append_assoc, ht, trim_app, ← ht]
      exact hs
    · rw [if_neg h2] at h
      by_cases h3 : Lib.hasSuffix (Lib.trimSuffix s nullT) (kindT 3) = true
      · rw [if_pos h3] at h
        simp only [Option.some.injEq, Prod.mk.injEq] at h
        obtain ⟨rfl, rfl, rfl⟩ := h
        refine ⟨by simp, ?_⟩
        obtain ⟨t, ht⟩ := has_iff.1 h3
        unfold tailT
        rw [← List.append_assoc, ht, trim_app, ← ht]
        exact hs
      · rw [if_neg h3] at h; cases h
theorem no_end {nm p q : List UInt8} (h : ∀ t, p.reverse ++ t ≠ q.reverse ++ nm.reverse) : Lib.hasSuffix (nm ++ q) p = false := by
  rw [Bool.eq_false_iff]
  intro h2
  obtain ⟨t, e⟩ := has_iff.1 h2
  apply h t.reverse
  have := congrArg List.reverse e
  rw [List.reverse_append, List.reverse_append] at this
  exact this.symm
/-- What Show writes of a column is read as it is. -/
theorem parseC_show (nm : List UInt8) (k : Int) (nl : Bool) (hk : k = 1 ∨ k = 2 ∨ k = 3) : parseC (nm ++ tailT k nl) = some (nm, k, nl) := by
  have hno : Lib.hasSuffix (nm ++ kindT k) nullT = false := by
    rcases hk with rfl | rfl | rfl <;> exact no_end (by intro t e; simp [nullT, kindT] at e)
  have h1 : Lib.trimSuffix (nm ++ tailT k nl) nullT = nm ++ kindT k ∧ Lib.hasSuffix (nm ++ tailT k nl) nullT = nl := by
    unfold tailT
    cases nl with
    | true =>
      show Lib.trimSuffix (nm ++ (kindT k ++ nullT)) nullT = _ ∧ Lib.hasSuffix (nm ++ (kindT k ++ nullT)) nullT = true
      rw [← List.append_assoc, trim_app]
      exact ⟨rfl, has_iff.2 ⟨_, rfl⟩⟩
    | false =>
      show Lib.trimSuffix (nm ++ (kindT k ++ [])) nullT = _ ∧ Lib.hasSuffix (nm ++ (kindT k ++ [])) nullT = false
      rw [List.append_nil]
      exact ⟨trim_no hno, hno⟩
  unfold parseC
  rw [h1.1, h1.2]
  rcases hk with rfl | rfl | rfl
  · rw [if_pos (has_iff.2 ⟨nm, rfl⟩), trim_app]
  · rw [if_neg (by rw [no_end (by intro t e; simp [kindT] at e)]; simp), if_pos (has_iff.2 ⟨nm, rfl⟩), trim_app]
  · rw [if_neg (by rw [no_end (by intro t e; simp [kindT] at e)]; simp), if_neg (by rw [no_end (by intro t e; simp [kindT] at e)]; simp), if_pos (has_iff.2 ⟨nm, rfl⟩), trim_app]
end Go.Proofs.YtabnjiepmhblaaaDoor

/-! A text cut at ', ' and joined again; what Parse reads of a text, plain. -/
namespace Go.Proofs.YtabnjiepmhblaaaDoor
set_option linter.unusedVariables false

theorem occ_drop {s p : List UInt8} {i : Nat} (h : Lib.occAt s p i = true) : s = s.take i ++ (p ++ s.drop (i + p.length)) := by
  unfold Lib.occAt at h
  rw [List.isPrefixOf_iff_prefix] at h
  obtain ⟨t, ht⟩ := h
  have h2 : s.drop (i + p.length) = t := by
    rw [← List.drop_drop, ← ht]; simp
  rw [h2, ht, List.take_append_drop]
theorem splitK_ne (p : List UInt8) (k : Nat) (s : List UInt8) : Lib.splitK p 0 k s ≠ [] := by
  cases k with
  | zero => simp [Lib.splitK]
  | succ k =>
    unfold Lib.splitK
    split <;> simp
/-- The pieces, joined again, are the text. -/
theorem join_split : ∀ (k : Nat) (s : List UInt8), Lib.join (Lib.splitK [44, 32] 0 k s) [44, 32] = s
  | 0, s => join_one s
  | k + 1, s => by
    unfold Lib.splitK
    rcases Lib.index_spec s [44, 32] with ⟨h, _⟩ | ⟨i, h, hi, ho, _⟩
    · rw [if_pos (by rw [h]; rfl)]
      exact join_one s
    · have hne : ¬ (Lib.index s [44, 32] == -1) = true := by rw [h]; intro e; have := beq_iff_eq.1 e; omega
      rw [if_neg hne, h]
      simp only [Int.toNat_natCast, Nat.add_zero]
      obtain ⟨y, t, ht⟩ := List.exists_cons_of_ne_nil (splitK_ne [44, 32] k (s.drop (i + [(44 : UInt8), 32].length)))
      have hj := join_split k (s.drop (i + [(44 : UInt8), 32].length))
      rw [ht] at hj ⊢
      rw [join_cons, hj]
      exact (occ_drop ho).symm
theorem no_occ {x r : List UInt8} (hx : (44 : UInt8) ∉ x) : ∀ j, j < x.length → Lib.occAt (x ++ r) [44, 32] j = false := by
  intro j hj
  rw [Bool.eq_false_iff]
  intro h
  have h2 := occ_drop h
  have h3 : (x ++ r)[j]? = some 44 := by
    rw [h2, List.getElem?_append_right (by simp; omega)]
    have : j - ((x ++ r).take j).length = 0 := by simp; omega
    rw [this]
    rfl
  rw [List.getElem?_append_left hj] at h3
  exact hx (List.mem_of_getElem? h3)
/-- Pieces without commas, joined and cut again, are as they were. -/
theorem split_join : ∀ (ps : List (List UInt8)) (k : Nat), ps ≠ [] → ps.length ≤ k + 1 → (∀ p ∈ ps, (44 : UInt8) ∉ p) → Lib.splitK [44, 32] 0 k (Lib.join ps [44, 32]) = ps
  | [], _, h, _, _ => absurd rfl h
  | [x], k, _, _, hc => by
    rw [join_one]
    cases k with
    | zero => rfl
    | succ k =>
      have hn : Lib.index x [44, 32] = -1 := Lib.index_none fun j hj => by
        by_cases hj2 : j < x.length
        · have := no_occ (r := []) (hc x (by simp)) j hj2
          rwa [List.append_nil] at this
        · have : j = x.length := by omega
          subst this
          simp [Lib.occAt]
      unfold Lib.splitK
      rw [if_pos (by rw [hn]; rfl)]
  | x :: y :: t, 0, _, hk, _ => by simp at hk
  | x :: y :: t, k + 1, _, hk, hc => by
    have hi : Lib.index (x ++ 44 :: 32 :: Lib.join (y :: t) [44, 32]) [44, 32] = (x.length : Int) :=
      Lib.index_first (by simp) (by simp [Lib.occAt]) (no_occ (hc x (by simp)))
    rw [join_cons]
    unfold Lib.splitK
    have hne : ¬ (((x.length : Nat) : Int) == -1) = true := by intro e; have := beq_iff_eq.1 e; omega
    rw [hi, if_neg hne]
    have h1 : (x ++ 44 :: 32 :: Lib.join (y :: t) [44, 32]).take (((x.length : Nat) : Int).toNat + 0) = x := by simp
    have h2 : (x ++ 44 :: 32 :: Lib.join (y :: t) [44, 32]).drop (((x.length : Nat) : Int).toNat + [(44 : UInt8), 32].length) = Lib.join (y :: t) [44, 32] := by
      rw [show (x ++ 44 :: 32 :: Lib.join (y :: t) [44, 32]) = (x ++ [44, 32]) ++ Lib.join (y :: t) [44, 32] by simp]
      rw [List.drop_left' (by simp)]
    rw [h1, h2, split_join (y :: t) k (by simp) (by simpa using hk) (fun p hp => hc p (List.mem_cons_of_mem _ hp))]

/-- A column off its name, kind and null. -/
def colP (x : List UInt8 × Int × Bool) : Col := ⟨str (x.1.take 140737488351232), x.2.1, x.2.2, by rw [str_size, List.length_take]; omega⟩
/-- The columns of texts, one by one. -/
def parseCs : List (List UInt8) → Option (List Col)
  | [] => some []
  | p :: ps => match parseC p with | some x => (match parseCs ps with | some l => some (colP x :: l) | none => none) | none => none
/-- What Parse reads of a text. -/
def parseL (s : List UInt8) : Option (List Col) :=
  match parseCs (Lib.splitK [44, 32] 0 16 s) with
  | some l => if rightC l then some l else none
  | none => none

theorem parseC_col {s : List UInt8} {x : List UInt8 × Int × Bool} (h : parseC s = some x) (hs : s.length ≤ 140737488351232) : showC (colP x) = s ∧ x.1.length ≤ 140737488351232 ∧ (x.2.1 = 1 ∨ x.2.1 = 2 ∨ x.2.1 = 3) := by
  obtain ⟨nm, k, nl⟩ := x
  obtain ⟨h1, h2⟩ := parseC_back h
  have hn : nm.length ≤ 140737488351232 := by rw [h2, List.length_append] at hs; omega
  refine ⟨?_, hn, h1⟩
  rw [showC_eq, h2]
  show (nm.take _) ++ tailT k nl = _
  rw [List.take_of_length_le hn]
theorem parseCs_cons (p : List UInt8) (ps : List (List UInt8)) : parseCs (p :: ps) = (match parseC p with | some x => (match parseCs ps with | some l => some (colP x :: l) | none => none) | none => none) := rfl
theorem parseCs_show : ∀ {ps : List (List UInt8)} {l : List Col}, (∀ p ∈ ps, p.length ≤ 140737488351232) → parseCs ps = some l → l.map showC = ps
  | [], l, _, h => by
    have : l = [] := by simpa [parseCs] using h.symm
    rw [this]; rfl
  | p :: ps, l, hb, h => by
    rw [parseCs_cons] at h
    cases hp : parseC p with
    | none => rw [hp] at h; cases h
    | some x =>
      rw [hp] at h
      cases hq : parseCs ps with
      | none => rw [hq] at h; cases h
      | some m =>
        rw [hq] at h
        have e : l = colP x :: m := (Option.some.inj h).symm
        rw [e, List.map_cons, (parseC_col hp (hb p (by simp))).1, parseCs_show (fun x hx => hb x (List.mem_cons_of_mem _ hx)) hq]
theorem parseCs_back : ∀ {l : List Col}, (∀ c ∈ l, colOk c = true) → parseCs (l.map showC) = some l
  | [], _ => rfl
  | c :: l, h => by
    obtain ⟨h1, h2⟩ := colOk_parts (h c (by simp))
    have e : parseC (showC c) = some (c.name.data.toList, c.kind, c.null) := by
      rw [showC_eq]
      exact parseC_show _ _ _ (by omega)
    have e2 : colP (c.name.data.toList, c.kind, c.null) = c := by
      have hb := c.bound
      cases c with
      | mk nm k nl b =>
        unfold colP
        simp only [Col.mk.injEq, and_true]
        have : nm.data.toList.length ≤ 140737488351232 := by rw [sz_list]; exact b
        rw [List.take_of_length_le this]
        simp [str]
    rw [List.map_cons, parseCs_cons, e, parseCs_back (fun x hx => h x (List.mem_cons_of_mem _ hx))]
    show some (colP _ :: l) = _
    rw [e2]
theorem split_le (p : List UInt8) : ∀ (k : Nat) (s x : List UInt8), x ∈ Lib.splitK p 0 k s → x.length ≤ s.length
  | 0, s, x, h => by
    have : x = s := by simpa [Lib.splitK] using h
    rw [this]
    exact Nat.le_refl _
  | k + 1, s, x, h => by
    unfold Lib.splitK at h
    split at h
    · have : x = s := by simpa using h
      rw [this]
      exact Nat.le_refl _
    · rcases List.mem_cons.1 h with rfl | h2
      · rw [List.length_take]; omega
      · have := split_le p k _ x h2
        rw [List.length_drop] at this
        omega
theorem parseL_show {s : List UInt8} {l : List Col} (hs : s.length ≤ 140737488351232) (h : parseL s = some l) : rightC l = true ∧ showL l = s := by
  unfold parseL at h
  cases hp : parseCs (Lib.splitK [44, 32] 0 16 s) with
  | none => rw [hp] at h; cases h
  | some m =>
    rw [hp] at h
    by_cases hr : rightC m = true
    · simp only [hr, if_true, Option.some.injEq] at h
      subst h
      refine ⟨hr, ?_⟩
      unfold showL
      rw [parseCs_show (fun p hp => Nat.le_trans (split_le _ _ _ _ hp) hs) hp, join_split]
    · simp only [hr] at h
      cases h
theorem rightC_lens {l : List Col} (h : rightC l = true) : 1 ≤ l.length ∧ l.length ≤ 16 := by
  apply Classical.byContradiction
  intro h2
  rw [rightC_len h2] at h
  cases h
theorem parseL_back {l : List Col} (h : rightC l = true) : parseL (showL l) = some l := by
  unfold parseL showL
  have hl := rightC_lens h
  have hok := cols_ok h
  rw [split_join _ _ (by intro e; have e2 := congrArg List.length e; rw [List.length_map, List.length_nil] at e2; omega) (by rw [List.length_map]; omega) (fun p hp => by
    obtain ⟨c, hc, rfl⟩ := List.mem_map.1 hp
    exact showC_comma (hok c hc)), parseCs_back hok]
  simp [h]
/-- A reading that is right and shown is the text is what Parse reads. -/
theorem parseL_iff {s : List UInt8} {l : List Col} (hs : s.length ≤ 140737488351232) : parseL s = some l ↔ rightC l = true ∧ showL l = s := by
  constructor
  · exact parseL_show hs
  · rintro ⟨h, rfl⟩
    exact parseL_back h
end Go.Proofs.YtabnjiepmhblaaaDoor
