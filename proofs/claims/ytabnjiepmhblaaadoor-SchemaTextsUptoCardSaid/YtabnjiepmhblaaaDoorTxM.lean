/- Schemas' texts: two schemas that may be and are shown alike are the same. -/
import Derived.Test.YtabnjiepmhblaaaDoorScI
namespace Go.Proofs.YtabnjiepmhblaaaDoor
set_option linter.unusedVariables false

theorem cut_at {c : UInt8} : ∀ {x y r s : List UInt8}, c ∉ x → c ∉ y → x ++ c :: r = y ++ c :: s → x = y ∧ r = s
  | [], [], r, s, _, _, h => ⟨rfl, by simpa using h⟩
  | [], b :: y, r, s, _, hy, h => by
    simp only [List.nil_append, List.cons_append, List.cons.injEq] at h
    exact absurd (h.1 ▸ List.mem_cons_self) hy
  | a :: x, [], r, s, hx, _, h => by
    simp only [List.nil_append, List.cons_append, List.cons.injEq] at h
    exact absurd (h.1 ▸ List.mem_cons_self) hx
  | a :: x, b :: y, r, s, hx, hy, h => by
    simp only [List.cons_append, List.cons.injEq] at h
    obtain ⟨h1, h2⟩ := cut_at (fun hm => hx (List.mem_cons_of_mem _ hm)) (fun hm => hy (List.mem_cons_of_mem _ hm)) h.2
    exact ⟨by rw [h.1, h1], h2⟩
theorem cut_no {c : UInt8} {x y r : List UInt8} (hx : c ∉ x) : x ≠ y ++ c :: r := fun h => hx (by rw [h]; simp)

/-- A name holds neither blanks nor commas. -/
theorem name_chars {s : List UInt8} (h : nameL s = true) : (32 : UInt8) ∉ s ∧ (44 : UInt8) ∉ s := by
  unfold nameL at h
  rw [Bool.and_eq_true] at h
  have h2 := (nameAll_iff s 0).1 h.2
  constructor
  · intro hm
    obtain ⟨i, hi, e⟩ := List.getElem_of_mem hm
    have := h2 i hi
    rw [e] at this
    unfold nameC letC digC at this
    revert this
    simp
  · intro hm
    obtain ⟨i, hi, e⟩ := List.getElem_of_mem hm
    have := h2 i hi
    rw [e] at this
    unfold nameC letC digC at this
    revert this
    simp
theorem colOk_parts {c : Col} (h : colOk c = true) : nameL c.name.data.toList = true ∧ 1 ≤ c.kind ∧ c.kind ≤ 3 := by
  unfold colOk kindOk at h
  rw [Bool.and_eq_true, decide_eq_true_iff] at h
  exact h
/-- What stands behind a name. -/
def tailT (k : Int) (nl : Bool) : List UInt8 := kindT k ++ if nl then [32, 110, 117, 108, 108] else []
theorem tail_form (k : Int) (nl : Bool) (h : 1 ≤ k ∧ k ≤ 3) : ∃ r, tailT k nl = 32 :: r := by
  have : k = 1 ∨ k = 2 ∨ k = 3 := by omega
  rcases this with rfl | rfl | rfl <;> cases nl <;> exact ⟨_, rfl⟩
theorem tail_inj {k k' : Int} {n n' : Bool} (h : 1 ≤ k ∧ k ≤ 3) (h' : 1 ≤ k' ∧ k' ≤ 3) (e : tailT k n = tailT k' n') : k = k' ∧ n = n' := by
  have hk : k = 1 ∨ k = 2 ∨ k = 3 := by omega
  have hk' : k' = 1 ∨ k' = 2 ∨ k' = 3 := by omega
  rcases hk with rfl | rfl | rfl <;> rcases hk' with rfl | rfl | rfl <;> cases n <;> cases n' <;> first | exact ⟨rfl, rfl⟩ | (exact absurd e (by decide))
theorem tail_comma (k : Int) (nl : Bool) (h : 1 ≤ k ∧ k ≤ 3) : (44 : UInt8) ∉ tailT k nl := by
  have : k = 1 ∨ k = 2 ∨ k = 3 := by omega
  rcases this with rfl | rfl | rfl <;> cases nl <;> decide
theorem showC_eq (c : Col) : showC c = c.name.data.toList ++ tailT c.kind c.null := by
  unfold showC tailT
  rw [List.append_assoc]
theorem showC_comma {c : Col} (h : colOk c = true) : (44 : UInt8) ∉ showC c := by
  obtain ⟨h1, h2⟩ := colOk_parts h
  rw [showC_eq, List.mem_append]
  rintro (hm | hm)
  · exact (name_chars h1).2 hm
  · exact tail_comma _ _ h2 hm
theorem showC_inj {c d : Col} (hc : colOk c = true) (hd : colOk d = true) (h : showC c = showC d) : c = d := by
  obtain ⟨c1, c2⟩ := colOk_parts hc
  obtain ⟨d1, d2⟩ := colOk_parts hd
  rw [showC_eq, showC_eq] at h
  obtain ⟨r, hr⟩ := tail_form c.kind c.null c2
  obtain ⟨s, hs⟩ := tail_form d.kind d.null d2
  rw [hr, hs] at h
  obtain ⟨e1, e2⟩ := cut_at (name_chars c1).1 (name_chars d1).1 h
  have e3 : tailT c.kind c.null = tailT d.kind d.null := by rw [hr, hs, e2]
  obtain ⟨e4, e5⟩ := tail_inj c2 d2 e3
  have e6 : c.name = d.name := ByteArray.ext (Array.toList_inj.1 e1)
  cases c; cases d; simp_all
theorem join_cons (x y : List UInt8) (t : List (List UInt8)) : Lib.join (x :: y :: t) [44, 32] = x ++ 44 :: (32 :: Lib.join (y :: t) [44, 32]) := by
  simp [Lib.join, List.intercalate, List.intersperse]
theorem join_one (x : List UInt8) : Lib.join [x] [44, 32] = x := by simp [Lib.join, List.intercalate]
theorem joins_inj : ∀ {l m : List Col}, l ≠ [] → m ≠ [] → (∀ c ∈ l, colOk c = true) → (∀ c ∈ m, colOk c = true) → showL l = showL m → l = m
  | [], _, h, _, _, _, _ => absurd rfl h
  | _ :: _, [], _, h, _, _, _ => absurd rfl h
  | [c], [d], _, _, hl, hm, h => by
    unfold showL at h
    simp only [List.map_cons, List.map_nil, join_one] at h
    rw [showC_inj (hl c (by simp)) (hm d (by simp)) h]
  | [c], d :: d2 :: t, _, _, hl, hm, h => by
    unfold showL at h
    simp only [List.map_cons, List.map_nil, join_one, join_cons] at h
    exact absurd h (cut_no (showC_comma (hl c (by simp))))
  | c :: c2 :: t, [d], _, _, hl, hm, h => by
    unfold showL at h
    simp only [List.map_cons, List.map_nil, join_one, join_cons] at h
    exact absurd h.symm (cut_no (showC_comma (hm d (by simp))))
  | c :: c2 :: t, d :: d2 :: u, _, _, hl, hm, h => by
    unfold showL at h
    simp only [List.map_cons, join_cons] at h
    obtain ⟨e1, e2⟩ := cut_at (showC_comma (hl c (by simp))) (showC_comma (hm d (by simp))) h
    have e3 := showC_inj (hl c (by simp)) (hm d (by simp)) e1
    have e4 : showL (c2 :: t) = showL (d2 :: u) := by
      unfold showL
      simp only [List.map_cons]
      simpa using e2
    have e5 := joins_inj (by simp) (by simp) (fun x hx => hl x (List.mem_cons_of_mem _ hx)) (fun x hx => hm x (List.mem_cons_of_mem _ hx)) e4
    rw [e3, e5]
/-- Schemas that may be, shown alike, are the same. -/
theorem showL_inj {l m : List Col} (hl : rightC l = true) (hm : rightC m = true) (h : showL l = showL m) : l = m := by
  refine joins_inj ?_ ?_ (cols_ok hl) (cols_ok hm) h
  · rintro rfl; cases hl
  · rintro rfl; cases hm
end Go.Proofs.YtabnjiepmhblaaaDoor
