/- Joined texts: What is taken off bytes is what is laid: schemas and rows. Schemas' texts: two schemas that may be and are shown alike are the same. -/
import Derived.Test.YtabnjiepmhblaaaDoorJ31
import Derived.Test.YtabnjiepmhblaaaDoorJ27
/-! What is taken off bytes is what is laid: schemas and rows. -/
namespace Go.Proofs.YtabnjiepmhblaaaDoor
open Go.RowKit
set_option linter.unusedVariables false

/-- The bytes from i to j. -/
def seg (l : List UInt8) (i j : Nat) : List UInt8 := (l.drop i).take (j - i)
theorem seg_app (l : List UInt8) {i j k : Nat} (h1 : i ≤ j) (h2 : j ≤ k) : seg l i j ++ seg l j k = seg l i k := by
  unfold seg
  have e : l.drop j = (l.drop i).drop (j - i) := by rw [List.drop_drop]; congr 1; omega
  rw [e, show k - i = (j - i) + (k - j) by omega, List.take_add]
theorem seg_one (l : List UInt8) {i : Nat} (h : i < l.length) : seg l i (i + 1) = [l[i]] := by
  unfold seg
  rw [show i + 1 - i = 1 by omega, List.drop_eq_getElem_cons h]
  rfl
theorem seg_nil (l : List UInt8) (i : Nat) : seg l i i = [] := by simp [seg]
theorem seg_zero (l : List UInt8) (j : Nat) : seg l 0 j = l.take j := by simp [seg]
theorem num_seg {l : List UInt8} {i n c : Nat} (h : takeO l (i : Int) = some (n, c)) : n < 18446744073709551616 ∧ i + c ≤ l.length ∧ seg l i (i + c) = num n := by
  have hi := takeO_in h
  have hn := take_lt h
  unfold takeO at h
  rw [if_pos (by omega), Int.toNat_natCast] at h
  obtain ⟨v, e, _, _, _, hc, ht⟩ := decF_form 10 0 0 (l.drop i) n c rfl (by simp) h
  have ev : v = n := by rw [e]; simp
  subst ev
  rw [Nat.sub_zero] at ht
  refine ⟨hn, by omega, ?_⟩
  unfold seg
  rw [show i + c - i = c by omega]
  exact ht
theorem text_seg {l : List UInt8} {i : Nat} {p most : Int} {t : List UInt8} (h : textO l (i : Int) most = some (t, p)) : ∃ P : Nat, p = P ∧ i ≤ P ∧ P ≤ l.length ∧ seg l i P = num t.length ++ t := by
  unfold textO at h
  cases ht : takeO l (i : Int) with
  | none => rw [ht] at h; cases h
  | some x =>
    obtain ⟨n, c⟩ := x
    rw [ht] at h
    simp only at h
    by_cases hc : 1048576 < n ∨ most < (n : Int) ∨ (l.length : Int) - ((i : Int) + c) < n
    · rw [if_pos hc] at h; cases h
    · rw [if_neg hc] at h
      simp only [Option.some.injEq, Prod.mk.injEq] at h
      obtain ⟨rfl, rfl⟩ := h
      obtain ⟨_, h2, h3⟩ := num_seg ht
      refine ⟨i + c + n, by omega, by omega, by omega, ?_⟩
      have hl : ((l.drop ((i : Int) + (c : Int)).toNat).take n).length = n := by rw [List.length_take, List.length_drop]; omega
      rw [hl, ← seg_app l (show i ≤ i + c by omega) (show i + c ≤ i + c + n by omega), h3]
      congr 1
      unfold seg
      rw [show i + c + n - (i + c) = n by omega, show ((i : Int) + (c : Int)).toNat = i + c by omega]
theorem toNat_of (c : UInt8) : UInt8.ofNat c.toNat = c := by simp
theorem val_seg {l : List UInt8} {i : Nat} {k n p : Int} {s : ByteArray} (h : V4.valO l (i : Int) = some (k, n, s, p)) : ∃ P : Nat, p = P ∧ i ≤ P ∧ P ≤ l.length ∧ seg l i P = V4.encV k n s.data.toList := by
  have hin : i < l.length := by
    apply Classical.byContradiction
    intro hh
    rw [V4.valO_out (by omega)] at h
    cases h
  rw [V4.valO_in hin] at h
  have h1 := seg_one l hin
  split at h
  · rename_i hx
    injection hx with hx
    simp only [Option.some.injEq, Prod.mk.injEq] at h
    obtain ⟨rfl, rfl, rfl, rfl⟩ := h
    exact ⟨i + 1, by omega, by omega, by omega, by rw [h1, hx]; rfl⟩
  · rename_i hx
    injection hx with hx
    split at h
    · rename_i m c ht
      simp only [Option.some.injEq, Prod.mk.injEq] at h
      obtain ⟨rfl, rfl, rfl, rfl⟩ := h
      have ht' : takeO l ((i + 1 : Nat) : Int) = some (m, c) := by rw [← ht]; congr 1
      obtain ⟨_, h2, h3⟩ := num_seg ht'
      refine ⟨i + 1 + c, by omega, by omega, by omega, ?_⟩
      rw [← seg_app l (show i ≤ i + 1 by omega) (show i + 1 ≤ i + 1 + c by omega), h1, h3, hx]
      show (1 : UInt8) :: num m = (1 : UInt8) :: num (zig (zag m))
      rw [zig_zag]
    · cases h
  · rename_i hx
    injection hx with hx
    split at h
    · rename_i c hc
      split at h
      · rename_i hc1
        simp only [Option.some.injEq, Prod.mk.injEq] at h
        obtain ⟨rfl, rfl, rfl, rfl⟩ := h
        obtain ⟨h2, h3⟩ := List.getElem?_eq_some_iff.1 hc
        refine ⟨i + 1 + 1, by omega, by omega, by omega, ?_⟩
        rw [← seg_app l (show i ≤ i + 1 by omega) (show i + 1 ≤ i + 1 + 1 by omega), h1, seg_one l h2, hx, h3]
        show [(2 : UInt8)] ++ [c] = (2 : UInt8) :: [UInt8.ofNat ((c.toNat : Int)).toNat]
        rw [Int.toNat_natCast, toNat_of]
        rfl
      · cases h
    · cases h
  · rename_i hx
    injection hx with hx
    split at h
    · rename_i t q ht
      simp only [Option.some.injEq, Prod.mk.injEq] at h
      obtain ⟨rfl, rfl, rfl, rfl⟩ := h
      have ht' : textO l ((i + 1 : Nat) : Int) 1024 = some (t, q) := by rw [← ht]; congr 1
      obtain ⟨P, hP, h2, h3, h4⟩ := text_seg ht'
      refine ⟨P, hP, by omega, h3, ?_⟩
      rw [← seg_app l (show i ≤ i + 1 by omega) h2, h1, h4, hx]
      simp [V4.encV, str]
    · cases h
  · cases h
theorem takeV_seg {l : List UInt8} {i : Nat} {p : Int} {v : Vl} (h : takeV l (i : Int) = some (v, p)) : ∃ P : Nat, p = P ∧ i ≤ P ∧ P ≤ l.length ∧ seg l i P = encVl v := by
  unfold takeV at h
  split at h
  · cases h
  · rename_i k n s q hv
    simp only [Option.some.injEq, Prod.mk.injEq] at h
    obtain ⟨rfl, rfl⟩ := h
    exact val_seg hv
theorem takeVs_seg {l : List UInt8} {i : Nat} (hi : i ≤ l.length) : ∀ {k : Nat} {r : List Vl} {p : Int}, takeVs l (i : Int) k = some (r, p) → ∃ P : Nat, p = P ∧ i ≤ P ∧ P ≤ l.length ∧ seg l i P = r.flatMap encVl
  | 0, r, p, h => by
    simp only [takeVs, Option.some.injEq, Prod.mk.injEq] at h
    obtain ⟨rfl, rfl⟩ := h
    exact ⟨i, rfl, Nat.le_refl _, hi, by rw [seg_nil]; rfl⟩
  | k + 1, r, p, h => by
    simp only [takeVs] at h
    cases h1 : takeVs l (i : Int) k with
    | none => rw [h1] at h; cases h
    | some x =>
      obtain ⟨r1, p1⟩ := x
      rw [h1] at h
      simp only at h
      obtain ⟨P1, rfl, a1, a2, a3⟩ := takeVs_seg hi h1
      cases h2 : takeV l (P1 : Int) with
      | none => rw [h2] at h; cases h
      | some y =>
        obtain ⟨c, q⟩ := y
        rw [h2] at h
        simp only [Option.some.injEq, Prod.mk.injEq] at h
        obtain ⟨rfl, rfl⟩ := h
        obtain ⟨P, rfl, b1, b2, b3⟩ := takeV_seg h2
        exact ⟨P, rfl, by omega, b2, by rw [← seg_app l a1 b1, a3, b3]; simp⟩
theorem takeRs_seg {cols : List Col} {l : List UInt8} {i : Nat} (hi : i ≤ l.length) : ∀ {k : Nat} {rs : List (List Vl)} {p : Int}, takeRs cols l (i : Int) k = some (rs, p) → ∃ P : Nat, p = P ∧ i ≤ P ∧ P ≤ l.length ∧ seg l i P = rs.flatMap encRow
  | 0, r, p, h => by
    simp only [takeRs, Option.some.injEq, Prod.mk.injEq] at h
    obtain ⟨rfl, rfl⟩ := h
    exact ⟨i, rfl, Nat.le_refl _, hi, by rw [seg_nil]; rfl⟩
  | k + 1, r, p, h => by
    simp only [takeRs] at h
    cases h1 : takeRs cols l (i : Int) k with
    | none => rw [h1] at h; cases h
    | some x =>
      obtain ⟨r1, p1⟩ := x
      rw [h1] at h
      simp only at h
      obtain ⟨P1, rfl, a1, a2, a3⟩ := takeRs_seg hi h1
      cases h2 : takeVs l (P1 : Int) cols.length with
      | none => rw [h2] at h; cases h
      | some y =>
        obtain ⟨c, q⟩ := y
        rw [h2] at h
        simp only at h
        by_cases hf : fitsL cols c = true
        · rw [if_pos hf] at h
          simp only [Option.some.injEq, Prod.mk.injEq] at h
          obtain ⟨rfl, rfl⟩ := h
          obtain ⟨P, rfl, b1, b2, b3⟩ := takeVs_seg a2 h2
          exact ⟨P, rfl, by omega, b2, by rw [← seg_app l a1 b1, a3, b3]; simp [encRow]⟩
        · rw [if_neg hf] at h; cases h
theorem takeRw_back {cols : List Col} {l : List UInt8} {p : Int} {rs : List (List Vl)} (h : takeRw cols l 0 = some (rs, p)) : rowsE cols rs = 0 ∧ ∃ P : Nat, p = P ∧ P ≤ l.length ∧ rowsD [] cols rs = l.take P := by
  unfold takeRw at h
  by_cases hr : rightC cols = false
  · rw [if_pos hr] at h; cases h
  · rw [if_neg hr] at h
    have hr2 : rightC cols = true := by simpa using hr
    cases ht : takeO l 0 with
    | none => rw [ht] at h; cases h
    | some x =>
      obtain ⟨n, c⟩ := x
      rw [ht] at h
      simp only at h
      by_cases h16 : 1024 < n
      · rw [if_pos h16] at h; cases h
      · rw [if_neg h16] at h
        obtain ⟨_, h2, h3⟩ := num_seg (i := 0) ht
        have h' : takeRs cols l ((c : Nat) : Int) n = some (rs, p) := by rw [← h]; congr 1; omega
        obtain ⟨P, rfl, a1, a2, a3⟩ := takeRs_seg (by omega) h'
        have hf := takeRs_form (by omega) h'
        have hall := takeRs_fits h'
        refine ⟨?_, P, rfl, a2, ?_⟩
        · unfold rowsE; rw [if_pos hr2, if_pos ⟨by omega, hall⟩]
        · unfold rowsD
          rw [if_pos ⟨hr2, by omega, hall⟩, List.nil_append, ← seg_zero, hf.1, ← a3, ← h3, Nat.zero_add]
          exact seg_app l (Nat.zero_le _) a1
theorem takeC_seg {l : List UInt8} {i : Nat} {p : Int} {c : Col} (h : takeC l (i : Int) = some (c, p)) : ∃ P : Nat, p = P ∧ i ≤ P ∧ P ≤ l.length ∧ seg l i P = encC c := by
  unfold takeC at h
  cases ht : textO l (i : Int) 24 with
  | none => rw [ht] at h; cases h
  | some x =>
    obtain ⟨t, q⟩ := x
    have hf := textO_form ht
    obtain ⟨P, rfl, a1, a2, a3⟩ := text_seg ht
    rw [ht] at h
    simp only [Int.toNat_natCast] at h
    by_cases hp : (l.length : Int) < (P : Int) + 2
    · rw [if_pos hp] at h; cases h
    · rw [if_neg hp] at h
      by_cases hg : 1 < (l.getD (P + 1) 0).toNat
      · rw [if_pos hg] at h; cases h
      · rw [if_neg hg] at h
        simp only [Option.some.injEq, Prod.mk.injEq] at h
        obtain ⟨rfl, rfl⟩ := h
        have q0 : l.getD P 0 = l[P]'(by omega) := by simp [List.getD, List.getElem?_eq_getElem (show P < l.length by omega)]
        have q1 : l.getD (P + 1) 0 = l[P + 1]'(by omega) := by simp [List.getD, List.getElem?_eq_getElem (show P + 1 < l.length by omega)]
        rw [q1] at hg
        refine ⟨P + 1 + 1, by omega, by omega, by omega, ?_⟩
        rw [← seg_app l a1 (show P ≤ P + 1 + 1 by omega), ← seg_app l (show P ≤ P + 1 by omega) (show P + 1 ≤ P + 1 + 1 by omega), seg_one l (by omega), seg_one l (by omega), a3, q0, q1]
        have htk : t.take 24 = t := List.take_of_length_le (by omega)
        have hnb : nullB (l[P + 1]'(by omega) == 1) = l[P + 1]'(by omega) := by
          generalize l[P + 1]'(by omega) = nb at hg
          have : nb = 0 ∨ nb = 1 := by
            rcases Nat.lt_or_ge nb.toNat 1 with h | h
            · exact .inl (UInt8.toNat_inj.1 (by show nb.toNat = 0; omega))
            · exact .inr (UInt8.toNat_inj.1 (by show nb.toNat = 1; omega))
          rcases this with rfl | rfl <;> rfl
        unfold encC colOf
        simp only [htk, Int.toNat_natCast, toNat_of, hnb, strT_len]
        simp [str]
theorem takeCs_seg {l : List UInt8} {i : Nat} (hi : i ≤ l.length) : ∀ {k : Nat} {r : List Col} {p : Int}, takeCs l (i : Int) k = some (r, p) → ∃ P : Nat, p = P ∧ i ≤ P ∧ P ≤ l.length ∧ seg l i P = r.flatMap encC
  | 0, r, p, h => by
    simp only [takeCs, Option.some.injEq, Prod.mk.injEq] at h
    obtain ⟨rfl, rfl⟩ := h
    exact ⟨i, rfl, Nat.le_refl _, hi, by rw [seg_nil]; rfl⟩
  | k + 1, r, p, h => by
    simp only [takeCs] at h
    cases h1 : takeCs l (i : Int) k with
    | none => rw [h1] at h; cases h
    | some x =>
      obtain ⟨r1, p1⟩ := x
      rw [h1] at h
      simp only at h
      obtain ⟨P1, rfl, a1, a2, a3⟩ := takeCs_seg hi h1
      cases h2 : takeC l (P1 : Int) with
      | none => rw [h2] at h; cases h
      | some y =>
        obtain ⟨c, q⟩ := y
        rw [h2] at h
        simp only [Option.some.injEq, Prod.mk.injEq] at h
        obtain ⟨rfl, rfl⟩ := h
        obtain ⟨P, rfl, b1, b2, b3⟩ := takeC_seg h2
        exact ⟨P, rfl, by omega, b2, by rw [← seg_app l a1 b1, a3, b3]; simp⟩
theorem takeS_back {l : List UInt8} {p : Int} {r : List Col} (h : takeS l 0 = some (r, p)) : layE r = 0 ∧ ∃ P : Nat, p = P ∧ P ≤ l.length ∧ layD [] r = l.take P := by
  unfold takeS at h
  cases ht : takeO l 0 with
  | none => rw [ht] at h; cases h
  | some x =>
    obtain ⟨n, c⟩ := x
    rw [ht] at h
    simp only at h
    by_cases h16 : 16 < n
    · rw [if_pos h16] at h; cases h
    · rw [if_neg h16] at h
      obtain ⟨_, h2, h3⟩ := num_seg (i := 0) ht
      cases hc : takeCs l (0 + (c : Int)) n with
      | none => rw [hc] at h; cases h
      | some y =>
        obtain ⟨r1, q⟩ := y
        rw [hc] at h
        simp only at h
        have hc' : takeCs l ((c : Nat) : Int) n = some (r1, q) := by rw [← hc]; congr 1; omega
        obtain ⟨P, rfl, a1, a2, a3⟩ := takeCs_seg (by omega) hc'
        have hf := takeCs_form (by omega) hc'
        by_cases hr : rightC r1 = true
        · rw [if_pos hr] at h
          simp only [Option.some.injEq, Prod.mk.injEq] at h
          obtain ⟨rfl, rfl⟩ := h
          refine ⟨by unfold layE; rw [if_pos hr], P, rfl, a2, ?_⟩
          unfold layD layC
          rw [if_pos hr, List.nil_append, ← seg_zero, hf.1, ← a3, ← h3, Nat.zero_add]
          exact seg_app l (Nat.zero_le _) a1
        · rw [if_neg hr] at h; cases h
end Go.Proofs.YtabnjiepmhblaaaDoor

/-! Schemas' texts: two schemas that may be and are shown alike are the same. -/
namespace Go.Proofs.YtabnjiepmhblaaaDoor
set_option linter.unusedVariables false

theorem cut_at {c : UInt8} : ∀ {x y r s : List UInt8}, c ∉ x → c ∉ y → x ++ c :: r = y ++ c :: s → x = y ∧ r = s
  | [], [], r, s, _, _, h => ⟨rfl, by simpa using h⟩
  | [], b :: y, r, s, _, hy, h => by
    simp only [List.nil_append, List.cons_append, List.cons.injEq] at h
    exact absurd (h.1 ▸ List.mem_cons_self) hy
  | a :: x, [], r, s, hx, _, h => by
    simp only [List.nil_append, List.cons_append, List.cons.injEq] at h
    exact absurd (h.1 ▸ List.mem_cons_self) hx
  | a :: x, b :: y, r, s, hx, hy, h => by
    simp only [List.cons_append, List.cons.injEq] at h
    obtain ⟨h1, h2⟩ := cut_at (fun hm => hx (List.mem_cons_of_mem _ hm)) (fun hm => hy (List.mem_cons_of_mem _ hm)) h.2
    exact ⟨by rw [h.1, h1], h2⟩
theorem cut_no {c : UInt8} {x y r : List UInt8} (hx : c ∉ x) : x ≠ y ++ c :: r := fun h => hx (by rw [h]; simp)

/-- A name holds neither blanks nor commas. -/
theorem name_chars {s : List UInt8} (h : nameL s = true) : (32 : UInt8) ∉ s ∧ (44 : UInt8) ∉ s := by
  unfold nameL at h
  rw [Bool.and_eq_true] at h
  have h2 := (nameAll_iff s 0).1 h.2
  constructor
  · intro hm
    obtain ⟨i, hi, e⟩ := List.getElem_of_mem hm
    have := h2 i hi
    rw [e] at this
    unfold nameC letC digC at this
    revert this
    simp
  · intro hm
    obtain ⟨i, hi, e⟩ := List.getElem_of_mem hm
    have := h2 i hi
    rw [e] at this
    unfold nameC letC digC at this
    revert this
    simp
theorem colOk_parts {c : Col} (h : colOk c = true) : nameL c.name.data.toList = true ∧ 1 ≤ c.kind ∧ c.kind ≤ 3 := by
  unfold colOk kindOk at h
  rw [Bool.and_eq_true, decide_eq_true_iff] at h
  exact h
/-- What stands behind a name. -/
def tailT (k : Int) (nl : Bool) : List UInt8 := kindT k ++ if nl then [32, 110, 117, 108, 108] else []
theorem tail_form (k : Int) (nl : Bool) (h : 1 ≤ k ∧ k ≤ 3) : ∃ r, tailT k nl = 32 :: r := by
  have : k = 1 ∨ k = 2 ∨ k = 3 := by omega
  rcases this with rfl | rfl | rfl <;> cases nl <;> exact ⟨_, rfl⟩
theorem tail_inj {k k' : Int} {n n' : Bool} (h : 1 ≤ k ∧ k ≤ 3) (h' : 1 ≤ k' ∧ k' ≤ 3) (e : tailT k n = tailT k' n') : k = k' ∧ n = n' := by
  have hk : k = 1 ∨ k = 2 ∨ k = 3 := by omega
  have hk' : k' = 1 ∨ k' = 2 ∨ k' = 3 := by omega
  rcases hk with rfl | rfl | rfl <;> rcases hk' with rfl | rfl | rfl <;> cases n <;> cases n' <;> first | exact ⟨rfl, rfl⟩ | (exact absurd e (by decide))
theorem tail_comma (k : Int) (nl : Bool) (h : 1 ≤ k ∧ k ≤ 3) : (44 : UInt8) ∉ tailT k nl := by
  have : k = 1 ∨ k = 2 ∨ k = 3 := by omega
  rcases this with rfl | rfl | rfl <;> cases nl <;> decide
theorem showC_eq (c : Col) : showC c = c.name.data.toList ++ tailT c.kind c.null := by
  unfold showC tailT
  rw [List.append_assoc]
theorem showC_comma {c : Col} (h : colOk c = true) : (44 : UInt8) ∉ showC c := by
  obtain ⟨h1, h2⟩ := colOk_parts h
  rw [showC_eq, List.mem_append]
  rintro (hm | hm)
  · exact (name_chars h1).2 hm
  · exact tail_comma _ _ h2 hm
theorem showC_inj {c d : Col} (hc : colOk c = true) (hd : colOk d = true) (h : showC c = showC d) : c = d := by
  obtain ⟨c1, c2⟩ := colOk_parts hc
  obtain ⟨d1, d2⟩ := colOk_parts hd
  rw [showC_eq, showC_eq] at h
  obtain ⟨r, hr⟩ := tail_form c.kind c.null c2
  obtain ⟨s, hs⟩ := tail_form d.kind d.null d2
  rw [hr, hs] at h
  obtain ⟨e1, e2⟩ := cut_at (name_chars c1).1 (name_chars d1).1 h
  have e3 : tailT c.kind c.null = tailT d.kind d.null := by rw [hr, hs, e2]
  obtain ⟨e4, e5⟩ := tail_inj c2 d2 e3
  have e6 : c.name = d.name := ByteArray.ext (Array.toList_inj.1 e1)
  cases c; cases d; simp_all
theorem join_cons (x y : List UInt8) (t : List (List UInt8)) : Lib.join (x :: y :: t) [44, 32] = x ++ 44 :: (32 :: Lib.join (y :: t) [44, 32]) := by
  simp [Lib.join, List.intercalate, List.intersperse]
theorem join_one (x : List UInt8) : Lib.join [x] [44, 32] = x := by simp [Lib.join, List.intercalate]
theorem joins_inj : ∀ {l m : List Col}, l ≠ [] → m ≠ [] → (∀ c ∈ l, colOk c = true) → (∀ c ∈ m, colOk c = true) → showL l = showL m → l = m
  | [], _, h, _, _, _, _ => absurd rfl h
  | _ :: _, [], _, h, _, _, _ => absurd rfl h
  | [c], [d], _, _, hl, hm, h => by
    unfold showL at h
    simp only [List.map_cons, List.map_nil, join_one] at h
    rw [showC_inj (hl c (by simp)) (hm d (by simp)) h]
  | [c], d :: d2 :: t, _, _, hl, hm, h => by
    unfold showL at h
    simp only [List.map_cons, List.map_nil, join_one, join_cons] at h
    exact absurd h (cut_no (showC_comma (hl c (by simp))))
  | c :: c2 :: t, [d], _, _, hl, hm, h => by
    unfold showL at h
    simp only [List.map_cons, List.map_nil, join_one, join_cons] at h
    exact absurd h.symm (cut_no (showC_comma (hm d (by simp))))
  | c :: c2 :: t, d :: d2 :: u, _, _, hl, hm, h => by
    unfold showL at h
    simp only [List.map_cons, join_cons] at h
    obtain ⟨e1, e2⟩ := cut_at (showC_comma (hl c (by simp))) (showC_comma (hm d (by simp))) h
    have e3 := showC_inj (hl c (by simp)) (hm d (by simp)) e1
    have e4 : showL (c2 :: t) = showL (d2 :: u) := by
      unfold showL
      simp only [List.map_cons]
      simpa using e2
    have e5 := joins_inj (by simp) (by simp) (fun x hx => hl x (List.mem_cons_of_mem _ hx)) (fun x hx => hm x (List.mem_cons_of_mem _ hx)) e4
    rw [e3, e5]
/-- Schemas that may be, shown alike, are the same. -/
theorem showL_inj {l m : List Col} (hl : rightC l = true) (hm : rightC m = true) (h : showL l = showL m) : l = m := by
  refine joins_inj ?_ ?_ (cols_ok hl) (cols_ok hm) h
  · rintro rfl; cases hl
  · rintro rfl; cases hm
end Go.Proofs.YtabnjiepmhblaaaDoor
