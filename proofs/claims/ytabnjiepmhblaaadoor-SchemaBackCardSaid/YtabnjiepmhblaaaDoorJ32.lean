/- What is laid is taken as it was, whatever stands ahead and behind: schemas and rows (plain). -/
import Derived.Test.YtabnjiepmhblaaaDoorJ14
import Derived.Test.YtabnjiepmhblaaaDoorJ15
namespace Go.Proofs.YtabnjiepmhblaaaDoor
open Go.RowKit
set_option linter.unusedVariables false

theorem take_num (l r : List UInt8) (n : Nat) (hn : n < 18446744073709551616) (L : Nat) (hL : L = l.length) : takeO (l ++ num n ++ r) (L : Int) = some (n, (num n).length) := by
  subst hL
  unfold takeO
  rw [if_pos ⟨by omega, by simp; omega⟩, Int.toNat_natCast, List.append_assoc, List.drop_left]
  have h := decF_back 9 0 0 n r (by omega) (by omega) (by rw [room_0]; exact hn)
  have e : 0 + n * 128 ^ 0 = n := by simp
  rw [e, Nat.zero_add] at h
  exact h
theorem txt_len (t : ByteArray) : t.data.toList.length = t.size := by rw [Array.length_toList]; rfl
theorem val_enc (k n : Int) (s : ByteArray) (b : List UInt8) (hr : rightB k n s.toList = true) (h0 : -9223372036854775808 ≤ n) (h1 : n ≤ 9223372036854775807) :
    V4.valO (V4.encV k n s.data.toList ++ b) 0 = some (k, n, s, ((V4.encV k n s.data.toList).length : Int)) := by
  obtain ⟨r1, r2, r3, r4⟩ := right_text hr
  have hs : k ≠ 3 → s = ⟨#[]⟩ := fun h => V4.tol_inj (by rw [r2 h, ByteArray.toList_eq])
  have hk : k = 0 ∨ k = 1 ∨ k = 2 ∨ k = 3 := by omega
  rcases hk with rfl | rfl | rfl | rfl
  · obtain rfl := hs (by decide)
    obtain rfl : n = 0 := by simpa [rightB, r2] using hr
    exact (V4.valO_in (l := V4.encV 0 0 (⟨#[]⟩ : ByteArray).data.toList ++ b) (i := 0) (by unfold V4.encV; simp)).trans rfl
  · obtain rfl := hs (by decide)
    have e : V4.encV 1 n (⟨#[]⟩ : ByteArray).data.toList = [1] ++ num (zig n) := rfl
    have ht := take_num [1] b (zig n) (zig_lt n h0 h1) 1 rfl
    rw [e]
    refine (V4.valO_in (l := [1] ++ num (zig n) ++ b) (i := 0) (by simp)).trans ?_
    have e2 : (([1] ++ num (zig n) ++ b)[0]'(by simp)) = (1 : UInt8) := rfl
    simp only [e2]
    show (match takeO ([1] ++ num (zig n) ++ b) ((1 : Nat) : Int) with | some (n, c) => some ((1 : Int), zag n, (⟨#[]⟩ : ByteArray), (0 : Int) + 1 + c) | none => none) = _
    rw [ht]
    simp only [zag_zig, Option.some.injEq, Prod.mk.injEq, List.length_append, List.length_singleton, true_and]
    omega
  · obtain rfl := hs (by decide)
    have hn : n = 0 ∨ n = 1 := by simpa [rightB, r2] using hr
    rcases hn with rfl | rfl
    · exact (V4.valO_in (l := V4.encV 2 0 (⟨#[]⟩ : ByteArray).data.toList ++ b) (i := 0) (by unfold V4.encV; simp)).trans rfl
    · exact (V4.valO_in (l := V4.encV 2 1 (⟨#[]⟩ : ByteArray).data.toList ++ b) (i := 0) (by unfold V4.encV; simp)).trans rfl
  · obtain rfl := r1 rfl
    have hsz : s.size ≤ 1024 := by
      have : s.toList.length ≤ 1024 := by simpa [rightB] using hr
      rwa [tol_len] at this
    have e : V4.encV 3 0 s.data.toList = [3] ++ num s.size ++ s.data.toList := by
      unfold V4.encV
      rw [txt_len]
      rfl
    have ht := take_num [3] (s.data.toList ++ b) s.size (by omega) 1 rfl
    rw [e, List.append_assoc _ s.data.toList b]
    refine (V4.valO_in (l := [3] ++ num s.size ++ (s.data.toList ++ b)) (i := 0) (by simp)).trans ?_
    have e2 : (([3] ++ num s.size ++ (s.data.toList ++ b))[0]'(by simp)) = (3 : UInt8) := rfl
    simp only [e2]
    have hx : textO ([3] ++ num s.size ++ (s.data.toList ++ b)) ((1 : Nat) : Int) 1024 = some (s.data.toList, ((1 + (num s.size).length + s.size : Nat) : Int)) := by
      unfold textO
      rw [ht]
      simp only
      rw [if_neg (by simp only [List.length_append, txt_len, List.length_singleton]; omega)]
      have e3 : (((1 : Nat) : Int) + ((num s.size).length : Nat)).toNat = ([3] ++ num s.size).length := by simp only [List.length_append, List.length_singleton]; omega
      rw [e3, List.drop_left, ← txt_len s, List.take_left]
      simp only [txt_len]
      congr 2
    show (match textO ([3] ++ num s.size ++ (s.data.toList ++ b)) ((1 : Nat) : Int) 1024 with | some (t, p) => some ((3 : Int), (0 : Int), str t, p) | none => none) = _
    rw [hx]
    simp only [Option.some.injEq, Prod.mk.injEq, true_and, List.length_append, List.length_singleton, txt_len]
    exact ⟨rfl, trivial⟩


theorem snoc_ind {α : Type} {P : List α → Prop} (h0 : P []) (h1 : ∀ r v, P r → P (r ++ [v])) : ∀ (n : Nat) (l : List α), l.length = n → P l
  | 0, l, h => by rw [List.length_eq_zero_iff.1 h]; exact h0
  | n + 1, l, h => by
    have hne : l ≠ [] := by intro e; rw [e] at h; cases h
    rw [← List.dropLast_concat_getLast hne]
    exact h1 _ _ (snoc_ind h0 h1 n _ (by rw [List.length_dropLast, h]; rfl))
theorem takeO_shift (p b : List UInt8) {i : Int} (hi : 0 ≤ i) : takeO (p ++ b) ((p.length : Int) + i) = takeO b i := by
  unfold takeO
  by_cases h : i ≤ b.length
  · rw [if_pos ⟨by omega, by rw [List.length_append]; omega⟩, if_pos ⟨hi, h⟩]
    have e : ((p.length : Int) + i).toNat = p.length + i.toNat := by omega
    rw [e, ← List.drop_drop, List.drop_left]
  · rw [if_neg (by rw [List.length_append]; omega), if_neg (by omega)]
theorem textO_shift (p b : List UInt8) {i : Int} (hi : 0 ≤ i) (m : Int) : textO (p ++ b) ((p.length : Int) + i) m = (textO b i m).map fun x => (x.1, (p.length : Int) + x.2) := by
  unfold textO
  rw [takeO_shift p b hi]
  cases takeO b i with
  | none => rfl
  | some x =>
    obtain ⟨n, c⟩ := x
    simp only
    by_cases h : 1048576 < n ∨ m < (n : Int) ∨ (b.length : Int) - (i + c) < n
    · rw [if_pos (by rw [List.length_append]; omega), if_pos h]; rfl
    · rw [if_neg (by rw [List.length_append]; omega), if_neg h]
      have e : ((p.length : Int) + i + c).toNat = p.length + (i + c).toNat := by omega
      simp only [Option.map_some, e]
      rw [← List.drop_drop, List.drop_left]
      congr 2
      omega
theorem valO_shift (p b : List UInt8) {i : Int} (hi : 0 ≤ i) : V4.valO (p ++ b) ((p.length : Int) + i) = (V4.valO b i).map fun x => (x.1, x.2.1, x.2.2.1, (p.length : Int) + x.2.2.2) := by
  obtain ⟨j, rfl⟩ : ∃ j : Nat, i = (j : Int) := ⟨i.toNat, by omega⟩
  by_cases h : j < b.length
  · have e : ((p.length : Int) + (j : Int)) = ((p.length + j : Nat) : Int) := by omega
    have hl : p.length + j < (p ++ b).length := by rw [List.length_append]; omega
    have hg : (p ++ b)[p.length + j]'hl = b[j] := by rw [List.getElem_append_right (by omega)]; congr 1; omega
    have hg2 : (p ++ b)[p.length + j + 1]? = b[j + 1]? := by rw [List.getElem?_append_right (by omega)]; congr 1; omega
    have s1 := takeO_shift p b (i := (j : Int) + 1) (by omega)
    have s2 := textO_shift p b (i := (j : Int) + 1) (by omega) 1024
    have e1 : ((p.length + j : Nat) : Int) + 1 = (p.length : Int) + ((j : Int) + 1) := by omega
    rw [e, V4.valO_in hl, V4.valO_in h, hg, hg2, e1, s1, s2]
    generalize b[j] = c
    split
    · simp only [Option.map_some]
    · cases takeO b ((j : Int) + 1) with
      | none => rfl
      | some x => simp only [Option.map_some]; congr 4; omega
    · cases b[j + 1]? with
      | none => rfl
      | some c =>
        simp only
        by_cases hc : c.toNat ≤ 1
        · rw [if_pos hc, if_pos hc]; simp only [Option.map_some]; congr 4 <;> omega
        · rw [if_neg hc, if_neg hc]; rfl
    · cases textO b ((j : Int) + 1) 1024 with
      | none => rfl
      | some x => simp only [Option.map_some]
    · rename_i h0 h1 h2 h3
      revert h0 h1 h2 h3
      intro h0 h1 h2 h3
      rfl
  · rw [V4.valO_out (.inr (by rw [List.length_append]; omega)), V4.valO_out (.inr (by omega))]
    rfl
/-- A value is taken as it was laid. -/
theorem takeV_lay (p x : List UInt8) (v : Vl) (h : vlR v = true) : takeV (p ++ (encVl v ++ x)) (p.length : Int) = some (v, ((p.length + (encVl v).length : Nat) : Int)) := by
  have h1 := val_enc v.kind v.num v.text x h v.lo v.hi
  have h2 := valO_shift p (V4.encV v.kind v.num v.text.data.toList ++ x) (i := 0) (by omega)
  rw [h1, Int.add_zero] at h2
  unfold takeV
  unfold encVl
  split
  · rename_i hn
    rw [h2] at hn
    cases hn
  · rename_i k n s q hs
    rw [h2] at hs
    simp only [Option.map_some, Option.some.injEq, Prod.mk.injEq] at hs
    obtain ⟨rfl, rfl, rfl, rfl⟩ := hs
    rfl
theorem takeVs_lay (p : List UInt8) (x : List UInt8) : ∀ (r s : List Vl), (∀ v ∈ r ++ s, vlR v = true) → takeVs (p ++ ((r ++ s).flatMap encVl ++ x)) (p.length : Int) r.length = some (r, ((p.length + (r.flatMap encVl).length : Nat) : Int)) := by
  intro r
  refine snoc_ind (P := fun r => ∀ s : List Vl, (∀ v ∈ r ++ s, vlR v = true) → takeVs (p ++ ((r ++ s).flatMap encVl ++ x)) (p.length : Int) r.length = some (r, ((p.length + (r.flatMap encVl).length : Nat) : Int))) ?_ ?_ r.length r rfl
  · intro s _; rfl
  · intro r v ih s h
    have e : (r ++ [v]) ++ s = r ++ (v :: s) := by simp
    rw [List.length_append, List.length_singleton, takeVs, e, ih (v :: s) (by rw [← e]; exact h)]
    simp only
    have e2 : p ++ ((r ++ v :: s).flatMap encVl ++ x) = (p ++ r.flatMap encVl) ++ (encVl v ++ (s.flatMap encVl ++ x)) := by simp
    have hv := takeV_lay (p ++ r.flatMap encVl) (s.flatMap encVl ++ x) v (h v (by simp))
    rw [List.length_append] at hv
    rw [e2, hv]
    simp only [List.flatMap_append, List.flatMap_cons, List.flatMap_nil, List.append_nil, List.length_append]
    congr 3
    omega
theorem fits_vals {l : List Col} {r : List Vl} (h : fitsL l r = true) : r.length = l.length ∧ ∀ v ∈ r, vlR v = true := by
  unfold fitsL at h
  rw [Bool.and_eq_true, decide_eq_true_iff, List.all_eq_true] at h
  refine ⟨h.1, fun v hv => ?_⟩
  obtain ⟨i, hi, rfl⟩ := List.getElem_of_mem hv
  have h2 := h.2 (l[i]'(by omega), r[i]) (by rw [List.mem_iff_getElem]; exact ⟨i, by rw [List.length_zip]; omega, by rw [List.getElem_zip]⟩)
  unfold vfit at h2
  rw [Bool.and_eq_true] at h2
  exact h2.1
theorem takeRs_lay (cols : List Col) (p : List UInt8) (x : List UInt8) : ∀ (r s : List (List Vl)), (∀ v ∈ r ++ s, fitsL cols v = true) → takeRs cols (p ++ ((r ++ s).flatMap encRow ++ x)) (p.length : Int) r.length = some (r, ((p.length + (r.flatMap encRow).length : Nat) : Int)) := by
  intro r
  refine snoc_ind (P := fun r => ∀ s : List (List Vl), (∀ v ∈ r ++ s, fitsL cols v = true) → takeRs cols (p ++ ((r ++ s).flatMap encRow ++ x)) (p.length : Int) r.length = some (r, ((p.length + (r.flatMap encRow).length : Nat) : Int))) ?_ ?_ r.length r rfl
  · intro s _; rfl
  · intro r v ih s h
    have e : (r ++ [v]) ++ s = r ++ (v :: s) := by simp
    rw [List.length_append, List.length_singleton, takeRs, e, ih (v :: s) (by rw [← e]; exact h)]
    simp only
    have hf := h v (by simp)
    obtain ⟨hl, hvs⟩ := fits_vals hf
    have e2 : p ++ ((r ++ v :: s).flatMap encRow ++ x) = (p ++ r.flatMap encRow) ++ ((v ++ []).flatMap encVl ++ (s.flatMap encRow ++ x)) := by
      simp [encRow]
    have hv := takeVs_lay (p ++ r.flatMap encRow) (s.flatMap encRow ++ x) v [] (by simpa using hvs)
    rw [List.length_append] at hv
    rw [e2, ← hl, hv]
    simp only [hf, if_true, List.flatMap_append, List.flatMap_cons, List.flatMap_nil, List.append_nil, List.length_append]
    have e3 : (encRow v).length = (v.flatMap encVl).length := rfl
    congr 3
    omega
/-- Rows are taken as they were laid. -/
theorem takeRw_lay {cols : List Col} {rs : List (List Vl)} (x : List UInt8) (h : rowsE cols rs = 0) : takeRw cols (rowsD [] cols rs ++ x) 0 = some (rs, ((rowsD [] cols rs).length : Int)) := by
  unfold rowsE at h
  cases hr : rightC cols with
  | false => rw [hr] at h; simp at h
  | true =>
    rw [hr, if_pos rfl] at h
    by_cases hc : rs.length ≤ 1024 ∧ ∀ r ∈ rs, fitsL cols r = true
    · have hd : rowsD [] cols rs = num rs.length ++ rs.flatMap encRow := by
        unfold rowsD
        rw [if_pos ⟨hr, hc⟩]
        rfl
      unfold takeRw
      rw [hr, if_neg (by simp), hd, List.append_assoc]
      have ht : takeO (num rs.length ++ (rs.flatMap encRow ++ x)) 0 = some (rs.length, (num rs.length).length) := by
        have := take_num [] (rs.flatMap encRow ++ x) rs.length (by omega) 0 rfl
        rw [List.nil_append] at this
        exact this
      rw [ht]
      simp only
      rw [if_neg (by omega), Int.zero_add]
      have := takeRs_lay cols (num rs.length) x rs [] (by simpa using hc.2)
      rw [List.append_nil] at this
      rw [this, List.length_append]
    · rw [if_neg hc] at h; cases h
/-- A column is taken as it was laid. -/
theorem takeC_lay (p x : List UInt8) (c : Col) (h : colOk c = true) : takeC (p ++ (encC c ++ x)) (p.length : Int) = some (c, ((p.length + (encC c).length : Nat) : Int)) := by
  obtain ⟨h1, h2⟩ := colOk_parts h
  have hsz : c.name.size ≤ 24 := (encC_len h).2.1
  have hx : textO (p ++ (encC c ++ x)) (p.length : Int) 24 = some (c.name.data.toList, ((p.length + (num c.name.size).length + c.name.size : Nat) : Int)) := by
    have e : p ++ (encC c ++ x) = p ++ num c.name.size ++ (c.name.data.toList ++ ([UInt8.ofNat c.kind.toNat, nullB c.null] ++ x)) := by unfold encC; simp
    unfold textO
    rw [e, take_num p _ c.name.size (by omega) p.length rfl]
    simp only
    rw [if_neg (by simp only [List.length_append, txt_len]; omega)]
    have e3 : ((p.length : Int) + ((num c.name.size).length : Nat)).toNat = (p ++ num c.name.size).length := by rw [List.length_append]; omega
    rw [e3, List.drop_left, ← txt_len c.name, List.take_left]
    simp only [txt_len]
    congr 2
  unfold takeC
  rw [hx]
  simp only
  have hlen : (encC c).length = (num c.name.size).length + c.name.size + 2 := by unfold encC; simp; omega
  have hg : ∀ j (d : UInt8), [UInt8.ofNat c.kind.toNat, nullB c.null][j]? = some d → (p ++ (encC c ++ x)).getD (((p.length + (num c.name.size).length + c.name.size : Nat) : Int).toNat + j) 0 = d := by
    intro j d hd
    have e : p ++ (encC c ++ x) = (p ++ (num c.name.size ++ c.name.data.toList)) ++ ([UInt8.ofNat c.kind.toNat, nullB c.null] ++ x) := by unfold encC; simp
    have hj : j < 2 := (List.getElem?_eq_some_iff.1 hd).1
    rw [e, List.getD_eq_getElem?_getD, List.getElem?_append_right (by simp only [List.length_append, txt_len]; omega)]
    have e2 : ((p.length + (num c.name.size).length + c.name.size : Nat) : Int).toNat + j - (p ++ (num c.name.size ++ c.name.data.toList)).length = j := by
      simp only [List.length_append, txt_len]; omega
    rw [e2, List.getElem?_append_left (by simpa using hj), hd]
    rfl
  have g0 := hg 0 _ rfl
  have g1 := hg 1 _ rfl
  rw [Nat.add_zero] at g0
  rw [if_neg (by simp only [List.length_append, hlen]; omega), g1, g0]
  have hnb : ¬ 1 < (nullB c.null).toNat := by cases c.null <;> decide
  rw [if_neg hnb]
  have hcol : colOf c.name.data.toList (UInt8.ofNat c.kind.toNat) (nullB c.null) = c := by
    have hk : c.kind = 1 ∨ c.kind = 2 ∨ c.kind = 3 := by omega
    cases c with
    | mk nm k nl b =>
      unfold colOf
      simp only [Col.mk.injEq]
      have : nm.data.toList.length ≤ 24 := by rw [txt_len]; exact hsz
      refine ⟨by rw [List.take_of_length_le this]; simp [str], ?_, by cases nl <;> rfl⟩
      simp only at hk
      rcases hk with rfl | rfl | rfl <;> rfl
  rw [hcol, hlen]
  simp only [Option.some.injEq, Prod.mk.injEq, true_and]
  omega
theorem takeCs_lay (p : List UInt8) (x : List UInt8) : ∀ (r s : List Col), (∀ v ∈ r ++ s, colOk v = true) → takeCs (p ++ ((r ++ s).flatMap encC ++ x)) (p.length : Int) r.length = some (r, ((p.length + (r.flatMap encC).length : Nat) : Int)) := by
  intro r
  refine snoc_ind (P := fun r => ∀ s : List Col, (∀ v ∈ r ++ s, colOk v = true) → takeCs (p ++ ((r ++ s).flatMap encC ++ x)) (p.length : Int) r.length = some (r, ((p.length + (r.flatMap encC).length : Nat) : Int))) ?_ ?_ r.length r rfl
  · intro s _; rfl
  · intro r v ih s h
    have e : (r ++ [v]) ++ s = r ++ (v :: s) := by simp
    rw [List.length_append, List.length_singleton, takeCs, e, ih (v :: s) (by rw [← e]; exact h)]
    simp only
    have e2 : p ++ ((r ++ v :: s).flatMap encC ++ x) = (p ++ r.flatMap encC) ++ (encC v ++ (s.flatMap encC ++ x)) := by simp
    have hv := takeC_lay (p ++ r.flatMap encC) (s.flatMap encC ++ x) v (h v (by simp))
    rw [List.length_append] at hv
    rw [e2, hv]
    simp only [List.flatMap_append, List.flatMap_cons, List.flatMap_nil, List.append_nil, List.length_append]
    congr 3
    omega
/-- A schema is taken as it was laid. -/
theorem takeS_lay {l : List Col} (x : List UInt8) (h : rightC l = true) : takeS (layC l ++ x) 0 = some (l, ((layC l).length : Int)) := by
  have hl := rightC_lens h
  unfold takeS layC
  have ht : takeO (num l.length ++ (l.flatMap encC ++ x)) 0 = some (l.length, (num l.length).length) := by
    have := take_num [] (l.flatMap encC ++ x) l.length (by omega) 0 rfl
    rw [List.nil_append] at this
    exact this
  rw [List.append_assoc, ht]
  simp only
  rw [if_neg (by omega), Int.zero_add]
  have := takeCs_lay (num l.length) x l [] (by simpa using cols_ok h)
  rw [List.append_nil] at this
  rw [this]
  simp only [h, if_true, List.length_append]
end Go.Proofs.YtabnjiepmhblaaaDoor
