/- What values lie between: the plain model. -/
import Derived.Test.YtfgmdaemcaamiaaDoorChM
namespace Go.Proofs.YtfgmdaemcaamiaaDoor
open Go.RowKit
set_option linter.unusedVariables false

def cmp8 (a b : Vl) : Int := cmpV a.kind a.num a.text.toList b.kind b.num b.text.toList
def minS (a v : Vl) : Vl := if a.kind = 0 ∨ cmp8 v a < 0 then v else a
def maxS (a v : Vl) : Vl := if 0 < cmp8 v a then v else a
def minZ (l : List Vl) : Vl := l.foldl minS nulV
def maxZ (l : List Vl) : Vl := l.foldl maxS nulV
theorem minZ_snoc (l : List Vl) (v : Vl) : minZ (l ++ [v]) = minS (minZ l) v := by unfold minZ; rw [List.foldl_append]; rfl
theorem maxZ_snoc (l : List Vl) (v : Vl) : maxZ (l ++ [v]) = maxS (maxZ l) v := by unfold maxZ; rw [List.foldl_append]; rfl
theorem cmp8_trans {a b c : Vl} (h : cmp8 a b ≤ 0) (k : cmp8 b c ≤ 0) : cmp8 a c ≤ 0 := (cmpV_trans _ _ _ _ _ _ _ _ _ h k).1
theorem cmp8_turn (a b : Vl) : cmp8 b a = - cmp8 a b := cmpV_turn _ _ _ _ _ _
theorem cmp8_self (a : Vl) : cmp8 a a = 0 := (cmpV_zero _ _ _ _ _ _).2 ⟨rfl, rfl, rfl⟩
theorem tl_inj {s t : ByteArray} (h : s.toList = t.toList) : s = t := by
  rw [ByteArray.toList_eq, ByteArray.toList_eq] at h
  cases s; cases t
  simp only at h
  congr 1
  exact Array.toList_inj.1 h
theorem cmp8_zero {a b : Vl} (h : cmp8 a b = 0) : a = b := by
  obtain ⟨h1, h2, h3⟩ := (cmpV_zero _ _ _ _ _ _).1 h
  exact Vl.same8 h1 h2 (tl_inj h3)
theorem cmp8_null {v : Vl} (h0 : 0 < v.kind) : 0 < cmp8 v nulV := by
  unfold cmp8 cmpV
  have e : cmpI v.kind nulV.kind = 1 := by unfold cmpI; show (if v.kind < 0 then (-1 : Int) else if 0 < v.kind then 1 else 0) = 1; rw [if_neg (by omega), if_pos h0]
  rw [e]
  unfold orI
  rw [if_pos (by decide)]
  decide
theorem snoc_ind {α : Type} {P : List α → Prop} (h0 : P []) (hs : ∀ l v, P l → P (l ++ [v])) (l : List α) : P l := by
  rw [← List.reverse_reverse l]
  induction l.reverse with
  | nil => exact h0
  | cons a t ih => rw [List.reverse_cons]; exact hs _ _ ih
/-- What is known of the ends behind values that are not null. -/
theorem minZ_spec : ∀ (l : List Vl), (∀ v ∈ l, 0 < v.kind) → (l = [] → minZ l = nulV ∧ maxZ l = nulV) ∧ (l ≠ [] → minZ l ∈ l ∧ maxZ l ∈ l ∧ ∀ v ∈ l, cmp8 (minZ l) v ≤ 0 ∧ cmp8 v (maxZ l) ≤ 0) := by
  intro l
  refine snoc_ind (P := fun l => (∀ v ∈ l, 0 < v.kind) → (l = [] → minZ l = nulV ∧ maxZ l = nulV) ∧ (l ≠ [] → minZ l ∈ l ∧ maxZ l ∈ l ∧ ∀ v ∈ l, cmp8 (minZ l) v ≤ 0 ∧ cmp8 v (maxZ l) ≤ 0)) ?_ ?_ l
  · intro _; exact ⟨fun _ => ⟨rfl, rfl⟩, fun h => absurd rfl h⟩
  · intro l v ih h
    have hv := h v (by simp)
    obtain ⟨i1, i2⟩ := ih (fun u hu => h u (List.mem_append_left _ hu))
    refine ⟨fun e => by simp at e, fun _ => ?_⟩
    rw [minZ_snoc, maxZ_snoc]
    by_cases hl : l = []
    · subst hl
      obtain ⟨a, b⟩ := i1 rfl
      rw [a, b]
      have e1 : minS nulV v = v := if_pos (.inl rfl)
      have e2 : maxS nulV v = v := if_pos (cmp8_null hv)
      rw [e1, e2]
      refine ⟨by simp, by simp, fun u hu => ?_⟩
      obtain rfl : u = v := by simpa using hu
      rw [cmp8_self]; omega
    · obtain ⟨m1, m2, m3⟩ := i2 hl
      have hk : (minZ l).kind ≠ 0 := by have := h _ (List.mem_append_left _ m1); omega
      unfold minS maxS
      refine ⟨?_, ?_, fun u hu => ⟨?_, ?_⟩⟩
      · split
        · simp
        · exact List.mem_append_left _ m1
      · split
        · simp
        · exact List.mem_append_left _ m2
      · split
        · rename_i hc
          have hc := hc.resolve_left hk
          rcases List.mem_append.1 hu with hu | hu
          · exact cmp8_trans (by omega) (m3 u hu).1
          · obtain rfl : u = v := by simpa using hu
            rw [cmp8_self]; omega
        · rename_i hc
          rcases List.mem_append.1 hu with hu | hu
          · exact (m3 u hu).1
          · obtain rfl : u = v := by simpa using hu
            have := cmp8_turn u (minZ l)
            have h2 : ¬ cmp8 u (minZ l) < 0 := fun h => hc (.inr h)
            omega
      · split
        · rename_i hc
          rcases List.mem_append.1 hu with hu | hu
          · have := cmp8_turn v (maxZ l)
            exact cmp8_trans (m3 u hu).2 (by omega)
          · obtain rfl : u = v := by simpa using hu
            rw [cmp8_self]; omega
        · rename_i hc
          rcases List.mem_append.1 hu with hu | hu
          · exact (m3 u hu).2
          · obtain rfl : u = v := by simpa using hu
            omega
/-- Which values a zone may be asked of. -/
def zonR (l : List Vl) : Bool := decide (l.length ≤ 1024) && l.all vlR
theorem zonR_iff {l : List Vl} : zonR l = true ↔ l.length ≤ 1024 ∧ ∀ v ∈ l, vlR v = true := by
  unfold zonR
  simp only [Bool.and_eq_true, decide_eq_true_eq, List.all_eq_true]
theorem right_kind {v : Vl} (h : vlR v = true) : 0 ≤ v.kind ∧ v.kind ≤ 3 := by
  have := right_text h
  exact ⟨this.2.2.1, this.2.2.2⟩
theorem oth_pos {l : List Vl} (h : ∀ v ∈ l, vlR v = true) : ∀ v ∈ othL l, 0 < v.kind := fun v hv => by
  unfold othL at hv
  rw [List.mem_filter] at hv
  have h1 := right_kind (h v hv.1)
  have h2 : v.kind ≠ 0 := by simpa using hv.2
  omega
/-- A zone, as a value and as cells. -/
def zonV (n : Int) (a b : Vl) : Value := .agg #[.int .i64 n, .int .i64 a.kind, .int .i64 a.num, .string a.text, .int .i64 b.kind, .int .i64 b.num, .string b.text]
def zonC (n : Int) (a b : Vl) : List Value := [.int .i64 n, .int .i64 a.kind, .int .i64 a.num, .string a.text, .int .i64 b.kind, .int .i64 b.num, .string b.text]
/-- What Zone answers. -/
def zonT (l : List Vl) : Value := if zonR l then .tuple #[zonV (nulN l) (minZ (othL l)) (maxZ (othL l)), .int .i64 0] else .tuple #[zonV 0 nulV nulV, .int .i64 2]
theorem zonT_no {l : List Vl} (h : zonR l = false) : zonT l = .tuple #[zonV 0 nulV nulV, .int .i64 2] := by unfold zonT; rw [h]; rfl
theorem zonT_yes {l : List Vl} (h : zonR l = true) : zonT l = .tuple #[zonV (nulN l) (minZ (othL l)) (maxZ (othL l)), .int .i64 0] := by unfold zonT; rw [h]; rfl
end Go.Proofs.YtfgmdaemcaamiaaDoor
