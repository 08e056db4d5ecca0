/- The program's Take of a schema. -/
import Derived.Test.YtabnjiepmhblaaaDoorScS
import Derived.Laws.MakeOwn
namespace Go.Proofs.YtabnjiepmhblaaaDoor
open Go.RowKit Go.Shelf Go.Maps
set_option linter.unusedVariables false

theorem setL_mid : ∀ (vs old pre post : List Value), vs.length = old.length → setL (pre ++ (old ++ post)) pre.length vs = pre ++ (vs ++ post)
  | [], [], _, _, _ => rfl
  | v :: vs, o :: old, pre, post, h => by
    have e : (pre ++ (o :: old ++ post)).set pre.length v = (pre ++ [v]) ++ (old ++ post) := by simp
    have := setL_mid vs old (pre ++ [v]) post (by simpa using h)
    rw [setL, e]
    rw [show (pre ++ [v]).length = pre.length + 1 by simp] at this
    rw [this]
    simp
  | [], _ :: _, _, _, h => by simp at h
  | _ :: _, [], _, _, h => by simp at h
def zc : Col := ⟨⟨#[]⟩, 0, false, by decide⟩
theorem flatC_len : ∀ l : List Col, (l.flatMap colC).length = l.length * 3
  | [] => rfl
  | c :: t => by rw [List.flatMap_cons, List.length_append, flatC_len t, List.length_cons]; simp [colC]; omega
theorem flatC_at : ∀ (l : List Col) (k j : Nat) (h : k < l.length), j < 3 → (l.flatMap colC)[k * 3 + j]? = (colC l[k])[j]?
  | c :: t, 0, j, h, hj => by
    rw [List.flatMap_cons, List.getElem?_append_left (by simp [colC]; omega)]
    simp
  | c :: t, k + 1, j, h, hj => by
    rw [List.flatMap_cons, List.getElem?_append_right (by simp [colC]; omega)]
    have := flatC_at t k j (by simpa using h) hj
    rw [show (k + 1) * 3 + j - (colC c).length = k * 3 + j by simp [colC]; omega, this]
    rfl
theorem cols_blk {w : World} {g : Nat} {l : List Col} (h : Blk w g 44 (l.flatMap colC)) : Cols w (some ⟨g, 0, none⟩) l := by
  intro k hk
  refine ⟨g, 0, rfl, ?_, ?_, ?_⟩
  · rw [Nat.zero_add, h.at_]; exact flatC_at l k 0 hk (by omega)
  · rw [Nat.zero_add, h.at_]; exact flatC_at l k 1 hk (by omega)
  · rw [Nat.zero_add, h.at_]; exact flatC_at l k 2 hk (by omega)
theorem flat_set {r : List Col} {c : Col} {z : Nat} {k : Nat} (hr : r.length = k) : setL ((r ++ List.replicate (z + 1) zc).flatMap colC) (k * 3) (colC c) = ((r ++ [c]) ++ List.replicate z zc).flatMap colC := by
  have := setL_mid (colC c) (colC zc) (r.flatMap colC) ((List.replicate z zc).flatMap colC) rfl
  rw [flatC_len, hr] at this
  rw [List.flatMap_append, List.replicate_succ, List.flatMap_cons, this]
  simp
theorem made_cols (n : Nat) : madeCells (.agg #[.string ⟨#[]⟩, .int .i64 0, .bool false] : Value).cells (n * 3) = ((List.replicate n zc).flatMap colC).toArray := by
  apply Array.ext'
  apply List.ext_getElem?
  intro i
  have hz : (.agg #[.string ⟨#[]⟩, .int .i64 0, .bool false] : Value).cells = #[.string ⟨#[]⟩, .int .i64 0, .bool false] := by rfl
  by_cases hi : i < n * 3
  · have hk : i / 3 < (List.replicate n zc).length := by rw [List.length_replicate]; omega
    have h1 := flatC_at (List.replicate n zc) (i / 3) (i % 3) hk (Nat.mod_lt _ (by decide))
    rw [show i / 3 * 3 + i % 3 = i by omega] at h1
    rw [List.toList_toArray, h1, List.getElem_replicate]
    simp only [madeCells, hz]
    have h3 : i % 3 < 3 := Nat.mod_lt _ (by decide)
    have hi2 : i < (Array.range (n * 3)).size := by simp; exact hi
    rw [List.getElem?_eq_getElem (by simp; exact hi)]
    simp only [Array.getElem_toList, Array.getElem_map, Array.getElem_range]
    have hm : i % 3 = 0 ∨ i % 3 = 1 ∨ i % 3 = 2 := by omega
    rcases hm with e | e | e <;> simp [e, colC, zc]
  · rw [List.getElem?_eq_none (by simp [madeCells]; omega), List.getElem?_eq_none (by rw [List.toList_toArray, flatC_len, List.length_replicate]; omega)]
end Go.Proofs.YtabnjiepmhblaaaDoor
