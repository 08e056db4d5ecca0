/- Rows of the call's own, whatever their elements: what keeps them, how they grow. -/
import Derived.Test.YtfgmdaemcaamiaaDoorMem
import Derived.RangeFuncFrom
namespace Go.Proofs.YtfgmdaemcaamiaaDoor
open Go.RowKit
set_option linter.unusedVariables false

section
variable {w w' : World} {B : Nat} {e : TypeId} {z : Nat} {v : Value} {k : Nat} {xs : List Value}
theorem row_kept (h : w.ownsRow B e z v k xs) (hk : ∀ g, v.ownBlock = some g → w'.heap[g]? = w.heap[g]?) : w'.ownsRow B e z v k xs := by
  refine ⟨h.1, ?_⟩
  rcases h.2 with hn | ⟨g, cap, cur, rfl, hb, hg, rest⟩
  · exact .inl hn
  · exact .inr ⟨g, cap, cur, rfl, hb, (hk g rfl).trans hg, rest⟩
theorem row_base {B' : Nat} (h : w.ownsRow B e z v k xs) (hB : B' ≤ B) : w.ownsRow B' e z v k xs := by
  refine ⟨h.1, ?_⟩
  rcases h.2 with hn | ⟨g, cap, cur, rfl, hb, rest⟩
  · exact .inl hn
  · exact .inr ⟨g, cap, cur, rfl, by omega, rest⟩
theorem row_at (h : w.ownsRow B e z v k xs) {g : Nat} (hg : v.ownBlock = some g) : ∃ cur, w.heap[g]? = some (.cells cur e (0, 0)) ∧ B ≤ g := by
  rcases h.2 with ⟨rfl, _⟩ | ⟨g', cap, cur, rfl, hb, hg3, _⟩
  · simp [Value.ownBlock] at hg
  · have e2 : g' = g := by simpa [Value.ownBlock] using hg
    subst e2
    exact ⟨cur, hg3, hb⟩
theorem row_lt (h : w.ownsRow B e z v k xs) {g : Nat} (hg : v.ownBlock = some g) : B ≤ g ∧ g < w.heap.size := by
  obtain ⟨cur, hc, hb⟩ := row_at h hg
  exact ⟨hb, (Array.getElem?_eq_some_iff.1 hc).1⟩
theorem row_ne {g : Nat} {t : TypeId} {cs : List Value} (h : w.ownsRow B e z v k xs) (hb : Blk w g t cs) (ht : t ≠ e) : v.ownBlock ≠ some g := by
  intro hg
  obtain ⟨cur, hc, _⟩ := row_at h hg
  unfold Blk at hb
  rw [hb] at hc
  simp only [Option.some.injEq, Obj.cells.injEq] at hc
  exact ht hc.2.1
theorem row_others (h : w.ownsRow B e z v k xs) (hg : w.grownBy w' v.ownBlock) : KeepsOthers w w' := by
  refine KeepsOthers.of_grownBy hg fun j o ej hj => ?_
  obtain ⟨cur, hc, _⟩ := row_at h ej
  rw [hj] at hc
  injection hc with hc
  subst hc
  rfl
theorem row_walked {row : Option Nat} (h : w.ownsRow B e z v k xs) (hg : w.grownBy w' row) (hr : ∀ r, row = some r → ∃ o : Obj, w.heap[r]? = some o ∧ o.isCells = false) : w'.ownsRow B e z v k xs := by
  refine row_kept h fun g hg2 => ?_
  obtain ⟨cur, hc, _⟩ := row_at h hg2
  refine hg.block g (Array.getElem?_eq_some_iff.1 hc).1 fun ej => ?_
  obtain ⟨o, ho, hoc⟩ := hr g ej.symm
  rw [hc] at ho
  injection ho with ho
  subst ho
  cases hoc
theorem row_below (h : w.ownsRow B e z v k xs) (hb : Below w.heap.size w w') : w'.ownsRow B e z v k xs := row_kept h fun g hg => hb.block g (row_lt h hg).2
theorem row_form (h : w.ownsRow B e z v k xs) : ∃ A c, v = .slice A k c ∧ (A = none → c = 0 ∧ k = 0) ∧ k ≤ c ∧ c ≤ maxLen ∧ ∀ j u, xs[j]? = some u → ∃ g, A = some ⟨g, 0, none⟩ ∧ w.cell? ⟨g, j, none⟩ = some u := by
  rcases h.2 with ⟨rfl, h0⟩ | ⟨g, cap, cur, rfl, hb, hg, hn, hm, hs, ht⟩
  · have hx : xs = [] := List.eq_nil_of_length_eq_zero (by rw [h.1, h0, Nat.zero_mul])
    subst hx
    subst h0
    exact ⟨none, 0, rfl, fun _ => ⟨rfl, rfl⟩, Nat.le_refl _, Nat.zero_le _, fun j u hj => by simp at hj⟩
  · refine ⟨some ⟨g, 0, none⟩, cap, rfl, by simp, hn, hm, fun j u hj => ⟨g, rfl, ?_⟩⟩
    have := World.ownsRow.cells h (g := g) rfl j u hj
    rwa [Addr.add_lit, Nat.zero_add] at this
/-- A block beside a row that grows lies as it lay. -/
theorem blk_beside {g : Nat} {t : TypeId} {cs : List Value} (h : w.ownsRow B e z v k xs) (hg : w.grownBy w' v.ownBlock) (hb : Blk w g t cs) (ht : t ≠ e) : Blk w' g t cs :=
  (hg.block g (lt_of_block hb) (fun ej => (row_ne h hb ht) ej.symm)).trans hb
end

end Go.Proofs.YtfgmdaemcaamiaaDoor
