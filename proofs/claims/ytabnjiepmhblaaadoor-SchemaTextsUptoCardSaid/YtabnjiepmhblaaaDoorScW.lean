/- The document's Take of a schema. -/
import Derived.Test.YtabnjiepmhblaaaDoorScU
import Derived.Test.YtabnjiepmhblaaaDoorRowG
namespace Go.Proofs.YtabnjiepmhblaaaDoor
open Go.RowKit Go.Shelf Go.Maps
set_option linter.unusedVariables false

/-- Columns in a row of the call's own. -/
def OwnC (w : World) (B : Nat) (v : Value) (l : List Col) : Prop := w.ownsRow B 44 3 v l.length (l.flatMap colC)
theorem OwnC.form {w : World} {B : Nat} {v : Value} {l : List Col} (h : OwnC w B v l) : ∃ A c, v = .slice A l.length c ∧ Cols w A l ∧ (A = none → c = 0) ∧ l.length ≤ c := by
  obtain ⟨A, c, e, hA, hc, _, hcl⟩ := row_form h
  refine ⟨A, c, e, ?_, fun h => (hA h).1, hc⟩
  intro k hk
  have a0 := flatC_at l k 0 hk (by omega)
  have a1 := flatC_at l k 1 hk (by omega)
  have a2 := flatC_at l k 2 hk (by omega)
  obtain ⟨g, e0, b0⟩ := hcl _ _ a0
  obtain ⟨g1, e1, b1⟩ := hcl _ _ a1
  obtain ⟨g2, e2, b2⟩ := hcl _ _ a2
  subst e0
  injection e1 with e1
  injection e1 with e1
  injection e2 with e2
  injection e2 with e2
  subst e1 e2
  exact ⟨g, 0, rfl, by rw [Nat.zero_add]; exact b0, by rw [Nat.zero_add]; exact b1, by rw [Nat.zero_add]; exact b2⟩
theorem colC_one (c : Col) : ∀ u ∈ colC c, u.oneCell' = true := one_c _ _ _
theorem app_col {ops : Array Oper} {rest : List Oper} {o : Oper} {a : Act} {Q : Exit → Act → World → Prop} {w : World} (w0 : World) (hgd : o.guard = none) (s x : Operand)
    (ho : o.op = .call { callee := .builtin .append, args := #[s, x], argTypes := #[22, 22] }) (v : Value) (d : List Col) (hs : a.eval s = v) (hown : OwnC w w0.heap.size v d) (hbel : Below w0.heap.size w0 w)
    (g c : Nat) (q : Col) (hx : a.eval x = .slice (some ⟨g, 0, none⟩) 1 c) (hq : Blk w g 44 (colC q)) (hsz : d.length ≤ 4000)
    (h : ∀ v' w', OwnC w' w0.heap.size v' (d ++ [q]) → Below w0.heap.size w0 w' → wpList Tryd.prog ops Q rest (a.put o.dst v') w') : wpList Tryd.prog ops Q (o :: rest) a w := by
  obtain ⟨i0, hti, hz0, hz1, hz2⟩ := info_parts info_col
  refine wpList_append_own w hgd s x 22 ho w0.heap.size 44 i0 _ 3 32 Tryd.underlying22 hti hz0 hz1 hz2 rfl (by decide) v d.length (d.flatMap colC) hs hown ⟨g, 0, none⟩ 1 c (colC q) hx rfl
    (fun j u hj => by rw [Addr.add_lit, Nat.zero_add, hq.at_]; exact hj) (colC_one q) (by unfold maxLen; omega) (by omega) hbel.size ?_
  intro v' w' h1 h2 h5
  refine h v' w' ?_ (hbel.grown h2 hbel.size (fun k hk => (World.ownsRow.lt hown k hk).1))
  show w'.ownsRow w0.heap.size 44 3 v' (d ++ [q]).length ((d ++ [q]).flatMap colC)
  rw [List.length_append, List.flatMap_append, List.flatMap_cons, List.flatMap_nil, List.append_nil]
  exact h1

end Go.Proofs.YtabnjiepmhblaaaDoor
