/- Rows of the call's own, whatever their elements: what keeps them, how they grow. -/
import Derived.Test.YtabnjiepmhblaaaDoorScC
namespace Go.Proofs.YtabnjiepmhblaaaDoor
open Go.RowKit
set_option linter.unusedVariables false

section
variable {w w' : World} {B : Nat} {e : TypeId} {z : Nat} {v : Value} {k : Nat} {xs : List Value}
theorem row_kept (h : w.ownsRow B e z v k xs) (hk : ∀ g, v.ownBlock = some g → w'.heap[g]? = w.heap[g]?) : w'.ownsRow B e z v k xs := by
  refine ⟨h.1, ?_⟩
  rcases h.2 with hn | ⟨g, cap, cur, rfl, hb, hg, rest⟩
  · exact .inl hn
  · exact .inr ⟨g, cap, cur, rfl, hb, (hk g rfl).trans hg, rest⟩
theorem row_base {B' : Nat} (h : w.ownsRow B e z v k xs) (hB : B' ≤ B) : w.ownsRow B' e z v k xs := by
  refine ⟨h.1, ?_⟩
  rcases h.2 with hn | ⟨g, cap, cur, rfl, hb, rest⟩
  · exact .inl hn
  · exact .inr ⟨g, cap, cur, rfl, by omega, rest⟩
theorem row_at (h : w.ownsRow B e z v k xs) {g : Nat} (hg : v.ownBlock = some g) : ∃ cur, w.heap[g]? = some (.cells cur e (0, 0)) ∧ B ≤ g := by
  rcases h.2 with ⟨rfl, _⟩ | ⟨g', cap, cur, rfl, hb, hg3, _⟩
  · simp [Value.ownBlock] at hg
  · have e2 : g' = g := by simpa [Value.ownBlock] using hg
    subst e2
    exact ⟨cur, hg3, hb⟩
theorem row_lt (h : w.ownsRow B e z v k xs) {g : Nat} (hg : v.ownBlock = some g) : B ≤ g ∧ g < w.heap.size := by
  obtain ⟨cur, hc, hb⟩ := row_at h hg
  exact ⟨hb, (Array.getElem?_eq_some_iff.1 hc).1⟩
theorem row_ne {g : Nat} {t : TypeId} {cs : List Value} (h : w.ownsRow B e z v k xs) (hb : Blk w g t cs) (ht : t ≠ e) : v.ownBlock ≠ some g := by
  intro hg
  obtain ⟨cur, hc, _⟩ := row_at h hg
  unfold Blk at hb
  rw [hb] at hc
  simp only [Option.some.injEq, Obj.cells.injEq] at hc
  exact ht hc.2.1
theorem row_others (h : w.ownsRow B e z v k xs) (hg : w.grownBy w' v.ownBlock) : KeepsOthers w w' := by
  refine KeepsOthers.of_grownBy hg fun j o ej hj => ?_
  obtain ⟨cur, hc, _⟩ := row_at h ej
  rw [hj] at hc
  injection hc with hc
  subst hc
  rfl
theorem row_walked {row : Option Nat} (h : w.ownsRow B e z v k xs) (hg : w.grownBy w' row) (hr : ∀ r, row = some r → ∃ o : Obj, w.heap[r]? = some o ∧ o.isCells = false) : w'.ownsRow B e z v k xs := by
  refine row_kept h fun g hg2 => ?_
  obtain ⟨cur, hc, _⟩ := row_at h hg2
  refine hg.block g (Array.getElem?_eq_some_iff.1 hc).1 fun ej => ?_
  obtain ⟨o, ho, hoc⟩ := hr g ej.symm
  rw [hc] at ho
  injection ho with ho
  subst ho
  cases hoc
theorem row_below (h : w.ownsRow B e z v k xs) (hb : Below w.heap.size w w') : w'.ownsRow B e z v k xs := row_kept h fun g hg => hb.block g (row_lt h hg).2
theorem row_sole {g : Nat} {t : TypeId} {cs : List Value} (h : w.ownsRow B e z v k xs) (hb : Blk w g t cs) (ht : t ≠ e) (hs : Sole g w w') : w'.ownsRow B e z v k xs :=
  row_kept h fun j hj => hs.block j fun ej => row_ne h hb ht (ej ▸ hj)
theorem row_form (h : w.ownsRow B e z v k xs) : ∃ A c, v = .slice A k c ∧ (A = none → c = 0 ∧ k = 0) ∧ k ≤ c ∧ c ≤ maxLen ∧ ∀ j u, xs[j]? = some u → ∃ g, A = some ⟨g, 0, none⟩ ∧ w.cell? ⟨g, j, none⟩ = some u := by
  rcases h.2 with ⟨rfl, h0⟩ | ⟨g, cap, cur, rfl, hb, hg, hn, hm, hs, ht⟩
  · have hx : xs = [] := List.eq_nil_of_length_eq_zero (by rw [h.1, h0, Nat.zero_mul])
    subst hx
    subst h0
    exact ⟨none, 0, rfl, fun _ => ⟨rfl, rfl⟩, Nat.le_refl _, Nat.zero_le _, fun j u hj => by simp at hj⟩
  · refine ⟨some ⟨g, 0, none⟩, cap, rfl, by simp, hn, hm, fun j u hj => ⟨g, rfl, ?_⟩⟩
    have := World.ownsRow.cells h (g := g) rfl j u hj
    rwa [Addr.add_lit, Nat.zero_add] at this
/-- A block beside a row that grows lies as it lay. -/
theorem blk_grown {g : Nat} {t : TypeId} {cs : List Value} (h : w.ownsRow B e z v k xs) (hg : w.grownBy w' v.ownBlock) (hb : Blk w g t cs) (ht : t ≠ e) : Blk w' g t cs :=
  (hg.block g (lt_of_block hb) (fun ej => (row_ne h hb ht) ej.symm)).trans hb
end

/-- Texts in a row of the call's own. -/
def OwnT (w : World) (B : Nat) (v : Value) (l : List ByteArray) : Prop := w.ownsRow B 9 1 v l.length (l.map Value.string)
theorem info_str : (Tryd.prog.info? 9).map (fun i => (i.zero, i.size, i.bytes)) = some (some (.string ⟨#[]⟩), 1, 16) := by kernel_rfl
/-- Append of one text, inside a fence. -/
theorem app_txtI {F : Fence} {n : Nat} {ops : Array Oper} {rest : List Oper} {o : Oper} {a : Act} {Q : Exit → Act → World → Prop} {w : World} (w0 : World) (hgd : o.guard = none) (s x : Operand)
    (ho : o.op = .call { callee := .builtin .append, args := #[s, x], argTypes := #[45, 45] }) (v : Value) (d : List ByteArray) (hs : a.eval s = v) (hown : OwnT w w0.heap.size v d) (hbel : Below w0.heap.size w0 w)
    (g c : Nat) (q : ByteArray) (hx : a.eval x = .slice (some ⟨g, 0, none⟩) 1 c) (hq : w.cell? ⟨g, 0, none⟩ = some (.string q)) (hsz : d.length ≤ 4000000000000)
    (h : ∀ v' w', OwnT w' w0.heap.size v' (d ++ [q]) → Below w0.heap.size w0 w' → w.grownBy w' v.ownBlock → wpListIn F n Tryd.prog ops Q rest (a.put o.dst v') w') : wpListIn F n Tryd.prog ops Q (o :: rest) a w := by
  obtain ⟨i0, hti, hz0, hz1, hz2⟩ := info_parts info_str
  refine wpListIn_append_own w hgd s x 45 ho w0.heap.size 9 i0 (.string ⟨#[]⟩) 1 16 Tryd.underlying45 hti hz0 hz1 hz2 rfl (by decide) v d.length (d.map Value.string) hs hown ⟨g, 0, none⟩ 1 c [.string q] hx rfl
    (fun j u hj => by
      match j, hj with
      | 0, hj => simp at hj; subst hj; rw [Addr.add_lit]; exact hq)
    (fun u hu => by simp at hu; subst hu; rfl) (by unfold maxLen; omega) (by omega) hbel.size ?_
  intro v' w' h1 h2 h5
  refine h v' w' ?_ (hbel.grown h2 hbel.size (fun k hk => (row_lt hown hk).1)) h2
  show w'.ownsRow w0.heap.size 9 1 v' (d ++ [q]).length ((d ++ [q]).map Value.string)
  rw [List.length_append, List.map_append]; exact h1
end Go.Proofs.YtabnjiepmhblaaaDoor
