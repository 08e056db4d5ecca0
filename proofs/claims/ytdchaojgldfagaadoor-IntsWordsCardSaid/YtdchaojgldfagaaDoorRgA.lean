/- A range over an iterator that keeps variables of its own and is never left early. -/
import Derived.RangeFuncFrom
namespace Go.Proofs.YtdchaojgldfagaaDoor
open Go.RowKit
set_option linter.unusedVariables false

/-- What may be said of a world while an iterator turns blocks that it laid itself. -/
def Abide (ok : Obj → Prop) (B : Nat) (J : Nat → World → Prop) : Prop :=
  ∀ s a b row, J s a → a.grownBy b row → (∀ r, row = some r → B ≤ r ∧ ∃ o : Obj, a.heap[r]? = some o ∧ ok o) → J s b
theorem Abide.new {ok : Obj → Prop} {B : Nat} {J : Nat → World → Prop} (h : Abide ok B J) {s : Nat} {w : World} (o : Obj) (hj : J s w) : J s (w.alloc o) :=
  h s w _ none hj (World.grownBy_alloc w o none) (fun r e => by cases e)
theorem Abide.put {ok : Obj → Prop} {B : Nat} {J : Nat → World → Prop} (h : Abide ok B J) {s : Nat} {w : World} {l : Nat} {o : Obj} (o' : Obj) (hj : J s w) (hl : w.heap[l]? = some o) (hB : B ≤ l) (ho : ok o) : J s (w.putObj l o') :=
  h s w _ (some l) hj (grownBy_putObj' w l o') (fun r e => by cases e; exact ⟨hB, o, hl, ho⟩)

theorem range_all {F : Fence} {n : Nat} {P : Program} {g : Operand} {ps : Array Tmp} {assign body : Code} {Q : Exit → Act → World → Prop} {a : Act} {w : World}
    (hro : F.round = none) (h1 : 1 ≤ n) {gf : Nat} {lb : Array Value} (hg : a.eval g = .func (.func gf) #[] lb) (hFg : F.fn gf) (eg : ∀ args w, (callFunc gf args).run P w = .ok (.enter gf args) w)
    (N : Nat) (encs : Nat → Array Value) (ok : Obj → Prop) (Kp : World → World → Prop) (hps : ∀ k, (encs k).size = ps.size)
    (hseq : ∀ (l : Nat) (W : World) (J : Nat → World → Prop), Below w.heap.size w W → Abide ok W.heap.size J →
      (∀ k, k < N → ∀ W1, J k W1 → YieldAt F (n - 1 - 1) P l (encs k) W1 fun e W2 => e = .returned (.bool true) ∧ J (k + 1) W2 ∧ Kp W1 W2) → J 0 W →
      CallsIn F (n - 1) P gf (#[.func (.yield l) #[] #[]] ++ lb) W fun e W2 => (∃ v, e = .returned v) ∧ J N W2)
    (hKt : ∀ {A B C : World}, Kp A B → Kp B C → Kp A C) (hKb : ∀ (W : World) (l : Nat) (o o' : Obj), w.heap.size ≤ l → W.heap[l]? = some o → o.isCells = false → Kp W (W.putObj l o'))
    (I : Nat → World → Prop) (hI : Abide (fun o => o.isCells = false ∨ ok o) w.heap.size I) (h0 : I 0 w) (a₁ : Nat → Act)
    (hassign : ∀ (l k : Nat) (W : World) (K : Act → World → Prop), K (a₁ k) W →
      assign.wpIn (F.inRound l) (n - 1 - 1) P (Exit.then K (fun _ _ _ => False)) { tmps := (ps.zip (encs k)).foldl (fun t (p, v) => t.setIfInBounds p v) a.tmps, defers := [] } W)
    (hbody : ∀ (l k : Nat) (W : World), I k W → k < N → body.wpIn (F.inRound l) (n - 1 - 1) P (fun e _ W2 => e = .normal ∧ KeepsOthers W W2 ∧ Kp W W2 ∧ I (k + 1) W2) (a₁ k) W)
    (hdone : ∀ (D : Nat) (W : World), w.heap.size ≤ D → I N W → W.heap[D]? = some (.deferred (some [])) → Q .normal { a with defers := { target := .collected D, args := #[] } :: a.defers } W) :
    (Code.rangeFunc g ps assign body).wpIn F n P Q a w := by
  refine wpIn_rangeFunc fun fn hfn => ?_
  rw [hro]
  -- the record in its two states, and the world in which the iterator is called
  let idle : Loop := { state := .ready, pending := none, fn, tmps := a.tmps, params := ps, assign, body, defers := w.heap.size }
  let busy : Loop := { state := .busy, pending := none, fn, tmps := a.tmps, params := ps, assign, body, defers := w.heap.size }
  obtain ⟨D, hD⟩ : ∃ D, w.heap.size = D := ⟨_, rfl⟩
  obtain ⟨W0, hW0⟩ : ∃ x, x = (w.alloc (.deferred (some []))).alloc (.loop idle) := ⟨_, rfl⟩
  have hsz : W0.heap.size = D + 2 := by rw [hW0]; simp [hD]
  have hrec : W0.heap[D + 1]? = some (.loop idle) := by
    rw [hW0, ← hD]
    have := World.alloc_heap_new (w.alloc (.deferred (some []))) (.loop idle)
    rwa [World.size_alloc] at this
  have hdef : W0.heap[D]? = some (.deferred (some [])) := by
    rw [hW0, ← hD]
    exact (Below.heap_alloc _ _ _ (by simp)).trans (World.alloc_heap_new w _)
  have hbel : Below w.heap.size w W0 := by rw [hW0]; exact ((Below.refl _ _).alloc (Nat.le_refl _) _).alloc (by simp) _
  have hi0 : I 0 W0 := by rw [hW0]; exact hI.new _ (hI.new _ h0)
  refine ⟨D + 1, [{ target := .collected D, args := #[] }], W0, { target := .fn (.func gf) lb, args := #[.func (.yield (D + 1)) #[] #[]] }, W0, gf, #[.func (.yield (D + 1)) #[] #[]] ++ lb, W0, ?_, ?_, ?_, ?_, fun _ => h1, ?_⟩
  · rw [hW0, ← hD]; exact run_enterLoop_outer _ _ _ _ _
  · simp only [resolve, hg]; simp [go_sem]
  · intro f' hf'; simp [Target.leads] at hf'; subst hf'; exact hFg
  · simp [invoke, go_sem, eg]
  · refine (hseq (D + 1) W0 (fun k W => I k W ∧ W.heap[D + 1]? = some (.loop idle) ∧ W.heap[D]? = some (.deferred (some []))) hbel ?_ ?_ ⟨hi0, hrec, hdef⟩).mono ?_
    · -- the iterator turns blocks that lie beyond the record
      rintro s x y row ⟨hi, hl, hd⟩ hgr hrow
      have keep : ∀ k, k < D + 2 → k < x.heap.size → y.heap[k]? = x.heap[k]? := fun k hk hx => hgr.block k hx (fun e => by have := (hrow k e.symm).1; omega)
      refine ⟨hI s x y row hi hgr (fun r e => ?_), (keep _ (by omega) (Array.getElem?_eq_some_iff.1 hl).1).trans hl, (keep _ (by omega) (Array.getElem?_eq_some_iff.1 hd).1).trans hd⟩
      obtain ⟨h2, o, h3, h4⟩ := hrow r e
      exact ⟨by omega, o, h3, .inr h4⟩
    · -- a round
      rintro k hk W ⟨hi, hl, hd⟩
      have hlt := (Array.getElem?_eq_some_iff.1 hl).1
      refine ⟨fn, _, assign, body, run_yield (P := P) (args := encs k) hl (hps k), roundIn_of_wpIn hfn (hassign _ k W _ ⟨_, run_beginRound hl rfl, ?_⟩)⟩
      have hlb : (W.putObj (D + 1) (.loop busy)).heap[D + 1]? = some (.loop busy) := World.putObj_heap_same hlt
      have hdb : (W.putObj (D + 1) (.loop busy)).heap[D]? = some (.deferred (some [])) := (World.putObj_heap_other (by omega)).trans hd
      refine wpIn_mono (hbody _ k _ (hI.put _ hi hl (by omega) (.inl rfl)) hk) ?_
      rintro e a3 W3 ⟨rfl, hko, hkp, hi3⟩
      have hl3 := hko.same _ _ hlb rfl
      exact ⟨_, _, run_endRound (P := P) none hl3, rfl, ⟨hI.put _ hi3 hl3 (by omega) (.inl rfl), World.putObj_heap_same (Array.getElem?_eq_some_iff.1 hl3).1, (World.putObj_heap_other (by omega)).trans (hko.same _ _ hdb rfl)⟩,
        hKt (hKt (hKb W _ _ _ (by omega) hl rfl) hkp) (hKb W3 _ _ _ (by omega) hl3 rfl)⟩
    · -- behind the iterator
      rintro e W2 ⟨⟨v, rfl⟩, hi, hl, hd⟩
      exact ⟨none, _, run_endLoop (P := P) hl (by simp [idle]), hdone D _ (by omega) (hI.put _ hi hl (by omega) (.inl rfl)) ((World.putObj_heap_other (by omega)).trans hd)⟩
end Go.Proofs.YtdchaojgldfagaaDoor
