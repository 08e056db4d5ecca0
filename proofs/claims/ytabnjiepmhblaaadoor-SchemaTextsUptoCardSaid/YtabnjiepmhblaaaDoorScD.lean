/- Which schemas may be: the walk of schema.Right. -/
import Derived.Test.YtabnjiepmhblaaaDoorScC
import Derived.Laws.ResultCell
import Derived.StringKeys
namespace Go.Proofs.YtabnjiepmhblaaaDoor
open Go.RowKit Go.Shelf Go.Maps
set_option linter.unusedVariables false
attribute [local go_sem] Oper.semAt_some

theorem results_cell1 {fn : Func} {p : Tmp} {t : TypeId} (h : fn.results = #[.cell p t]) (tmps : Array Value) (P : Program) (w : World) :
    (results fn tmps).run P w = ((asAddr (tmps.getD p undef)).run P w).andThen fun a w₁ => (loadVar t a).run P w₁ := by
  simp only [results, h]
  simp [Sem.run_bind, Result.andThen]

def keyN (c : Col) : Lit := .string c.name.data.toList
theorem keyN_key (l : List Col) : ∀ x ∈ l.map keyN, WideAt.IsKeyLit x := by
  intro x hx
  obtain ⟨c, _, rfl⟩ := List.mem_map.1 hx
  trivial
theorem same_str (a b : List UInt8) : (Lit.string a).sameKey (Lit.string b) = decide (a = b) := by
  by_cases h : a = b
  · subst h; simp [Lit.sameKey]
  · rw [Maps.sameKey_ne (fun e => h (by injection e))]
    simp [h]
theorem any_key (c : Col) (l : List Col) : ((l.map keyN).any fun y => y.sameKey (keyN c)) = decide (c.name.data.toList ∈ namesL l) := by
  rw [Bool.eq_iff_iff, List.any_eq_true, decide_eq_true_iff]
  unfold namesL
  simp only [List.mem_map]
  constructor
  · rintro ⟨x, ⟨d, hd, rfl⟩, h⟩
    rw [keyN, keyN, same_str, decide_eq_true_iff] at h
    exact ⟨d, hd, h⟩
  · rintro ⟨d, hd, h⟩
    exact ⟨keyN d, ⟨d, hd, rfl⟩, by rw [keyN, keyN, same_str, decide_eq_true_iff]; exact h⟩
/-- How many different names. -/
def manyN : List Col → List Col → Nat
  | acc, [] => acc.length
  | acc, c :: t => if c.name.data.toList ∈ namesL acc then manyN acc t else manyN (acc ++ [c]) t
theorem addKey_many : ∀ (l acc : List Col), ((l.map keyN).foldl addKey (acc.map keyN)).length = manyN acc l
  | [], acc => by simp [manyN]
  | c :: t, acc => by
    rw [List.map_cons, List.foldl_cons, manyN]
    have e : addKey (acc.map keyN) (keyN c) = (if c.name.data.toList ∈ namesL acc then acc else acc ++ [c]).map keyN := by
      unfold addKey
      rw [any_key]
      by_cases h : c.name.data.toList ∈ namesL acc
      · simp [h]
      · simp [h]
    rw [e]
    by_cases h : c.name.data.toList ∈ namesL acc
    · rw [if_pos h, if_pos h]; exact addKey_many t acc
    · rw [if_neg h, if_neg h]; exact addKey_many t (acc ++ [c])
theorem manyN_le : ∀ (l acc : List Col), manyN acc l ≤ acc.length + l.length
  | [], acc => by simp [manyN]
  | c :: t, acc => by
    rw [manyN]
    by_cases h : c.name.data.toList ∈ namesL acc
    · rw [if_pos h]; have := manyN_le t acc; simp; omega
    · rw [if_neg h]; have := manyN_le t (acc ++ [c]); simp at this ⊢; omega
theorem manyN_full : ∀ (l acc : List Col), (namesL acc).Nodup → (manyN acc l = acc.length + l.length ↔ (namesL (acc ++ l)).Nodup)
  | [], acc, h => by simp [manyN, h]
  | c :: t, acc, hn => by
    rw [manyN]
    by_cases h : c.name.data.toList ∈ namesL acc
    · rw [if_pos h]
      have h1 := manyN_le t acc
      constructor
      · intro e; simp at e; omega
      · intro hd
        exfalso
        unfold namesL at hd h
        rw [List.map_append, List.map_cons, List.nodup_append] at hd
        exact hd.2.2 _ h _ (by simp) rfl
    · rw [if_neg h]
      have hn2 : (namesL (acc ++ [c])).Nodup := by
        unfold namesL at *
        rw [List.map_append, List.nodup_append]
        refine ⟨hn, by simp, ?_⟩
        intro x hx y hy
        simp only [List.map_cons, List.map_nil, List.mem_singleton] at hy
        subst hy
        intro e; subst e; exact h hx
      have ih := manyN_full t (acc ++ [c]) hn2
      rw [List.append_assoc, List.singleton_append] at ih
      rw [← ih]
      simp
      constructor <;> intro h <;> omega
theorem size_names {H : Type} (l : List Col) : Maps.size (setOf (.agg [] : DataW H) (l.map keyN)) = l.length ↔ (namesL l).Nodup := by
  rw [size_setOf _ _ (keyN_key l)]
  have h1 := addKey_many l []
  rw [List.map_nil] at h1
  rw [h1]
  have := manyN_full l [] (by simp [namesL])
  simpa using this

theorem rightC_len {l : List Col} (h : ¬ (1 ≤ l.length ∧ l.length ≤ 16)) : rightC l = false := by unfold rightC; rw [decide_eq_false h]; rfl
theorem rightC_col {l : List Col} {c : Col} (hc : c ∈ l) (h : colOk c = false) : rightC l = false := by
  unfold rightC
  have : l.all colOk = false := by
    rw [← Bool.not_eq_true, List.all_eq_true]
    intro hall
    rw [hall c hc] at h
    cases h
  rw [this]
  simp
theorem rightC_all {l : List Col} (h : 1 ≤ l.length ∧ l.length ≤ 16) (hc : ∀ c ∈ l, colOk c = true) : rightC l = decide (namesL l).Nodup := by
  unfold rightC
  rw [decide_eq_true h, List.all_eq_true.2 hc]
  rfl

set_option maxRecDepth 100000 in
set_option maxHeartbeats 2000000 in
theorem right_len (A : Option Addr) (cap : Nat) (l : List Col) (W : World) (hn : l.length ≤ 4000000000000000000) (hbad : ¬ (1 ≤ l.length ∧ l.length ≤ 16)) :
    Calls Tryd.prog 12 #[.slice A l.length cap] W fun e W' => e = .returned (.bool (rightC l)) ∧ Below W.heap.size W W' := by
  rw [rightC_len hbad]
  by_cases h0 : l.length = 0
  · rw [h0]
    go_enter Tryd.func12, Tryd.ntmps12
    go_wp2
    refine bodyPost_ret (v := .bool false) ?_ rfl ?_
    · rw [results_cell1 rfl]
      go_simp
    · exact ⟨rfl, (Below.refl _ _).alloc (Nat.le_refl _) _⟩
  · have i0 : ((l.length : Int) == 0) = false := by rw [beq_eq_false_iff_ne]; omega
    have i1 : (16 : Int) < (l.length : Int) := by omega
    clear hbad h0
    go_enter Tryd.func12, Tryd.ntmps12
    go_wp2
    refine bodyPost_ret (v := .bool false) ?_ rfl ?_
    · rw [results_cell1 rfl]
      go_simp
    · exact ⟨rfl, (Below.refl _ _).alloc (Nat.le_refl _) _⟩
end Go.Proofs.YtabnjiepmhblaaaDoor
