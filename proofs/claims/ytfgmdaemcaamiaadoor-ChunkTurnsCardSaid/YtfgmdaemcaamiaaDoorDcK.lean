/- Maps from texts to numbers, as data; the sorted keys are the rising texts. -/
import Derived.Test.YtfgmdaemcaamiaaDoorDcM
import Derived.Maps.Views
import Derived.Maps.Own
import Derived.Maps.OwnSet
import Derived.Maps.Keyed
import Derived.Sort.KeysCollected
namespace Go.Proofs.YtfgmdaemcaamiaaDoor
open Go.RowKit Go.Maps
set_option linter.unusedVariables false

/-- A map's datum: these texts with these numbers. -/
def MapS (D : DataW Unit) (m : Tx → Option Nat) : Prop := ∃ es, D = .map es ∧ (∀ p ∈ es, ∃ x v, p = (Lit.string x, DataW.lit (.int .u64 (v : Nat))) ∧ m x = some v) ∧ (∀ x v, m x = some v → (Lit.string x, DataW.lit (.int .u64 (v : Nat))) ∈ es)
theorem mem_ins {x y : Lit × DataW Unit} : ∀ {l : List (Lit × DataW Unit)}, y ∈ DataW.insert x l ↔ y = x ∨ y ∈ l
  | [] => by simp [DataW.insert]
  | a :: t => by
    rw [DataW.insert]
    split
    · simp
    · rw [List.mem_cons, mem_ins, List.mem_cons]
      constructor
      · rintro (h | h | h)
        · exact .inr (.inl h)
        · exact .inl h
        · exact .inr (.inr h)
      · rintro (h | h | h)
        · exact .inr (.inl h)
        · exact .inl h
        · exact .inr (.inr h)
theorem same_str (a b : Tx) : Lit.sameKey (.string a) (.string b) = (a == b) := rfl
theorem MapS.nil : MapS (.map []) (fun _ => none) := ⟨[], rfl, fun p hp => absurd hp (by simp), fun x v h => by cases h⟩
theorem MapS.put {D : DataW Unit} {m : Tx → Option Nat} (h : MapS D m) (x : Tx) (v : Nat) : MapS (D.put (.string x) (.lit (.int .u64 (v : Nat)))) (fun y => if y = x then some v else m y) := by
  obtain ⟨es, rfl, h1, h2⟩ := h
  refine ⟨_, rfl, ?_, ?_⟩
  · intro p hp
    rcases mem_ins.1 hp with rfl | hp
    · exact ⟨x, v, rfl, if_pos rfl⟩
    · obtain ⟨hp, hk⟩ := List.mem_filter.1 hp
      obtain ⟨y, u, rfl, hm⟩ := h1 p hp
      refine ⟨y, u, rfl, ?_⟩
      have hne : y ≠ x := by
        intro e
        subst e
        simp [same_str] at hk
      simp only [if_neg hne]; exact hm
  · intro y u hy
    by_cases e : y = x
    · subst e
      simp only [if_true] at hy
      cases hy
      exact mem_ins.2 (.inl rfl)
    · simp only [if_neg e] at hy
      exact mem_ins.2 (.inr (List.mem_filter.2 ⟨h2 y u hy, by simp [same_str, e]⟩))
theorem MapS.at_ {D : DataW Unit} {m : Tx → Option Nat} (h : MapS D m) {x : Tx} {v : Nat} (hx : m x = some v) (z : DataW Unit) : D.atKey (.string x) z = .lit (.int .u64 (v : Nat)) := by
  obtain ⟨es, rfl, h1, h2⟩ := h
  unfold DataW.atKey
  simp only
  cases hf : es.find? (fun p => p.1.sameKey (.string x)) with
  | none =>
    have := List.find?_eq_none.1 hf _ (h2 x v hx)
    simp [same_str] at this
  | some p =>
    obtain ⟨y, u, rfl, hm⟩ := h1 p (List.mem_of_find?_eq_some hf)
    have hk := List.find?_some hf
    simp only [same_str, beq_iff_eq] at hk
    subst hk
    rw [hx] at hm
    cases hm
    rfl
theorem MapS.keys {D : DataW Unit} {m : Tx → Option Nat} (h : MapS D m) (y : Tx) : y ∈ strKeys D ↔ ∃ v, m y = some v := by
  obtain ⟨es, rfl, h1, h2⟩ := h
  show y ∈ es.map (fun p => strOf p.1) ↔ _
  constructor
  · intro hy
    obtain ⟨p, hp, rfl⟩ := List.mem_map.1 hy
    obtain ⟨x, v, rfl, hm⟩ := h1 p hp
    exact ⟨v, hm⟩
  · rintro ⟨v, hv⟩
    exact List.mem_map.2 ⟨_, h2 y v hv, rfl⟩
theorem MapS.nodup {D : DataW Unit} {m : Tx → Option Nat} (h : MapS D m) (ht : Tidy D) : (strKeys D).Nodup := by
  obtain ⟨es, rfl, h1, h2⟩ := h
  obtain ⟨es2, e, hp⟩ := ht
  cases e
  show (es.map (fun p => strOf p.1)).Nodup
  refine List.pairwise_map.2 (hp.imp_of_mem ?_)
  intro a b ha hb hab e
  obtain ⟨x, v, rfl, _⟩ := h1 a ha
  obtain ⟨y, u, rfl, _⟩ := h1 b hb
  exact hab (by show Lit.string x = Lit.string y; rw [show x = y from e])
theorem MapS.ext {D : DataW Unit} {m m' : Tx → Option Nat} (h : MapS D m) (e : ∀ x, m x = m' x) : MapS D m' := by
  have : m = m' := funext e
  rwa [← this]
/-- The two orders of texts are one. -/
theorem lt_bl : ∀ a b : Tx, a < b ↔ ltT a b = true
  | [], [] => by simp [ltT, Op.bytesLess]
  | [], _ :: _ => by simp [ltT, Op.bytesLess]
  | _ :: _, [] => by simp [ltT, Op.bytesLess]
  | a :: x, b :: y => by
    rw [List.cons_lt_cons_iff, lt_bl x y]
    unfold ltT
    rw [Op.bytesLess]
    simp only [Bool.or_eq_true, decide_eq_true_eq, Bool.and_eq_true, beq_iff_eq]
theorem le_bl (a b : Tx) : decide (a ≤ b) = !ltT b a := by
  have h : a ≤ b ↔ ¬ b < a := Iff.rfl
  rw [lt_bl] at h
  cases hb : ltT b a with
  | true => exact decide_eq_false (fun h' => (h.1 h') hb)
  | false => exact decide_eq_true (h.2 (by rw [hb]; decide))
theorem sort_rise {ss l : List Tx} (hn : ss.Nodup) (hm : ∀ y, y ∈ ss ↔ y ∈ l) : ss.mergeSort (fun x y => decide (x ≤ y)) = riseL l := by
  have hp := List.mergeSort_perm ss (fun x y => decide (x ≤ y))
  refine rise_uniq ?_ (rise_rise l) fun y => by rw [hp.mem_iff, hm, rise_mem]
  have hs : (ss.mergeSort (fun x y => decide (x ≤ y))).Pairwise (fun x y => decide (x ≤ y) = true) := by
    refine List.pairwise_mergeSort (le := fun x y => decide (x ≤ y)) ?_ ?_ ss
    · intro a b c h1 h2
      rw [le_bl] at h1 h2 ⊢
      simp only [Bool.not_eq_true'] at h1 h2 ⊢
      cases hca : ltT c a with
      | false => rfl
      | true =>
        exfalso
        cases hab : ltT a b with
        | true => have := ltT_trans hca hab; rw [h2] at this; cases this
        | false =>
          have e := ltT_tri hab h1
          subst e
          rw [hca] at h2
          cases h2
    · intro a b
      rw [le_bl, le_bl]
      cases h : ltT b a with
      | false => rfl
      | true => rw [ltT_asym h]; rfl
  have hnd := hp.nodup_iff.2 hn
  unfold Rise
  have := hs.and hnd
  refine this.imp ?_
  rintro a b ⟨h1, h2⟩
  rw [le_bl] at h1
  simp only [Bool.not_eq_true'] at h1
  cases h : ltT a b with
  | true => rfl
  | false => exact absurd (ltT_tri h h1) h2
end Go.Proofs.YtfgmdaemcaamiaaDoor
