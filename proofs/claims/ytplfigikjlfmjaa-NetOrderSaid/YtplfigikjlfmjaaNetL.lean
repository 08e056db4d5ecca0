/- What NetOrder's messages are, one by one. -/
import Derived.Test.YtplfigikjlfmjaaNetI
namespace Go.Proofs.Ytplfigikjlfmjaa
open Go.RowKit Go.Lib
set_option linter.unusedVariables false

def Msgs (X : List Value) (K : Nat) : Prop := X.length = K * 3 ∧ ∀ i, i < K → ∃ (x y : Int) (s : ByteArray), X[i * 3]? = some (.int .i64 x) ∧ X[i * 3 + 1]? = some (.int .i64 y) ∧ X[i * 3 + 2]? = some (.string s)
theorem msgs_app {X : List Value} {K : Nat} (h : Msgs X K) (x y : Int) (s : ByteArray) : Msgs (X ++ msgC x y s) (K + 1) := by
  refine ⟨by rw [List.length_append, h.1]; simp [msgC]; omega, fun i hi => ?_⟩
  by_cases hk : i < K
  · obtain ⟨x, y, s, h0, h1, h2⟩ := h.2 i hk
    exact ⟨x, y, s, by rw [List.getElem?_append_left (by rw [h.1]; omega)]; exact h0, by rw [List.getElem?_append_left (by rw [h.1]; omega)]; exact h1, by rw [List.getElem?_append_left (by rw [h.1]; omega)]; exact h2⟩
  · obtain rfl : i = K := by omega
    refine ⟨x, y, s, ?_, ?_, ?_⟩
    · rw [List.getElem?_append_right (by rw [h.1]; omega), h.1, Nat.sub_self]; rfl
    · rw [List.getElem?_append_right (by rw [h.1]; omega), h.1, Nat.add_sub_cancel_left]; rfl
    · rw [List.getElem?_append_right (by rw [h.1]; omega), h.1, Nat.add_sub_cancel_left]; rfl
theorem msgs_wants (xs : List ByteArray) (ys : List Bool) : ∀ j, Msgs (wants xs ys j) (cnt ys j)
  | 0 => ⟨rfl, fun i hi => absurd hi (by simp [cnt])⟩
  | j + 1 => by
      have := msgs_wants xs ys j
      unfold wants cnt
      split
      · exact this
      · exact msgs_app this _ _ _
theorem msgs_one {X : List Value} {K : Nat} (h : Msgs X K) : ∀ u ∈ X, u.oneCell' = true := by
  intro u hu
  obtain ⟨t, ht, rfl⟩ := List.mem_iff_getElem.1 hu
  have hl := h.1
  obtain ⟨x, y, s, h0, h1, h2⟩ := h.2 (t / 3) (by omega)
  have hm : t = t / 3 * 3 ∨ t = t / 3 * 3 + 1 ∨ t = t / 3 * 3 + 2 := by omega
  rcases hm with e | e | e
  · have : X[t]? = some (.int .i64 x) := by rw [e]; exact h0
    rw [List.getElem?_eq_getElem ht] at this
    have e2 := Option.some.inj this
    show (X[t]).oneCell' = true
    rw [e2]
    rfl
  · have : X[t]? = some (.int .i64 y) := by rw [e]; exact h1
    rw [List.getElem?_eq_getElem ht] at this
    have e2 := Option.some.inj this
    show (X[t]).oneCell' = true
    rw [e2]
    rfl
  · have : X[t]? = some (.string s) := by rw [e]; exact h2
    rw [List.getElem?_eq_getElem ht] at this
    have e2 := Option.some.inj this
    show (X[t]).oneCell' = true
    rw [e2]
    rfl
/-- Take(0) of a network that has what is left of a list of messages. -/
theorem take_left {w1 wr : World} {g : Nat} {v : Value} {X : List Value} {K i : Nat} {n lost : Int} {cut : List Value} {x y : Int} {s : ByteArray} (hX : Msgs X K) (hi : i < K) (hN : IsNet w1 wr g v (K - i) (X.drop (i * 3)) n lost cut) (hn : 1 ≤ n)
    (h0 : X[i * 3]? = some (.int .i64 x)) (h1 : X[i * 3 + 1]? = some (.int .i64 y)) (h2 : X[i * 3 + 2]? = some (.string s)) :
    Calls Try.prog 14 #[.pointer (some ⟨g, 0, none⟩), .int .i64 0] wr fun e w' => e = .returned (.tuple #[.agg #[.int .i64 x, .int .i64 y, .string s], .bool true]) ∧
      ∃ v', IsNet w1 w' g v' (K - (i + 1)) (X.drop ((i + 1) * 3)) n lost cut ∧ Fr wr w' g v v' := by
  have h := take_anyF w1 g v (K - i) (X.drop (i * 3)) n lost cut 0 x y s wr hN hn (by omega) (by rw [List.getElem?_drop]; exact h0) (by rw [List.getElem?_drop]; exact h1) (by rw [List.getElem?_drop]; exact h2) (fun u hu => msgs_one hX u (List.mem_of_mem_drop hu))
  refine h.mono ?_
  rintro e w' ⟨he, v', hN', hF⟩
  refine ⟨he, v', ?_, hF⟩
  have e1 : (X.drop (i * 3)).take (0 * 3) ++ (X.drop (i * 3)).drop ((0 + 1) * 3) = X.drop ((i + 1) * 3) := by
    rw [List.drop_drop]
    simp
    congr 1
    omega
  rw [e1] at hN'
  rw [show K - (i + 1) = K - i - 1 by omega]
  exact hN'
end Go.Proofs.Ytplfigikjlfmjaa
