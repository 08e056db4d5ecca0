/- A second row of messages beside a network's: what keeps it; Cut and Send on the line of a turn. -/
import Derived.Test.YtplfigikjlfmjaaNetH
namespace Go.Proofs.Ytplfigikjlfmjaa
open Go.RowKit Go.Lib
set_option linter.unusedVariables false

/-- Two rows lie in different blocks. -/
def Apart (v u : Value) : Prop := ∀ b, v.ownBlock = some b → u.ownBlock ≠ some b
theorem apart_right {w : World} {B : Nat} {v u u' : Value} {k : Nat} {xs : List Value} (h : Apart v u) (hv : w.ownsRow B 41 3 v k xs) (hf : Fresh w u u') : Apart v u' := by
  intro b hb e
  rcases hf with h' | ⟨g, h', hg⟩
  · exact h b hb (by rw [← h']; exact e)
  · have := (own_lt hv hb).2
    rw [h'] at e
    cases e
    omega
theorem apart_left {w : World} {B : Nat} {v v' u : Value} {k : Nat} {xs : List Value} (h : Apart v u) (hu : w.ownsRow B 41 3 u k xs) (hf : Fresh w v v') : Apart v' u := by
  intro b hb e
  rcases hf with h' | ⟨g, h', hg⟩
  · exact h b (by rw [← h']; exact hb) e
  · have := (own_lt hu e).2
    rw [h'] at hb
    cases hb
    omega
theorem own_move {w w' : World} {B : Nat} {u : Value} {k : Nat} {xs : List Value} (hu : w.ownsRow B 41 3 u k xs) (hb : ∀ b, u.ownBlock = some b → w'.heap[b]? = w.heap[b]?) : w'.ownsRow B 41 3 u k xs := by
  refine ⟨hu.1, ?_⟩
  rcases hu.2 with hn | ⟨g, cap, cur, rfl, hg0, hg, rest⟩
  · exact .inl hn
  · exact .inr ⟨g, cap, cur, rfl, hg0, (hb g rfl).trans hg, rest⟩
theorem own_fr {w w' : World} {B g : Nat} {v v' u : Value} {k : Nat} {xs : List Value} (hu : w.ownsRow B 41 3 u k xs) (hf : Fr w w' g v v') (hg : u.ownBlock ≠ some g) (ha : Apart v u) : w'.ownsRow B 41 3 u k xs :=
  own_move hu fun b hb => hf.block b (own_lt hu hb).2 (fun e => hg (by rw [hb, e])) (fun e => ha b e.symm hb)
theorem own_grown {w w' : World} {B : Nat} {v u : Value} {k : Nat} {xs : List Value} (hu : w.ownsRow B 41 3 u k xs) (hf : w.grownBy w' v.ownBlock) (ha : Apart u v) : w'.ownsRow B 41 3 u k xs :=
  own_move hu fun b hb => hf.block b (own_lt hu hb).2 (fun e => ha b hb e.symm)
theorem apart_symm {v u : Value} (h : Apart v u) : Apart u v := fun b hb e => h b e hb
theorem blk_fr {w w' : World} {g h : Nat} {v v' : Value} {t : TypeId} {cs : List Value} (hb : Blk w h t cs) (hf : Fr w w' g v v') (hg : h ≠ g) (hv : v.ownBlock ≠ some h) : Blk w' h t cs := (hf.block h (lt_of_block hb) hg (fun e => hv e.symm)).trans hb
/-- A network beside which another row grows. -/
theorem isnet_beside {w0 w w' : World} {g : Nat} {v u : Value} {k : Nat} {xs : List Value} {n lost : Int} {cut : List Value} (h : IsNet w0 w g v k xs n lost cut) {j : Nat} {ys : List Value} (hu : w.ownsRow w0.heap.size 41 3 u j ys) (hf : w.grownBy w' u.ownBlock) (ha : Apart v u) : IsNet w0 w' g v k xs n lost cut :=
  ⟨(hf.block g (lt_of_block h.blk) (fun e => own_ne h.blk hu e.symm)).trans h.blk, h.len, own_grown h.own hf ha, h.bel.grown hf h.bel.size (fun b hb => (own_lt hu hb).1), h.here⟩

/-- One message onto a row of the call's own. -/
theorem app_msg {ops : Array Oper} {rest : List Oper} {o : Oper} {a : Act} {Q : Exit → Act → World → Prop} {w : World} (B : Nat) (hgd : o.guard = none) (s x : Operand)
    (ho : o.op = .call { callee := .builtin .append, args := #[s, x], argTypes := #[35, 35] }) (v : Value) (k : Nat) (xs : List Value) (hs : a.eval s = v) (hown : w.ownsRow B 41 3 v k xs) (hB : B ≤ w.heap.size)
    (ad : Addr) (c : Nat) (m1 m2 : Int) (m3 : ByteArray) (hx : a.eval x = .slice (some ad) 1 c) (h0 : w.cell? (ad.add 0) = some (.int .i64 m1)) (h1 : w.cell? (ad.add 1) = some (.int .i64 m2)) (h2 : w.cell? (ad.add 2) = some (.string m3)) (hk : k ≤ 100000)
    (h : ∀ v' w', w'.ownsRow B 41 3 v' (k + 1) (xs ++ msgC m1 m2 m3) → w.grownBy w' v.ownBlock → Fresh w v v' → wpList Try.prog ops Q rest (a.put o.dst v') w') : wpList Try.prog ops Q (o :: rest) a w := by
  refine wpList_plain hgd fun K hK => ?_
  obtain ⟨v', w', hr, g1, g2, g3⟩ := run_fresh hown hB ad c m1 m2 m3 h0 h1 h2 hk o.type
  unfold Oper.wp execOp
  simp only [ho, resolve, invoke, builtin, Sem.run_bind, Sem.run_pure, Result.andThen_ok, List.map_toArray, List.map_cons, List.map_nil, hs, hx, hr]
  exact hK _ _ (h v' w' g1 g2 g3)

/-- The line of a turn, as its place among the lines. -/
def lineI (j : Nat) : Nat := if j % 3 = 0 then 1 else if j % 3 = 1 then 9 else 14
theorem line_lt (j : Nat) : lineI j < 49 := by
  unfold lineI
  split
  · omega
  · split <;> omega
theorem line_cases (j : Nat) : (lineI j = 1 ∧ 1 + (j : Int) % 3 = 1 ∧ 1 + ((j : Int) + 1) % 3 = 2) ∨ (lineI j = 9 ∧ 1 + (j : Int) % 3 = 2 ∧ 1 + ((j : Int) + 1) % 3 = 3) ∨ (lineI j = 14 ∧ 1 + (j : Int) % 3 = 3 ∧ 1 + ((j : Int) + 1) % 3 = 1) := by
  unfold lineI
  have : j % 3 = 0 ∨ j % 3 = 1 ∨ j % 3 = 2 := by omega
  rcases this with h | h | h
  · exact .inl ⟨by rw [if_pos h], by omega, by omega⟩
  · exact .inr (.inl ⟨by rw [if_neg (by omega), if_pos h], by omega, by omega⟩)
  · exact .inr (.inr ⟨by rw [if_neg (by omega), if_neg (by omega)], by omega, by omega⟩)
theorem cutL (j : Nat) (w0 : World) (g : Nat) (v : Value) (k : Nat) (xs : List Value) (n lost : Int) (cut : List Value) (c : Bool) (w : World) (h : IsNet w0 w g v k xs n lost cut) (hn : 3 ≤ n) :
    Calls Try.prog 12 #[.pointer (some ⟨g, 0, none⟩), .int .i64 (1 + (j : Int) % 3), .int .i64 (1 + ((j : Int) + 1) % 3), .bool c] w fun e w' => e = .returned (.int .i64 0) ∧ IsNet w0 w' g v k xs n lost (cut.set (lineI j) (.bool c)) ∧ Fr w w' g v v := by
  rcases line_cases j with ⟨e0, e1, e2⟩ | ⟨e0, e1, e2⟩ | ⟨e0, e1, e2⟩
  · rw [e0, e1, e2]; exact cut_12 w0 g v k xs n lost cut c w h hn
  · rw [e0, e1, e2]; exact cut_23 w0 g v k xs n lost cut c w h hn
  · rw [e0, e1, e2]; exact cut_31 w0 g v k xs n lost cut c w h hn
theorem sendoL (j : Nat) (w0 : World) (g : Nat) (v : Value) (k : Nat) (xs : List Value) (n lost : Int) (cut : List Value) (s : ByteArray) (w : World) (h : IsNet w0 w g v k xs n lost cut) (hn : 3 ≤ n) (hcut : cut[lineI j]? = some (.bool false)) (hk : k < 2000) (hs : s.size ≤ 1000) :
    Calls Try.prog 13 #[.pointer (some ⟨g, 0, none⟩), .agg #[.int .i64 (1 + (j : Int) % 3), .int .i64 (1 + ((j : Int) + 1) % 3), .string s]] w fun e w' => e = .returned (.int .i64 0) ∧ ∃ v', IsNet w0 w' g v' (k + 1) (xs ++ msgC (1 + (j : Int) % 3) (1 + ((j : Int) + 1) % 3) s) n lost cut ∧ Fr w w' g v v' := by
  rcases line_cases j with ⟨e0, e1, e2⟩ | ⟨e0, e1, e2⟩ | ⟨e0, e1, e2⟩
  · rw [e0] at hcut; rw [e1, e2]; exact sendo_12 w0 g v k xs n lost cut s w h hn hcut hk (by omega)
  · rw [e0] at hcut; rw [e1, e2]; exact sendo_23 w0 g v k xs n lost cut s w h hn hcut hk (by omega)
  · rw [e0] at hcut; rw [e1, e2]; exact sendo_31 w0 g v k xs n lost cut s w h hn hcut hk (by omega)
theorem sendcL (j : Nat) (w0 : World) (g : Nat) (v : Value) (k : Nat) (xs : List Value) (n lost : Int) (cut : List Value) (s : ByteArray) (w : World) (h : IsNet w0 w g v k xs n lost cut) (hn : 3 ≤ n) (hcut : cut[lineI j]? = some (.bool true)) (hs : s.size ≤ 1000) (hl0 : 0 ≤ lost) (hl1 : lost ≤ 1000000) :
    Calls Try.prog 13 #[.pointer (some ⟨g, 0, none⟩), .agg #[.int .i64 (1 + (j : Int) % 3), .int .i64 (1 + ((j : Int) + 1) % 3), .string s]] w fun e w' => e = .returned (.int .i64 0) ∧ IsNet w0 w' g v k xs n (lost + 1) cut ∧ Fr w w' g v v := by
  rcases line_cases j with ⟨e0, e1, e2⟩ | ⟨e0, e1, e2⟩ | ⟨e0, e1, e2⟩
  · rw [e0] at hcut; rw [e1, e2]; exact sendc_12 w0 g v k xs n lost cut s w h hn hcut (by omega) hl0 hl1
  · rw [e0] at hcut; rw [e1, e2]; exact sendc_23 w0 g v k xs n lost cut s w h hn hcut (by omega) hl0 hl1
  · rw [e0] at hcut; rw [e1, e2]; exact sendc_31 w0 g v k xs n lost cut s w h hn hcut (by omega) hl0 hl1
end Go.Proofs.Ytplfigikjlfmjaa
