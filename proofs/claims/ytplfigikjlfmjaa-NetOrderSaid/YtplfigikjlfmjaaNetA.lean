/- The walks of the network's small functions: New (34), isNil (45), isLink (46), isFull (47), has (50), Many (36). -/
import Derived.Test.YtplfigikjlfmjaaLaws
import Derived.Deep.QuietTactic
import Derived.BigQuiet
import Derived.Lib.Hide
import Derived.Deep.RegionLaw
namespace Go.Proofs.Ytplfigikjlfmjaa
open Go.RowKit
set_option linter.unusedVariables false

/-- The cells of a network: its messages, how many members, its lines that are cut, how many messages are lost. -/
def NetC (v : Value) (n : Int) (cut : List Value) (lost : Int) : List Value := v :: .int .i64 n :: (cut ++ [.int .i64 lost])
theorem NetC.c0 (v : Value) (n : Int) (cut : List Value) (lost : Int) : (NetC v n cut lost)[0]? = some v := rfl
theorem NetC.c1 (v : Value) (n : Int) (cut : List Value) (lost : Int) : (NetC v n cut lost)[1]? = some (.int .i64 n) := rfl
theorem NetC.lost (v : Value) (n : Int) (cut : List Value) (lost : Int) (h : cut.length = 49) : (NetC v n cut lost)[51]? = some (.int .i64 lost) := by
  unfold NetC
  simp [h]
theorem NetC.cut (v : Value) (n : Int) (cut : List Value) (lost : Int) (i : Nat) (h : i < cut.length) : (NetC v n cut lost)[2 + i]? = cut[i]? := by
  unfold NetC
  rw [show 2 + i = i + 1 + 1 by omega, List.getElem?_cons_succ, List.getElem?_cons_succ, List.getElem?_append_left h]

set_option maxHeartbeats 1000000 in
theorem new_any (n : Int) (w : World) (h1 : 1 ≤ n) (h7 : n ≤ 7) :
    Calls Try.prog 6 #[.int .i64 n] w fun e w' => e = .returned (.tuple #[.pointer (some ⟨w.heap.size, 0, none⟩), .int .i64 0]) ∧ Below w.heap.size w w' ∧ Blk w' w.heap.size 55 (NetC (.slice none 0 0) n (List.replicate 49 (.bool false)) 0) := by
  have t1 : decide (n < 1) = false := by simp; omega
  have t7 : decide (7 < n) = false := by simp; omega
  go_enter Try.func6, Try.ntmps6
  go_wp2
  go_ret2
  exact ⟨rfl, (Below.refl _ _).alloc (Nat.le_refl _) _, Blk.born w 55 (NetC (.slice none 0 0) n (List.replicate 49 (.bool false)) 0)⟩

set_option maxHeartbeats 1000000 in
theorem isnil_none (w : World) : Calls Try.prog 24 #[.pointer none] w fun e w' => e = .returned (.bool true) ∧ w = w' := by
  go_enter Try.func24, Try.ntmps24
  go_wp2
  go_ret
  exact ⟨rfl, rfl⟩
set_option maxHeartbeats 1000000 in
theorem isnil_some (g : Nat) (n : Int) (w : World) (hc : w.cell? ⟨g, 1, none⟩ = some (.int .i64 n)) (h1 : 1 ≤ n) : Calls Try.prog 24 #[.pointer (some ⟨g, 0, none⟩)] w fun e w' => e = .returned (.bool false) ∧ w = w' := by
  have t : (n == 0) = false := by simp; omega
  go_enter Try.func24, Try.ntmps24
  go_wp2
  go_ret
  exact ⟨rfl, rfl⟩

set_option maxHeartbeats 1000000 in
theorem islink_yes (g : Nat) (n a b : Int) (w : World) (hc : w.cell? ⟨g, 1, none⟩ = some (.int .i64 n)) (h1 : 1 ≤ a) (h2 : a ≤ n) (h3 : 1 ≤ b) (h4 : b ≤ n) (h5 : a ≠ b) :
    Calls Try.prog 26 #[.pointer (some ⟨g, 0, none⟩), .int .i64 a, .int .i64 b] w fun e w' => e = .returned (.bool true) ∧ w = w' := by
  have t : (a != b) = true := by simp [bne]; exact h5
  have t' : (a == b) = false := by simp; exact h5
  clear h5
  go_enter Try.func26, Try.ntmps26
  go_wp2
  go_ret
  exact ⟨rfl, rfl⟩
set_option maxHeartbeats 1000000 in
theorem isfull_any (g k c : Nat) (A : Option Addr) (w : World) (hc : w.cell? ⟨g, 0, none⟩ = some (.slice A k c)) :
    Calls Try.prog 27 #[.pointer (some ⟨g, 0, none⟩)] w fun e w' => e = .returned (.bool (decide (2000 ≤ k))) ∧ w = w' := by
  by_cases h : 2000 ≤ k
  · have t : ((2000 : Int) ≤ (k : Int)) := by omega
    go_enter Try.func27, Try.ntmps27
    go_wp2
    go_ret
    exact ⟨by simp [h], rfl⟩
  · have t : ¬ ((2000 : Int) ≤ (k : Int)) := by omega
    go_enter Try.func27, Try.ntmps27
    go_wp2
    go_ret
    exact ⟨by simp, rfl⟩
set_option maxHeartbeats 1000000 in
theorem has_yes (g k c : Nat) (i : Nat) (A : Option Addr) (w : World) (hc : w.cell? ⟨g, 0, none⟩ = some (.slice A k c)) (hi : i < k) :
    Calls Try.prog 25 #[.pointer (some ⟨g, 0, none⟩), .int .i64 i] w fun e w' => e = .returned (.bool true) ∧ w = w' := by
  have t : ((i : Int) < (k : Int)) := by omega
  have t0 : ((0 : Int) ≤ (i : Int)) := by omega
  go_enter Try.func25, Try.ntmps25
  go_wp2
  go_ret
  exact ⟨rfl, rfl⟩
set_option maxHeartbeats 1000000 in
theorem many_any (g k c : Nat) (n : Int) (A : Option Addr) (w : World) (hc : w.cell? ⟨g, 0, none⟩ = some (.slice A k c)) (hn : w.cell? ⟨g, 1, none⟩ = some (.int .i64 n)) (h1 : 1 ≤ n) :
    Calls Try.prog 9 #[.pointer (some ⟨g, 0, none⟩)] w fun e w' => e = .returned (.int .i64 k) ∧ w = w' := by
  have hnil := isnil_some g n w hn h1
  clear h1
  go_enter Try.func9, Try.ntmps9
  go_wp2_with (go_at_call 24; refine hnil.mono ?_; rintro e w2 ⟨rfl, rfl⟩)
  go_ret
  exact ⟨rfl, rfl⟩

set_option maxHeartbeats 1000000 in
theorem look_yes (g k c i : Nat) (n : Int) (b o : Nat) (x y : Int) (s : ByteArray) (w : World) (hc : w.cell? ⟨g, 0, none⟩ = some (.slice (some ⟨b, o, none⟩) k c)) (hn : w.cell? ⟨g, 1, none⟩ = some (.int .i64 n)) (h1 : 1 ≤ n) (hi : i < k) (hk : k ≤ c)
    (c0 : w.cell? ⟨b, o + i * 3, none⟩ = some (.int .i64 x)) (c1 : w.cell? ⟨b, o + i * 3 + 1, none⟩ = some (.int .i64 y)) (c2 : w.cell? ⟨b, o + i * 3 + 2, none⟩ = some (.string s)) :
    Calls Try.prog 11 #[.pointer (some ⟨g, 0, none⟩), .int .i64 i] w fun e w' => e = .returned (.tuple #[.agg #[.int .i64 x, .int .i64 y, .string s], .bool true]) ∧ Below w.heap.size w w' := by
  go_enter Try.func11, Try.ntmps11
  have hbw : Below w.heap.size w (w.alloc (Obj.cells #[Value.int IntKind.i64 0, Value.int IntKind.i64 0, Value.string { data := #[] }] 41)) := (Below.refl _ _).alloc (Nat.le_refl _) _
  have hnil := isnil_some g n _ (cell_later hbw hn) h1
  have hhas := has_yes g k c i _ _ (cell_later hbw hc) hi
  have hc' := cell_later hbw hc
  have c0' := cell_later hbw c0
  have c1' := cell_later hbw c1
  have c2' := cell_later hbw c2
  clear hc c0 c1 c2
  go_wp2_with (first | (go_at_call 24; refine hnil.mono ?_; rintro e w2 ⟨rfl, rfl⟩) | (go_at_call 25; refine hhas.mono ?_; rintro e w2 ⟨rfl, rfl⟩))
  exact bodyPost_ret (v := .tuple #[.agg #[.int .i64 x, .int .i64 y, .string s], .bool true]) (by simp [results, Try.results11, go_sem]) rfl ⟨rfl, (Below.refl _ _).alloc (Nat.le_refl _) _⟩

/-- The message's cells, as a list. -/
def msgC (x y : Int) (s : ByteArray) : List Value := [.int .i64 x, .int .i64 y, .string s]
theorem Try.info41 : (Try.prog.info? 41).map (fun i => (i.zero, i.size, i.bytes)) = some (some (.agg #[.int .i64 0, .int .i64 0, .string ⟨#[]⟩]), 3, 32) := by kernel_rfl

theorem own_below {w w' : World} {B : Nat} {e : TypeId} {z : Nat} {v : Value} {k : Nat} {xs : List Value} (h : w.ownsRow B e z v k xs) (hb : Below w.heap.size w w') : w'.ownsRow B e z v k xs := by
  refine ⟨h.1, ?_⟩
  rcases h.2 with hn | ⟨g, cap, cur, rfl, hg0, hg, rest⟩
  · exact .inl hn
  · exact .inr ⟨g, cap, cur, rfl, hg0, (hb.block g (lt_of_block hg)).trans hg, rest⟩
theorem own_base {w : World} {B B' : Nat} {e : TypeId} {z : Nat} {v : Value} {k : Nat} {xs : List Value} (h : w.ownsRow B e z v k xs) (hB : B' ≤ B) : w.ownsRow B' e z v k xs := by
  refine ⟨h.1, ?_⟩
  rcases h.2 with hn | ⟨g, cap, cur, rfl, hg0, rest⟩
  · exact .inl hn
  · exact .inr ⟨g, cap, cur, rfl, by omega, rest⟩
theorem grown_frozen {w w2 w1 : World} {row : Option Nat} {a : Addr} (hb : Below w.heap.size w w2) (hg : w2.grownBy w1 row) (hlt : a.block < w.heap.size) (hne : row ≠ some a.block) (hf : w.frozen? a = false) : w1.frozen? a = false :=
  (World.frozen?_of_block (hg.block a.block (Nat.lt_of_lt_of_le hlt hb.size) (fun e => hne e.symm))).trans ((hb.frozen hlt).trans hf)
theorem grown_cell {w w2 w1 : World} {row : Option Nat} {a : Addr} {v : Value} (hb : Below w.heap.size w w2) (hg : w2.grownBy w1 row) (hne : row ≠ some a.block) (hc : w.cell? a = some v) : w1.cell? a = some v :=
  have hlt := World.block_lt_of_cell? w a hc
  (World.cell?_of_block (hg.block a.block (Nat.lt_of_lt_of_le hlt hb.size) (fun e => hne e.symm))).trans ((hb.cell hlt).trans hc)
theorem grown_below {w w2 w1 : World} {row : Option Nat} (hb : Below w.heap.size w w2) (hg : w2.grownBy w1 row) : w.grownBy w1 row :=
  ⟨hg.os.trans hb.os, hg.tape.trans hb.tape, hg.output.trans hb.output, Nat.le_trans hb.size hg.size, fun k hk hne => (hg.block k (Nat.lt_of_lt_of_le hk hb.size) hne).trans (hb.block k hk)⟩
theorem own_form {w : World} {B : Nat} {e : TypeId} {z : Nat} {v : Value} {k : Nat} {xs : List Value} (h : w.ownsRow B e z v k xs) : ∃ A c, v = .slice A k c := by
  rcases h.2 with ⟨rfl, rfl⟩ | ⟨g, cap, cur, rfl, _⟩
  · exact ⟨none, 0, rfl⟩
  · exact ⟨_, _, rfl⟩
/-- Append of one message onto messages of the call's own, as one step of a region that draws its order. -/
theorem step_own {ops : Array Oper} {o : Oper} {a : Act} {w : World} {K : Act → World → Prop} {Q : Exit → Act → World → Prop} {E : Prop} (w0 : World) (hg : o.guard = none) (s x : Operand)
    (ho : o.op = .call { callee := .builtin .append, args := #[s, x], argTypes := #[35, 35] }) (B : Nat) (v : Value) (k : Nat) (xs : List Value) (hs : a.eval s = v) (hown : w0.ownsRow B 41 3 v k xs) (hbel : Below w0.heap.size w0 w) (hB : B ≤ w0.heap.size)
    (ad : Addr) (c : Nat) (m1 m2 : Int) (m3 : ByteArray) (hx : a.eval x = .slice (some ad) 1 c) (h0 : w.cell? (ad.add 0) = some (.int .i64 m1)) (h1 : w.cell? (ad.add 1) = some (.int .i64 m2)) (h2 : w.cell? (ad.add 2) = some (.string m3)) (hk : k ≤ 100000)
    (h : ∀ v' w', w'.ownsRow B 41 3 v' (k + 1) (xs ++ msgC m1 m2 m3) → w.grownBy w' v.ownBlock → K (a.put o.dst v') w') :
    if Region.wanted o (yielded ops a.tmps) = true then Oper.wp Try.prog o a w K Q else E := by
  have hw : Region.wanted o (yielded ops a.tmps) = true := by simp [Region.wanted, hg]
  rw [if_pos hw]
  obtain ⟨i0, hti, hz0, hz1, hz2⟩ := info_parts Try.info41
  refine wp_append_own w s x 35 ho B 41 i0 _ 3 32 Try.underlying35 hti hz0 hz1 hz2 rfl (by decide) v k xs hs (own_below hown hbel) ad 1 c (msgC m1 m2 m3) hx rfl ?_ ?_ (by unfold maxLen; omega) (by omega) (Nat.le_trans hB hbel.size) ?_
  · intro j u hj
    match j, hj with
    | 0, hj => simp [msgC] at hj; subst hj; exact h0
    | 1, hj => simp [msgC] at hj; subst hj; exact h1
    | 2, hj => simp [msgC] at hj; subst hj; exact h2
  · intro u hu
    simp [msgC] at hu
    rcases hu with rfl | rfl | rfl <;> rfl
  · intro v' w' g1 g2 _
    exact h v' w' g1 g2

set_option maxHeartbeats 4000000 in
theorem add_any (g B : Nat) (v : Value) (k : Nat) (xs : List Value) (x y : Int) (s : ByteArray) (w : World) (hc : w.cell? ⟨g, 0, none⟩ = some v) (hf : w.frozen? ⟨g, 0, none⟩ = false) (hown : w.ownsRow B 41 3 v k xs) (hBs : B ≤ w.heap.size) (hk : k ≤ 3000) (hgv : v.ownBlock ≠ some g) :
    Calls Try.prog 28 #[.pointer (some ⟨g, 0, none⟩), .agg #[.int .i64 x, .int .i64 y, .string s]] w fun e w' => e = .returned (.tuple #[]) ∧
      ∃ v' w1, w1.ownsRow B 41 3 v' (k + 1) (xs ++ msgC x y s) ∧ w.grownBy w1 v.ownBlock ∧ w' = w1.setCell ⟨g, 0, none⟩ v' := by
  have hgw := World.block_lt_of_cell? w _ hc
  go_enter Try.func28, Try.ntmps28
  go_wp2_with fail
  have hb1 : Below w.heap.size w (w.alloc (Obj.cells #[Value.int IntKind.i64 x, Value.int IntKind.i64 y, Value.string s] 41)) := (Below.refl _ _).alloc (Nat.le_refl _) _
  have hc' := cell_later hb1 hc
  have n0 : (w.alloc (Obj.cells #[Value.int IntKind.i64 x, Value.int IntKind.i64 y, Value.string s] 41)).cell? ⟨w.heap.size, 0, none⟩ = some (.int .i64 x) := (Blk.born w 41 (msgC x y s)).at_ 0
  have n1 : (w.alloc (Obj.cells #[Value.int IntKind.i64 x, Value.int IntKind.i64 y, Value.string s] 41)).cell? ⟨w.heap.size, 1, none⟩ = some (.int .i64 y) := (Blk.born w 41 (msgC x y s)).at_ 1
  have n2 : (w.alloc (Obj.cells #[Value.int IntKind.i64 x, Value.int IntKind.i64 y, Value.string s] 41)).cell? ⟨w.heap.size, 2, none⟩ = some (.string s) := (Blk.born w 41 (msgC x y s)).at_ 2
  go_region_law (refine step_own w rfl (.tmp 8) (.tmp 10) rfl B v k xs (by simp [Act.eval]) hown (by repeat (first | exact Below.refl _ _ | apply Below.drew | refine Below.alloc ?_ (by simp) _)) hBs ⟨w.heap.size + 1, 0, none⟩ 1 x y s (by simp [Act.eval]) (by go_simp) (by go_simp) (by go_simp) (by omega) ?_; intro v' w1 hown1 hgrow1; have hb2 : Below w.heap.size w ((w.alloc (Obj.cells #[Value.int IntKind.i64 x, Value.int IntKind.i64 y, Value.string s] 41)).alloc (Obj.cells #[Value.int IntKind.i64 x, Value.int IntKind.i64 y, Value.string s] 41)).drew := ((hb1.alloc (by simp) _).drew); have hcg : w1.cell? ⟨g, 0, none⟩ = some v := grown_cell hb2 hgrow1 hgv hc; have hfg : w1.frozen? ⟨g, 0, none⟩ = false := grown_frozen hb2 hgrow1 hgw hgv hf; have hgr2 := grown_below hb2 hgrow1; clear hgrow1 hb2; obtain ⟨A', c', rfl⟩ := own_form hown1)
  all_goals (go_end0; exact ⟨rfl, _, _, hown1, hgr2, rfl⟩)
end Go.Proofs.Ytplfigikjlfmjaa
