/- The walks of the document's Words (37), Order (46), Places (48). -/
import Derived.Test.YtcnnijhfliahgaaDoorHaF
namespace Go.Proofs.YtcnnijhfliahgaaDoor
open Go.RowKit
set_option linter.unusedVariables false

def ordS (r : Nat) : ByteArray := str ((perms.getD r []).map fun x => UInt8.ofNat (97 + x))
def quA (i : Nat) : Nat × Nat × Nat × Nat := quad.getD i (0, 0, 0, 0)
def plaS (i : Nat) : ByteArray := str (chrs (quA i).1 (quA i).2.1 (quA i).2.2.1 (quA i).2.2.2)
set_option maxRecDepth 100000 in
theorem words37 (w : World) : Calls Tryd.prog 37 #[] w fun e w' => e = .returned (.slice (some ⟨w.heap.size, 0, none⟩) 8 8) ∧ Blk w' w.heap.size 60 (u32s ivs) ∧ Below w.heap.size w w' := by
  have hb : Blk (w.alloc (Obj.cells #[Value.int .u32 1779033703, Value.int .u32 3144134277, Value.int .u32 1013904242, Value.int .u32 2773480762, Value.int .u32 1359893119, Value.int .u32 2600822924, Value.int .u32 528734635, Value.int .u32 1541459225] 60)) w.heap.size 60 (u32s ivs) := heap_alloc_new w _
  have HB := Lib.hid hb
  clear hb
  go_enter Tryd.func37, Tryd.ntmps37
  go_wp2
  go_ret
  exact ⟨rfl, HB.out, (Below.refl _ _).alloc (Nat.le_refl _) _⟩
theorem ord_at (r : Nat) (hr : r < 10) : (#[Value.string { data := #[97, 98, 99, 100, 101, 102, 103, 104, 105, 106, 107, 108, 109, 110, 111, 112] }, Value.string { data := #[111, 107, 101, 105, 106, 112, 110, 103, 98, 109, 97, 99, 108, 104, 102, 100] }, Value.string { data := #[108, 105, 109, 97, 102, 99, 112, 110, 107, 111, 100, 103, 104, 98, 106, 101] }, Value.string { data := #[104, 106, 100, 98, 110, 109, 108, 111, 99, 103, 102, 107, 101, 97, 112, 105] }, Value.string { data := #[106, 97, 102, 104, 99, 101, 107, 112, 111, 98, 108, 109, 103, 105, 100, 110] }, Value.string { data := #[99, 109, 103, 107, 97, 108, 105, 100, 101, 110, 104, 102, 112, 111, 98, 106] }, Value.string { data := #[109, 102, 98, 112, 111, 110, 101, 107, 97, 104, 103, 100, 106, 99, 105, 108] }, Value.string { data := #[110, 108, 104, 111, 109, 98, 100, 106, 102, 97, 112, 101, 105, 103, 99, 107] }, Value.string { data := #[103, 112, 111, 106, 108, 100, 97, 105, 109, 99, 110, 104, 98, 101, 107, 102] }, Value.string { data := #[107, 99, 105, 101, 104, 103, 98, 102, 112, 108, 106, 111, 100, 109, 110, 97] }] : Array Value)[r]? = some (.string (ordS r)) := by
  obtain rfl | rfl | rfl | rfl | rfl | rfl | rfl | rfl | rfl | rfl : r = 0 ∨ r = 1 ∨ r = 2 ∨ r = 3 ∨ r = 4 ∨ r = 5 ∨ r = 6 ∨ r = 7 ∨ r = 8 ∨ r = 9 := by omega
  all_goals rfl
theorem pla_at (r : Nat) (hr : r < 8) : (#[Value.string { data := #[97, 101, 105, 109] }, Value.string { data := #[98, 102, 106, 110] }, Value.string { data := #[99, 103, 107, 111] }, Value.string { data := #[100, 104, 108, 112] }, Value.string { data := #[97, 102, 107, 112] }, Value.string { data := #[98, 103, 108, 109] }, Value.string { data := #[99, 104, 105, 110] }, Value.string { data := #[100, 101, 106, 111] }] : Array Value)[r]? = some (.string (plaS r)) := by
  obtain rfl | rfl | rfl | rfl | rfl | rfl | rfl | rfl : r = 0 ∨ r = 1 ∨ r = 2 ∨ r = 3 ∨ r = 4 ∨ r = 5 ∨ r = 6 ∨ r = 7 := by omega
  all_goals rfl
set_option maxRecDepth 100000 in
theorem order46 (r : Nat) (hr : r < 10) (w : World) : Calls Tryd.prog 46 #[.int .i64 (r : Int)] w fun e w' => e = .returned (.string (ordS r)) ∧ Below w.heap.size w w' := by
  have hb : (w.alloc (Obj.cells #[Value.string { data := #[97, 98, 99, 100, 101, 102, 103, 104, 105, 106, 107, 108, 109, 110, 111, 112] }, Value.string { data := #[111, 107, 101, 105, 106, 112, 110, 103, 98, 109, 97, 99, 108, 104, 102, 100] }, Value.string { data := #[108, 105, 109, 97, 102, 99, 112, 110, 107, 111, 100, 103, 104, 98, 106, 101] }, Value.string { data := #[104, 106, 100, 98, 110, 109, 108, 111, 99, 103, 102, 107, 101, 97, 112, 105] }, Value.string { data := #[106, 97, 102, 104, 99, 101, 107, 112, 111, 98, 108, 109, 103, 105, 100, 110] }, Value.string { data := #[99, 109, 103, 107, 97, 108, 105, 100, 101, 110, 104, 102, 112, 111, 98, 106] }, Value.string { data := #[109, 102, 98, 112, 111, 110, 101, 107, 97, 104, 103, 100, 106, 99, 105, 108] }, Value.string { data := #[110, 108, 104, 111, 109, 98, 100, 106, 102, 97, 112, 101, 105, 103, 99, 107] }, Value.string { data := #[103, 112, 111, 106, 108, 100, 97, 105, 109, 99, 110, 104, 98, 101, 107, 102] }, Value.string { data := #[107, 99, 105, 101, 104, 103, 98, 102, 112, 108, 106, 111, 100, 109, 110, 97] }] 9)).cell? ⟨w.heap.size, r, none⟩ = some (.string (ordS r)) := by
    rw [cell_of_row _ w.heap.size r _ 9 (0, 0) (heap_alloc_new w _)]; exact ord_at r hr
  have r0 : (0 : Int) ≤ (r : Int) := by omega
  have r1 : (r : Int) < 10 := by omega
  obtain ⟨t, ht⟩ : ∃ t, ordS r = t := ⟨_, rfl⟩
  rw [ht] at hb ⊢
  clear ht
  go_enter Tryd.func46, Tryd.ntmps46
  go_wp2
  go_ret
  exact ⟨rfl, (Below.refl _ _).alloc (Nat.le_refl _) _⟩
set_option maxRecDepth 100000 in
theorem places48 (r : Nat) (hr : r < 8) (w : World) : Calls Tryd.prog 48 #[.int .i64 (r : Int)] w fun e w' => e = .returned (.string (plaS r)) ∧ Below w.heap.size w w' := by
  have hb : (w.alloc (Obj.cells #[Value.string { data := #[97, 101, 105, 109] }, Value.string { data := #[98, 102, 106, 110] }, Value.string { data := #[99, 103, 107, 111] }, Value.string { data := #[100, 104, 108, 112] }, Value.string { data := #[97, 102, 107, 112] }, Value.string { data := #[98, 103, 108, 109] }, Value.string { data := #[99, 104, 105, 110] }, Value.string { data := #[100, 101, 106, 111] }] 9)).cell? ⟨w.heap.size, r, none⟩ = some (.string (plaS r)) := by
    rw [cell_of_row _ w.heap.size r _ 9 (0, 0) (heap_alloc_new w _)]; exact pla_at r hr
  have r0 : (0 : Int) ≤ (r : Int) := by omega
  have r1 : (r : Int) < 8 := by omega
  obtain ⟨t, ht⟩ : ∃ t, plaS r = t := ⟨_, rfl⟩
  rw [ht] at hb ⊢
  clear ht
  go_enter Tryd.func48, Tryd.ntmps48
  go_wp2
  go_ret
  exact ⟨rfl, (Below.refl _ _).alloc (Nat.le_refl _) _⟩
theorem quad_ok : ∀ i < 8, ((quA i).1 < 16 ∧ (quA i).2.1 < 16 ∧ (quA i).2.2.1 < 16 ∧ (quA i).2.2.2 < 16) ∧ ((quA i).1 ≠ (quA i).2.1 ∧ (quA i).1 ≠ (quA i).2.2.1 ∧ (quA i).1 ≠ (quA i).2.2.2) ∧ ((quA i).2.1 ≠ (quA i).2.2.1 ∧ (quA i).2.1 ≠ (quA i).2.2.2 ∧ (quA i).2.2.1 ≠ (quA i).2.2.2) := by decide +kernel
/-- One step of a round, by the document's mixed. -/
theorem refstep (m : List W32) (s : List Nat) (v : List W32) (i : Nat) (hi : i < 8) (hl : v.length = 16) (w : World) :
    Calls Tryd.prog 47 #[.agg (u32s v).toArray, .string (plaS i), .int .u32 ((wat m (s.getD (2 * i) 0)).toNat : Int), .int .u32 ((wat m (s.getD (2 * i + 1) 0)).toNat : Int)] w
      fun e w' => e = .returned (.agg (u32s (stepL m s v i)).toArray) ∧ Below w.heap.size w w' := by
  obtain ⟨⟨h1, h2, h3, h4⟩, ⟨h5, h6, h7⟩, ⟨h8, h9, h10⟩⟩ := quad_ok i hi
  exact refmix_walk (quA i).1 (quA i).2.1 (quA i).2.2.1 (quA i).2.2.2 v _ _ (plaS i) w rfl hl h1 h2 h3 h4 h5 h6 h7 h8 h9 h10

/-- All but block V, of those below B, lies as it lay. -/
structure SB (V B : Nat) (w w' : World) : Prop where
  os : w'.os = w.os
  tape : w'.tape = w.tape
  output : w'.output = w.output
  size : w.heap.size ≤ w'.heap.size
  block : ∀ k, k < B → k ≠ V → w'.heap[k]? = w.heap[k]?
theorem SB.refl (V B : Nat) (w : World) : SB V B w w := ⟨rfl, rfl, rfl, Nat.le_refl _, fun _ _ _ => rfl⟩
theorem SB.drew {V B : Nat} {a w : World} (h : SB V B a w) : SB V B a w.drew := ⟨h.os, h.tape, h.output, h.size, h.block⟩
theorem SB.below {V B : Nat} {a w w' : World} (h : SB V B a w) (hb : Below w.heap.size w w') (hB : B ≤ w.heap.size) : SB V B a w' :=
  ⟨hb.os.trans h.os, hb.tape.trans h.tape, hb.output.trans h.output, Nat.le_trans h.size hb.size, fun k hk hv => (hb.block k (by omega)).trans (h.block k hk hv)⟩
theorem SB.sole {V B : Nat} {a w w' : World} (h : SB V B a w) (hs : Sole V w w') : SB V B a w' :=
  ⟨hs.os.trans h.os, hs.tape.trans h.tape, hs.output.trans h.output, by rw [hs.size]; exact h.size, fun k hk hv => (hs.block k hv).trans (h.block k hk hv)⟩
theorem SB.trans {V B : Nat} {a b c : World} (h : SB V B a b) (k : SB V B b c) : SB V B a c :=
  ⟨k.os.trans h.os, k.tape.trans h.tape, k.output.trans h.output, Nat.le_trans h.size k.size, fun i hi hv => (k.block i hi hv).trans (h.block i hi hv)⟩
theorem SB.to {V B N : Nat} {w0 a w : World} (h : SB V B a w) (hb : Below N w0 a) (hN : N ≤ V) (hB : N ≤ B) : Below N w0 w :=
  hb.trans ⟨h.os, h.tape, h.output, h.size, fun k hk => h.block k (by omega) (by omega)⟩
theorem Blk.sb {V B k : Nat} {w w' : World} {t : TypeId} {cs : List Value} (h : Blk w k t cs) (hs : SB V B w w') (hk : k < B) (hv : k ≠ V) : Blk w' k t cs := (hs.block k hk hv).trans h

section
variable {P : Program} {Q : Exit → Act → World → Prop} {ops R : Array Oper} {S : World → Prop}
/-- One that reads what was there, and a call that makes memory, may come now, in either order. -/
theorem wpS_rc {i k : Nat} {o u : Oper} {v1 : Value} {f : FuncId} {args : Array Value} {fuel : Nat} {listed : Array Bool} {a : Act} {w : World} (hR : Hid (R = ops)) (hi : ops[i]? = some o) (hk : ops[k]? = some u) (hr : Region.ready .any ops listed = [i, k])
    (hr1 : Region.ready .any ops (listed.setIfInBounds i true) = [k]) (hr2 : Region.ready .any ops (listed.setIfInBounds k true) = [i])
    (hw1 : Region.wanted o (yielded ops a.tmps) = true) (hw2 : Region.wanted u (yielded ops a.tmps) = true)
    (hw3 : Region.wanted u (yielded ops (a.put o.dst v1).tmps) = true) (hw4 : ∀ v, Region.wanted o (yielded ops (a.put u.dst v).tmps) = true) (hS : S w)
    (h1 : (execOp a.eval o).run P w = .ok (.value v1) w) (h2 : (execOp (a.put o.dst v1).eval u).run P w = .ok (.enter f args) w)
    (h3 : (execOp a.eval u).run P w = .ok (.enter f args) w) (h4 : ∀ v W, Below w.heap.size w W → (execOp (a.put u.dst v).eval o).run P W = .ok (.value v1) W)
    (ha : ∀ v, (a.put u.dst v).put o.dst v1 = (a.put o.dst v1).put u.dst v) (hl : (listed.setIfInBounds k true).setIfInBounds i true = (listed.setIfInBounds i true).setIfInBounds k true)
    (h : Calls P f args w fun e w' => ∃ v, e = .returned v ∧ Below w.heap.size w w' ∧ S w' ∧ wpS P R Q S fuel ((listed.setIfInBounds i true).setIfInBounds k true) ((a.put o.dst v1).put u.dst v) w') : wpS P R Q S (fuel + 1 + 1) listed a w := by
  have e : R = ops := hR
  subst e
  refine wpAnyH_all hr (by simp) ?_
  intro j hj
  simp only [List.mem_cons, List.not_mem_nil, or_false] at hj
  rcases hj with rfl | rfl
  · refine wpOp_val hi hw1 h1 ⟨hS, wpAnyH_all hr1 (by simp) ?_⟩
    intro j hj
    obtain rfl : j = k := by simpa using hj
    unfold wpOp
    simp only [hk, hw3, if_true]
    refine .inl ?_
    unfold Oper.wp
    rw [h2]
    simp only [Oper.upon]
    refine h.mono fun e w' h' => ?_
    obtain ⟨v, rfl, _, hs, h''⟩ := h'
    exact ⟨hs, h''⟩
  · unfold wpOp
    simp only [hk, hw2, if_true]
    refine .inl ?_
    unfold Oper.wp
    rw [h3]
    simp only [Oper.upon]
    refine h.mono fun e w' h' => ?_
    obtain ⟨v, rfl, hb, hs, h''⟩ := h'
    refine ⟨hs, wpAnyH_all hr2 (by simp) ?_⟩
    intro j hj
    obtain rfl : j = i := by simpa using hj
    refine wpOp_val hi (hw4 v) (h4 v w' hb) ⟨hs, ?_⟩
    rw [ha, hl]
    exact h''
end
end Go.Proofs.YtcnnijhfliahgaaDoor
