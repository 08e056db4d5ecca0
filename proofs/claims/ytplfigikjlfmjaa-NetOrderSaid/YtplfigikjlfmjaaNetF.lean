/- An append of one message: where the row that comes of it lies. -/
import Derived.Test.YtplfigikjlfmjaaNetC
namespace Go.Proofs.Ytplfigikjlfmjaa
open Go.RowKit
set_option linter.unusedVariables false

/-- A row's block is an elder one's, or a new one. -/
def Fresh (w : World) (v v' : Value) : Prop := v'.ownBlock = v.ownBlock ∨ ∃ g, v'.ownBlock = some g ∧ w.heap.size ≤ g
theorem own_lt {w : World} {B : Nat} {e : TypeId} {z : Nat} {v : Value} {k : Nat} {xs : List Value} (h : w.ownsRow B e z v k xs) {g : Nat} (hg : v.ownBlock = some g) : B ≤ g ∧ g < w.heap.size := World.ownsRow.lt h g hg
theorem run_fresh {w : World} {B : Nat} {v : Value} {k : Nat} {xs : List Value} (hown : w.ownsRow B 41 3 v k xs) (hB : B ≤ w.heap.size) (ad : Addr) (c : Nat) (m1 m2 : Int) (m3 : ByteArray)
    (h0 : w.cell? (ad.add 0) = some (.int .i64 m1)) (h1 : w.cell? (ad.add 1) = some (.int .i64 m2)) (h2 : w.cell? (ad.add 2) = some (.string m3)) (hk : k ≤ 100000) (ty : TypeId) :
    ∃ v' w', (Builtin.append_ #[35, 35] ty #[v, .slice (some ad) 1 c]).run Try.prog w = .ok v' w' ∧ w'.ownsRow B 41 3 v' (k + 1) (xs ++ msgC m1 m2 m3) ∧ w.grownBy w' v.ownBlock ∧ Fresh w v v' := by
  obtain ⟨i0, hti, hz0, hz1, hz2⟩ := info_parts Try.info41
  have hnews : ∀ j u, (msgC m1 m2 m3)[j]? = some u → w.cell? (ad.add j) = some u := by
    intro j u hj
    match j, hj with
    | 0, hj => simp [msgC] at hj; subst hj; exact h0
    | 1, hj => simp [msgC] at hj; subst hj; exact h1
    | 2, hj => simp [msgC] at hj; subst hj; exact h2
  have hone : ∀ u ∈ msgC m1 m2 m3, u.oneCell' = true := by
    intro u hu
    simp [msgC] at hu
    rcases hu with rfl | rfl | rfl <;> rfl
  obtain ⟨v', w', hr, g1, g2, g3⟩ := run_append_own (P := Try.prog) (w := w) B 35 ty 41 i0 _ 3 32 Try.underlying35 hti hz0 hz1 hz2 rfl (by decide) v k xs hown ad 1 c (msgC m1 m2 m3) rfl hnews hone (by unfold maxLen; omega) (by omega) hB
  refine ⟨v', w', hr, g1, g2, ?_⟩
  rcases hown.2 with ⟨rfl, rfl⟩ | ⟨g, cap, cur, rfl, hbg, hg, hnc, hcm, hcs, htake⟩
  · have hx : xs = [] := List.eq_nil_of_length_eq_zero (by simpa using hown.1)
    subst hx
    obtain ⟨v2, w2, hr2, k1, k2, k3⟩ := run_append_own (P := Try.prog) (w := w) w.heap.size 35 ty 41 i0 _ 3 32 Try.underlying35 hti hz0 hz1 hz2 rfl (by decide) (.slice none 0 0) 0 [] (World.ownsRow_nil _ _ _ _) ad 1 c (msgC m1 m2 m3) rfl hnews hone (by unfold maxLen; omega) (by omega) (Nat.le_refl _)
    rw [hr] at hr2
    cases hr2
    rcases k1.2 with ⟨_, h⟩ | ⟨g', cap', cur', rfl, hb', _⟩
    · omega
    · exact .inr ⟨g', rfl, hb'⟩
  · by_cases hroom : k + 1 ≤ cap
    · have hB' : Blk w g 41 cur.toList := by simpa [Blk] using hg
      have hr2 := run_append_room_cells (P := Try.prog) w 35 ty 41 i0 Try.underlying35 hti g 0 k cap ad 1 c (msgC m1 m2 m3) (by rw [hz1]; rfl) hnews hone hroom
        (fun j hj => by rw [hB'.at_, List.getElem?_eq_getElem (by simp [msgC, hz1] at hj ⊢; omega)]; rfl) (fun j hj => hB'.free _)
      rw [hr] at hr2
      cases hr2
      exact .inl rfl
    · have hr2 := run_append_grow (P := Try.prog) w 35 ty 41 i0 _ Try.underlying35 hti hz0 ⟨g, 0, none⟩ k cap xs (by rw [hz1]; exact hown.1) (World.ownsRow.cells hown (g := g) rfl) ad 1 c (msgC m1 m2 m3) (by rw [hz1]; rfl) hnews (by omega) (by omega) (growslice_fits (by omega) (by rw [hz2]; omega))
      rw [hr] at hr2
      cases hr2
      exact .inr ⟨w.heap.size, rfl, Nat.le_refl _⟩
theorem fresh_of {w w2 : World} {v v' : Value} (hs : w.heap.size ≤ w2.heap.size) (h : Fresh w2 v v') : Fresh w v v' := by
  rcases h with h | ⟨g, h, hg⟩
  · exact .inl h
  · exact .inr ⟨g, h, by omega⟩
/-- Append of one message onto messages of the call's own, as one step of a region that draws its order. -/
theorem step_ownF {ops : Array Oper} {o : Oper} {a : Act} {w : World} {K : Act → World → Prop} {Q : Exit → Act → World → Prop} {E : Prop} (w0 : World) (hg : o.guard = none) (s x : Operand)
    (ho : o.op = .call { callee := .builtin .append, args := #[s, x], argTypes := #[35, 35] }) (B : Nat) (v : Value) (k : Nat) (xs : List Value) (hs : a.eval s = v) (hown : w0.ownsRow B 41 3 v k xs) (hbel : Below w0.heap.size w0 w) (hB : B ≤ w0.heap.size)
    (ad : Addr) (c : Nat) (m1 m2 : Int) (m3 : ByteArray) (hx : a.eval x = .slice (some ad) 1 c) (h0 : w.cell? (ad.add 0) = some (.int .i64 m1)) (h1 : w.cell? (ad.add 1) = some (.int .i64 m2)) (h2 : w.cell? (ad.add 2) = some (.string m3)) (hk : k ≤ 100000)
    (h : ∀ v' w', w'.ownsRow B 41 3 v' (k + 1) (xs ++ msgC m1 m2 m3) → w.grownBy w' v.ownBlock → Fresh w v v' → K (a.put o.dst v') w') :
    if Region.wanted o (yielded ops a.tmps) = true then Oper.wp Try.prog o a w K Q else E := by
  have hw : Region.wanted o (yielded ops a.tmps) = true := by simp [Region.wanted, hg]
  rw [if_pos hw]
  obtain ⟨v', w', hr, g1, g2, g3⟩ := run_fresh (own_below hown hbel) (Nat.le_trans hB hbel.size) ad c m1 m2 m3 h0 h1 h2 hk o.type
  unfold Oper.wp execOp
  simp only [ho, resolve, invoke, builtin, Sem.run_bind, Sem.run_pure, Result.andThen_ok, List.map_toArray, List.map_cons, List.map_nil, hs, hx, hr]
  exact h v' w' g1 g2 g3

set_option maxHeartbeats 4000000 in
theorem add_anyF (g B : Nat) (v : Value) (k : Nat) (xs : List Value) (x y : Int) (s : ByteArray) (w : World) (hc : w.cell? ⟨g, 0, none⟩ = some v) (hf : w.frozen? ⟨g, 0, none⟩ = false) (hown : w.ownsRow B 41 3 v k xs) (hBs : B ≤ w.heap.size) (hk : k ≤ 3000) (hgv : v.ownBlock ≠ some g) :
    Calls Try.prog 28 #[.pointer (some ⟨g, 0, none⟩), .agg #[.int .i64 x, .int .i64 y, .string s]] w fun e w' => e = .returned (.tuple #[]) ∧
      ∃ v' w1, w1.ownsRow B 41 3 v' (k + 1) (xs ++ msgC x y s) ∧ w.grownBy w1 v.ownBlock ∧ Fresh w v v' ∧ w' = w1.setCell ⟨g, 0, none⟩ v' := by
  have hgw := World.block_lt_of_cell? w _ hc
  go_enter Try.func28, Try.ntmps28
  go_wp2_with fail
  have hb1 : Below w.heap.size w (w.alloc (Obj.cells #[Value.int IntKind.i64 x, Value.int IntKind.i64 y, Value.string s] 41)) := (Below.refl _ _).alloc (Nat.le_refl _) _
  have hc' := cell_later hb1 hc
  have n0 : (w.alloc (Obj.cells #[Value.int IntKind.i64 x, Value.int IntKind.i64 y, Value.string s] 41)).cell? ⟨w.heap.size, 0, none⟩ = some (.int .i64 x) := (Blk.born w 41 (msgC x y s)).at_ 0
  have n1 : (w.alloc (Obj.cells #[Value.int IntKind.i64 x, Value.int IntKind.i64 y, Value.string s] 41)).cell? ⟨w.heap.size, 1, none⟩ = some (.int .i64 y) := (Blk.born w 41 (msgC x y s)).at_ 1
  have n2 : (w.alloc (Obj.cells #[Value.int IntKind.i64 x, Value.int IntKind.i64 y, Value.string s] 41)).cell? ⟨w.heap.size, 2, none⟩ = some (.string s) := (Blk.born w 41 (msgC x y s)).at_ 2
  go_region_law (refine step_ownF w rfl (.tmp 8) (.tmp 10) rfl B v k xs (by simp [Act.eval]) hown (by repeat (first | exact Below.refl _ _ | apply Below.drew | refine Below.alloc ?_ (by simp) _)) hBs ⟨w.heap.size + 1, 0, none⟩ 1 x y s (by simp [Act.eval]) (by go_simp) (by go_simp) (by go_simp) (by omega) ?_; intro v' w1 hown1 hgrow1 hfr1; have hb2 : Below w.heap.size w ((w.alloc (Obj.cells #[Value.int IntKind.i64 x, Value.int IntKind.i64 y, Value.string s] 41)).alloc (Obj.cells #[Value.int IntKind.i64 x, Value.int IntKind.i64 y, Value.string s] 41)).drew := ((hb1.alloc (by simp) _).drew); have hcg : w1.cell? ⟨g, 0, none⟩ = some v := grown_cell hb2 hgrow1 hgv hc; have hfg : w1.frozen? ⟨g, 0, none⟩ = false := grown_frozen hb2 hgrow1 hgw hgv hf; have hgr2 := grown_below hb2 hgrow1; have hfr2 : Fresh w v v' := fresh_of hb2.size hfr1; clear hfr1; clear hgrow1 hb2; obtain ⟨A', c', rfl⟩ := own_form hown1)
  all_goals (go_end0; exact ⟨rfl, _, _, hown1, hgr2, hfr2, rfl⟩)

/-- What a call on a network leaves alone: all blocks but the network's and its messages'. -/
structure Fr (w w' : World) (g : Nat) (v v' : Value) : Prop where
  size : w.heap.size ≤ w'.heap.size
  block : ∀ k, k < w.heap.size → k ≠ g → some k ≠ v.ownBlock → w'.heap[k]? = w.heap[k]?
  fresh : Fresh w v v'
theorem Fr.up {w w1 w' : World} {g : Nat} {v v' : Value} (hb : Below w.heap.size w w1) (h : Fr w1 w' g v v') : Fr w w' g v v' :=
  ⟨Nat.le_trans hb.size h.size, fun k hk h1 h2 => (h.block k (Nat.lt_of_lt_of_le hk hb.size) h1 h2).trans (hb.block k hk), fresh_of hb.size h.fresh⟩
theorem Fr.down {w w1 w' : World} {g : Nat} {v v' : Value} (h : Fr w w1 g v v') (hb : Below w1.heap.size w1 w') : Fr w w' g v v' :=
  ⟨Nat.le_trans h.size hb.size, fun k hk h1 h2 => (hb.block k (Nat.lt_of_lt_of_le hk h.size)).trans (h.block k hk h1 h2), h.fresh⟩
theorem Fr.same {w w' : World} {g : Nat} {v : Value} (hb : Below w.heap.size w w') : Fr w w' g v v := ⟨hb.size, fun k hk _ _ => hb.block k hk, .inl rfl⟩
theorem Fr.store {w : World} {g i : Nat} {v u : Value} : Fr w (w.setCell ⟨g, i, none⟩ u) g v v := ⟨by simp [World.setCell], fun k hk h1 _ => Below.heap_setCell _ _ _ _ h1, .inl rfl⟩
theorem isnet_addF {w0 w : World} {g : Nat} {v : Value} {k : Nat} {xs : List Value} {n lost : Int} {cut : List Value} (x y : Int) (s : ByteArray) (h : IsNet w0 w g v k xs n lost cut) (hk : k ≤ 3000) :
    Calls Try.prog 28 #[.pointer (some ⟨g, 0, none⟩), .agg #[.int .i64 x, .int .i64 y, .string s]] w fun e w' => e = .returned (.tuple #[]) ∧ ∃ v', IsNet w0 w' g v' (k + 1) (xs ++ msgC x y s) n lost cut ∧ Fr w w' g v v' := by
  refine (add_anyF g w0.heap.size v k xs x y s w (by rw [h.blk.at_]; rfl) (h.blk.free 0) h.own h.bel.size hk h.ne).mono ?_
  rintro e w' ⟨he, v', w1, hown, hgr, hfr, rfl⟩
  have hb1 : Blk w1 g 55 (NetC v n cut lost) := (hgr.block g (lt_of_block h.blk) (fun e => h.ne e.symm)).trans h.blk
  have hbel1 : Below w0.heap.size w0 w1 := h.bel.grown hgr h.bel.size (fun j hj => (World.ownsRow.lt h.own j hj).1)
  have hne : v'.ownBlock ≠ some g := own_ne hb1 hown
  refine ⟨he, v', ⟨hb1.store 0 v', h.len, ownsRow_setCell_other hown (by simpa using hne) v', hbel1.setCell h.here v', h.here⟩, ?_⟩
  exact ⟨by simpa [World.setCell] using hgr.size, fun k hk h1 h2 => (Below.heap_setCell _ _ _ _ h1).trans (hgr.block k hk h2), hfr⟩
end Go.Proofs.Ytplfigikjlfmjaa
