/- Laying a schema: the program's Lay. -/
import Derived.Test.YtabnjiepmhblaaaDoorJ21
import Derived.Test.YtabnjiepmhblaaaDoorJ3
import Derived.Test.YtabnjiepmhblaaaDoorJ4
import Derived.Laws.ResultCell
namespace Go.Proofs.YtabnjiepmhblaaaDoor
open Go.RowKit Go.Shelf Go.Maps
set_option linter.unusedVariables false
attribute [local go_sem] Oper.semAt_some

theorem results_cell2 {fn : Func} {p q : Tmp} {t u : TypeId} (h : fn.results = #[.cell p t, .cell q u]) (tmps : Array Value) (P : Program) (w : World) :
    (results fn tmps).run P w =
      ((asAddr (tmps.getD p undef)).run P w).andThen fun a w₁ => ((loadVar t a).run P w₁).andThen fun v w₂ => ((asAddr (tmps.getD q undef)).run P w₂).andThen fun b w₃ => ((loadVar u b).run P w₃).andThen fun e w₄ => .ok (.tuple #[v, e]) w₄ := by
  simp only [results, h]
  simp [Sem.run_bind, Result.andThen]

theorem right_any (A : Option Addr) (cap : Nat) (l : List Col) (W : World) (hl : Cols W A l) (hn : l.length ≤ 4000000000000000000) :
    Calls Tryd.prog 12 #[.slice A l.length cap] W fun e W' => e = .returned (.bool (rightC l)) ∧ Below W.heap.size W W' := by
  by_cases h : 1 ≤ l.length ∧ l.length ≤ 16
  · exact right_good A cap l W hl h
  · exact right_len A cap l W hn h
def nullB (b : Bool) : UInt8 := if b then 1 else 0
theorem flag_any (b : Bool) (w : World) : Calls Tryd.prog 27 #[.bool b] w fun e w' => e = .returned (.int .u8 ((nullB b).toNat : Int)) ∧ w = w' := by
  cases b
  · go_enter Tryd.func27, Tryd.ntmps27
    go_wp2
    go_ret
    exact ⟨rfl, rfl⟩
  · go_enter Tryd.func27, Tryd.ntmps27
    go_wp2
    go_ret
    exact ⟨rfl, rfl⟩
/-- A column's bytes; a schema's. -/
def encC (c : Col) : List UInt8 := num c.name.size ++ c.name.data.toList ++ [UInt8.ofNat c.kind.toNat, nullB c.null]
def layC (l : List Col) : List UInt8 := num l.length ++ l.flatMap encC
theorem layC_snoc (n : Nat) (pre : List Col) (x : Col) : num n ++ (pre ++ [x]).flatMap encC = (num n ++ pre.flatMap encC) ++ encC x := by simp

set_option maxRecDepth 100000 in
set_option maxHeartbeats 4000000 in
theorem lay_no (B : Option Addr) (A : Option Addr) (blen bcap cap : Nat) (l : List Col) (W : World) (hl : Cols W A l) (hn : l.length ≤ 4000000000000000000) (hr : rightC l = false) :
    Calls Tryd.prog 11 #[.slice B blen bcap, .slice A l.length cap] W fun e W' => e = .returned (.tuple #[.slice none 0 0, .int .i64 50]) ∧ Below W.heap.size W W' := by
  obtain ⟨W2, hW2⟩ : ∃ x, x = (W.alloc (Obj.cells #[Value.slice none 0 0] 32)).alloc (Obj.cells #[Value.int .i64 0] 24) := ⟨_, rfl⟩
  have hb : Below W.heap.size W W2 := by rw [hW2]; exact ((Below.refl _ _).alloc (Nat.le_refl _) _).alloc (by simp) _
  have hri := right_any A cap l W2 (hl.keep hb) hn
  rw [hr] at hri
  have b0 : Blk W2 W.heap.size 32 [Value.slice none 0 0] := by rw [hW2]; exact (Blk.born W _ [Value.slice none 0 0]).later _
  have b1 : Blk W2 (W.heap.size + 1) 24 [Value.int .i64 0] := by
    rw [hW2]
    have := Blk.born (W.alloc (Obj.cells #[Value.slice none 0 0] 32)) 24 [Value.int .i64 0]
    rw [World.size_alloc] at this
    exact this
  have s2 : W2.heap.size = W.heap.size + 2 := by rw [hW2]; simp
  have HR := Lib.hid hri
  have HB := Lib.hid hb
  have HW2 := Lib.hid hW2
  generalize l.length = n at HR hn
  obtain ⟨N, hN⟩ : ∃ N, W.heap.size = N := ⟨_, rfl⟩
  rw [hN] at b0 b1 s2 ⊢
  clear hri hb hW2 hl
  go_enter Tryd.func11, Tryd.ntmps11
  go_wp2_with (rw [← HW2.out]; go_at_call 12; refine HR.out.mono ?_; rintro e w1 ⟨rfl, hb1⟩; have k0 := b0.below hb1 (by omega); have k1 := b1.below hb1 (by omega); have c0 : w1.cell? ⟨N, 0, none⟩ = some (.slice none 0 0) := (k0.at_ 0).trans rfl; have c1 : w1.cell? ⟨N + 1, 0, none⟩ = some (.int .i64 0) := (k1.at_ 0).trans rfl; have f0 := k0.free 0; have f1 := k1.free 0; have HB1 := Lib.hid (HB.out.trans (hb1.mono HB.out.size)); clear hb1)
  refine bodyPost_ret (v := .tuple #[.slice none 0 0, .int .i64 50]) ?_ rfl ?_
  · rw [results_cell2 rfl]
    go_simp
  · refine ⟨rfl, ?_⟩
    have h1 := HB1.out
    rw [hN] at h1
    exact (h1.setCell (p := ⟨N, 0, none⟩) (Nat.le_refl _) _).setCell (p := ⟨N + 1, 0, none⟩) (by show N ≤ N + 1; omega) _
end Go.Proofs.YtabnjiepmhblaaaDoor
