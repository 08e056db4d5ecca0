/- The walks of value.Take (16), takeTruth (32) and the document's Take (17). -/
import Derived.Test.YtabnjiepmhblaaaDoorJ11
namespace Go.Proofs.YtabnjiepmhblaaaDoor.V4
open Go.RowKit
set_option linter.unusedVariables false

/-- What is read of a value at a place: its kind, number, text, and the place behind it. -/
def valO (l : List UInt8) (at_ : Int) : Option (Int × Int × ByteArray × Int) :=
  if 0 ≤ at_ ∧ at_ < l.length then
    match l[at_.toNat]? with
    | some 0 => some (0, 0, ⟨#[]⟩, at_ + 1)
    | some 1 => (match takeO l (at_ + 1) with | some (n, c) => some (1, zag n, ⟨#[]⟩, at_ + 1 + c) | none => none)
    | some 2 => (match l[at_.toNat + 1]? with | some c => if c.toNat ≤ 1 then some (2, (c.toNat : Int), ⟨#[]⟩, at_ + 1 + 1) else none | none => none)
    | some 3 => (match textO l (at_ + 1) 1024 with | some (t, p) => some (3, 0, str t, p) | none => none)
    | _ => none
  else none
def valR (l : List UInt8) (at_ : Int) : Value :=
  match valO l at_ with
  | some (k, n, s, p) => .tuple #[.agg #[.int .i64 k, .int .i64 n, .string s], .int .i64 p, .int .i64 0]
  | none => .tuple #[.agg #[.int .i64 0, .int .i64 0, .string ⟨#[]⟩], .int .i64 0, .int .i64 20]
theorem valR_none {l : List UInt8} {at_ : Int} (h : valO l at_ = none) : valR l at_ = .tuple #[.agg #[.int .i64 0, .int .i64 0, .string ⟨#[]⟩], .int .i64 0, .int .i64 20] := by unfold valR; rw [h]
theorem valR_some {l : List UInt8} {at_ k n p : Int} {s : ByteArray} (h : valO l at_ = some (k, n, s, p)) : valR l at_ = .tuple #[.agg #[.int .i64 k, .int .i64 n, .string s], .int .i64 p, .int .i64 0] := by unfold valR; rw [h]
theorem valO_out {l : List UInt8} {at_ : Int} (h : at_ < 0 ∨ (l.length : Int) ≤ at_) : valO l at_ = none := by unfold valO; rw [if_neg (by omega)]
theorem valO_in {l : List UInt8} {i : Nat} (h : i < l.length) : valO l (i : Int) =
    match (some l[i] : Option UInt8) with
    | some 0 => some (0, 0, ⟨#[]⟩, (i : Int) + 1)
    | some 1 => (match takeO l ((i : Int) + 1) with | some (n, c) => some (1, zag n, ⟨#[]⟩, (i : Int) + 1 + c) | none => none)
    | some 2 => (match l[i + 1]? with | some c => if c.toNat ≤ 1 then some (2, (c.toNat : Int), ⟨#[]⟩, (i : Int) + 1 + 1) else none | none => none)
    | some 3 => (match textO l ((i : Int) + 1) 1024 with | some (t, p) => some (3, 0, str t, p) | none => none)
    | _ => none := by
  unfold valO
  rw [if_pos (by omega), Int.toNat_natCast, List.getElem?_eq_getElem h]

def TookV (w : World) (l : List UInt8) (at_ : Int) (e : Ending) (w' : World) : Prop := e = .returned (valR l at_) ∧ Below w.heap.size w w'

set_option maxHeartbeats 2000000 in
set_option maxRecDepth 100000 in
theorem truth_yes (a : Option Addr) (cap i : Nat) (l : List UInt8) (w : World) (hb : Byt w a l) (hm : l.length ≤ 140737488351232) (hi : i + 1 < l.length) (h1 : (l[i + 1]).toNat ≤ 1) :
    Calls Tryd.prog 50 #[.slice a l.length cap, .int .i64 ((i : Int) + 1)] w fun e w' => e = .returned (.tuple #[.int .i64 ((l[i + 1]).toNat : Int), .int .i64 ((i : Int) + 1 + 1), .int .i64 0]) ∧ w = w' := by
  have i0 : (0 : Int) ≤ (i : Int) := by omega
  obtain ⟨b0, o0, rfl, hc⟩ := hb (i + 1) hi
  have e1 : ((i : Int) + 1).toNat = i + 1 := by omega
  have t1 : ¬ (l.length : Int) ≤ (i : Int) + 1 := by omega
  have t2 : (i : Int) + 1 < (l.length : Int) := by omega
  have t3 : (0 : Int) ≤ (i : Int) + 1 := by omega
  have t4 : ¬ (1 : Int) < ((l[i + 1]).toNat : Int) := by omega
  have hB : ((l[i + 1]).toNat : Int) < 256 := by omega
  have hB0 : (0 : Int) ≤ ((l[i + 1]).toNat : Int) := by omega
  generalize ((l[i + 1]).toNat : Int) = B at hc t4 hB hB0 ⊢
  clear h1 hb
  go_enter Tryd.func50, Tryd.ntmps50
  go_wp2
  go_ret3
  exact ⟨rfl, rfl⟩
set_option maxHeartbeats 2000000 in
set_option maxRecDepth 100000 in
theorem truth_no (a : Option Addr) (cap i : Nat) (l : List UInt8) (w : World) (hb : Byt w a l) (hm : l.length ≤ 140737488351232) (him : i ≤ 140737488351232) (h : ∀ hi : i + 1 < l.length, 1 < (l[i + 1]).toNat) :
    Calls Tryd.prog 50 #[.slice a l.length cap, .int .i64 ((i : Int) + 1)] w fun e w' => e = .returned (.tuple #[.int .i64 0, .int .i64 0, .int .i64 20]) ∧ w = w' := by
  have i0 : (0 : Int) ≤ (i : Int) := by omega
  by_cases hi : i + 1 < l.length
  · have h1 := h hi
    obtain ⟨b0, o0, rfl, hc⟩ := hb (i + 1) hi
    have e1 : ((i : Int) + 1).toNat = i + 1 := by omega
    have t1 : ¬ (l.length : Int) ≤ (i : Int) + 1 := by omega
    have t2 : (i : Int) + 1 < (l.length : Int) := by omega
    have t3 : (0 : Int) ≤ (i : Int) + 1 := by omega
    have t4 : (1 : Int) < ((l[i + 1]).toNat : Int) := by omega
    clear h hb h1
    generalize ((l[i + 1]).toNat : Int) = B at hc t4
    go_enter Tryd.func50, Tryd.ntmps50
    go_wp2
    go_ret3
    exact ⟨rfl, rfl⟩
  · have t1 : (l.length : Int) ≤ (i : Int) + 1 := by omega
    clear hb hi h
    go_enter Tryd.func50, Tryd.ntmps50
    go_wp2
    go_ret3
    exact ⟨rfl, rfl⟩

set_option maxHeartbeats 2000000 in
set_option maxRecDepth 100000 in
theorem takev_out (a : Option Addr) (cap : Nat) (at_ : Int) (l : List UInt8) (w : World) (h : at_ < 0 ∨ (l.length : Int) ≤ at_) :
    Calls Tryd.prog 34 #[.slice a l.length cap, .int .i64 at_] w (TookV w l at_) := by
  unfold TookV
  rw [valR_none (valO_out h)]
  by_cases h0 : at_ < 0
  · clear h
    go_enter Tryd.func34, Tryd.ntmps34
    go_wp2
    exact bodyPost_ret (v := .tuple #[.agg #[.int .i64 0, .int .i64 0, .string ⟨#[]⟩], .int .i64 0, .int .i64 20]) (by simp [results, Tryd.results34, go_sem]) rfl ⟨rfl, (Below.refl w.heap.size w).alloc (Nat.le_refl _) _⟩
  · have h1 : (l.length : Int) ≤ at_ := by omega
    clear h
    go_enter Tryd.func34, Tryd.ntmps34
    go_wp2
    exact bodyPost_ret (v := .tuple #[.agg #[.int .i64 0, .int .i64 0, .string ⟨#[]⟩], .int .i64 0, .int .i64 20]) (by simp [results, Tryd.results34, go_sem]) rfl ⟨rfl, (Below.refl w.heap.size w).alloc (Nat.le_refl _) _⟩

set_option maxHeartbeats 2000000 in
set_option maxRecDepth 100000 in
theorem takev_big (a : Option Addr) (cap i : Nat) (l : List UInt8) (w : World) (hb : Byt w a l) (hn : a = none → cap = 0) (hc : l.length ≤ cap) (hm : cap ≤ 140737488351232) (hi : i < l.length) (hl : 4 ≤ (l[i]).toNat) :
    Calls Tryd.prog 34 #[.slice a l.length cap, .int .i64 (i : Int)] w fun e w' => e = .returned (.tuple #[.agg #[.int .i64 0, .int .i64 0, .string ⟨#[]⟩], .int .i64 0, .int .i64 20]) ∧ Below w.heap.size w w' := by
  have i0 : (0 : Int) ≤ (i : Int) := by omega
  have i1 : (i : Int) < (l.length : Int) := by omega
  have i2 : (i : Int) ≤ 9223372036854775000 := by omega
  have t1 : decide (l.length ≤ i) = false := decide_eq_false (by omega)
  have hX : Below w.heap.size w (w.alloc (Obj.cells #[Value.int IntKind.i64 0, Value.int IntKind.i64 0, Value.string { data := #[] }] 71)) := (Below.refl _ _).alloc (Nat.le_refl _) _
  obtain ⟨b0, o0, rfl, hce⟩ := hb i hi
  have hlt := World.block_lt_of_cell? w _ hce
  have c1 := (hX.cell (p := ⟨b0, o0 + i, none⟩) hlt).trans hce
  have hB : (4 : Int) ≤ ((l[i]).toNat : Int) := by omega
  have hB2 : ((l[i]).toNat : Int) < 256 := by have := (l[i]).toNat_lt; omega
  have hq0 : (((l[i]).toNat : Int) == 0) = false := by rw [beq_eq_false_iff_ne]; omega
  have hq1 : (((l[i]).toNat : Int) == 1) = false := by rw [beq_eq_false_iff_ne]; omega
  have hq2 : (((l[i]).toNat : Int) == 2) = false := by rw [beq_eq_false_iff_ne]; omega
  have hq3 : (((l[i]).toNat : Int) == 3) = false := by rw [beq_eq_false_iff_ne]; omega
  generalize ((l[i]).toNat : Int) = B at c1 hB hB2 hq0 hq1 hq2 hq3
  clear hb hX hce hl
  clear hm hc hn
  go_enter Tryd.func34, Tryd.ntmps34
  go_wp2
  exact bodyPost_ret (v := .tuple #[.agg #[.int .i64 0, .int .i64 0, .string ⟨#[]⟩], .int .i64 0, .int .i64 20]) (by simp [results, Tryd.results34, go_sem]) rfl ⟨rfl, by first | exact ((Below.refl w.heap.size w).alloc (Nat.le_refl _) _).alloc (by simp) _ | exact (Below.refl w.heap.size w).alloc (Nat.le_refl _) _⟩

set_option maxHeartbeats 2000000 in
set_option maxRecDepth 100000 in
theorem takev_null (a : Option Addr) (cap i : Nat) (l : List UInt8) (w : World) (hb : Byt w a l) (hn : a = none → cap = 0) (hc : l.length ≤ cap) (hm : cap ≤ 140737488351232) (hi : i < l.length) (hl : l[i] = 0) :
    Calls Tryd.prog 34 #[.slice a l.length cap, .int .i64 (i : Int)] w fun e w' => e = .returned (.tuple #[.agg #[.int .i64 0, .int .i64 0, .string ⟨#[]⟩], .int .i64 ((i : Int) + 1), .int .i64 0]) ∧ Below w.heap.size w w' := by
  have i0 : (0 : Int) ≤ (i : Int) := by omega
  have i1 : (i : Int) < (l.length : Int) := by omega
  have i2 : (i : Int) ≤ 9223372036854775000 := by omega
  have t1 : decide (l.length ≤ i) = false := decide_eq_false (by omega)
  have hX : Below w.heap.size w (w.alloc (Obj.cells #[Value.int IntKind.i64 0, Value.int IntKind.i64 0, Value.string { data := #[] }] 71)) := (Below.refl _ _).alloc (Nat.le_refl _) _
  obtain ⟨b0, o0, rfl, hce⟩ := hb i hi
  have hlt := World.block_lt_of_cell? w _ hce
  have c1 : (w.alloc (Obj.cells #[Value.int IntKind.i64 0, Value.int IntKind.i64 0, Value.string { data := #[] }] 71)).cell? ⟨b0, o0 + i, none⟩ = some (.int .u8 0) := (hX.cell (p := ⟨b0, o0 + i, none⟩) hlt).trans (by rw [hce, hl]; rfl)
  clear hb hX hce hl
  clear hm hc hn
  go_enter Tryd.func34, Tryd.ntmps34
  go_wp2
  exact bodyPost_ret (v := .tuple #[.agg #[.int .i64 0, .int .i64 0, .string ⟨#[]⟩], .int .i64 ((i : Int) + 1), .int .i64 0]) (by simp [results, Tryd.results34, go_sem]) rfl ⟨rfl, by first | exact ((Below.refl w.heap.size w).alloc (Nat.le_refl _) _).alloc (by simp) _ | exact (Below.refl w.heap.size w).alloc (Nat.le_refl _) _⟩

end Go.Proofs.YtabnjiepmhblaaaDoor.V4
