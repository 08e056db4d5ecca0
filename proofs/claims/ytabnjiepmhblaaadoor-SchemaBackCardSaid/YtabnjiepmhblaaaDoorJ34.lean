/- value.Take (16) once more: of bytes whose spare room may be any. -/
import Derived.Test.YtabnjiepmhblaaaDoorJ8
import Derived.Test.YtabnjiepmhblaaaDoorJ12
namespace Go.Proofs.YtabnjiepmhblaaaDoor.V4
open Go.RowKit
set_option linter.unusedVariables false

set_option maxHeartbeats 2000000 in
set_option maxRecDepth 100000 in
theorem truth_yesW (a : Option Addr) (cap i : Nat) (l : List UInt8) (w : World) (hb : Byt w a l) (hm : l.length ≤ 400000000000000) (hi : i + 1 < l.length) (h1 : (l[i + 1]).toNat ≤ 1) :
    Calls Tryd.prog 50 #[.slice a l.length cap, .int .i64 ((i : Int) + 1)] w fun e w' => e = .returned (.tuple #[.int .i64 ((l[i + 1]).toNat : Int), .int .i64 ((i : Int) + 1 + 1), .int .i64 0]) ∧ w = w' := by
  have i0 : (0 : Int) ≤ (i : Int) := by omega
  obtain ⟨b0, o0, rfl, hc⟩ := hb (i + 1) hi
  have e1 : ((i : Int) + 1).toNat = i + 1 := by omega
  have t1 : ¬ (l.length : Int) ≤ (i : Int) + 1 := by omega
  have t2 : (i : Int) + 1 < (l.length : Int) := by omega
  have t3 : (0 : Int) ≤ (i : Int) + 1 := by omega
  have t4 : ¬ (1 : Int) < ((l[i + 1]).toNat : Int) := by omega
  have hB : ((l[i + 1]).toNat : Int) < 256 := by omega
  have hB0 : (0 : Int) ≤ ((l[i + 1]).toNat : Int) := by omega
  generalize ((l[i + 1]).toNat : Int) = B at hc t4 hB hB0 ⊢
  clear h1 hb
  go_enter Tryd.func50, Tryd.ntmps50
  go_wp2
  go_ret3
  exact ⟨rfl, rfl⟩
set_option maxHeartbeats 2000000 in
set_option maxRecDepth 100000 in
theorem truth_noW (a : Option Addr) (cap i : Nat) (l : List UInt8) (w : World) (hb : Byt w a l) (hm : l.length ≤ 400000000000000) (him : i ≤ 400000000000000) (h : ∀ hi : i + 1 < l.length, 1 < (l[i + 1]).toNat) :
    Calls Tryd.prog 50 #[.slice a l.length cap, .int .i64 ((i : Int) + 1)] w fun e w' => e = .returned (.tuple #[.int .i64 0, .int .i64 0, .int .i64 20]) ∧ w = w' := by
  have i0 : (0 : Int) ≤ (i : Int) := by omega
  by_cases hi : i + 1 < l.length
  · have h1 := h hi
    obtain ⟨b0, o0, rfl, hc⟩ := hb (i + 1) hi
    have e1 : ((i : Int) + 1).toNat = i + 1 := by omega
    have t1 : ¬ (l.length : Int) ≤ (i : Int) + 1 := by omega
    have t2 : (i : Int) + 1 < (l.length : Int) := by omega
    have t3 : (0 : Int) ≤ (i : Int) + 1 := by omega
    have t4 : (1 : Int) < ((l[i + 1]).toNat : Int) := by omega
    clear h hb h1
    generalize ((l[i + 1]).toNat : Int) = B at hc t4
    go_enter Tryd.func50, Tryd.ntmps50
    go_wp2
    go_ret3
    exact ⟨rfl, rfl⟩
  · have t1 : (l.length : Int) ≤ (i : Int) + 1 := by omega
    clear hb hi h
    go_enter Tryd.func50, Tryd.ntmps50
    go_wp2
    go_ret3
    exact ⟨rfl, rfl⟩
set_option maxHeartbeats 2000000 in
set_option maxRecDepth 100000 in
theorem takev_bigW (a : Option Addr) (cap i : Nat) (l : List UInt8) (w : World) (hb : Byt w a l) (hn : a = none → cap = 0) (hc : l.length ≤ cap) (hm : cap ≤ 9223372036854775807) (hL : l.length ≤ 400000000000000) (hi : i < l.length) (hl : 4 ≤ (l[i]).toNat) :
    Calls Tryd.prog 34 #[.slice a l.length cap, .int .i64 (i : Int)] w fun e w' => e = .returned (.tuple #[.agg #[.int .i64 0, .int .i64 0, .string ⟨#[]⟩], .int .i64 0, .int .i64 20]) ∧ Below w.heap.size w w' := by
  have i0 : (0 : Int) ≤ (i : Int) := by omega
  have i1 : (i : Int) < (l.length : Int) := by omega
  have i2 : (i : Int) ≤ 9223372036854775000 := by omega
  have t1 : decide (l.length ≤ i) = false := decide_eq_false (by omega)
  have hX : Below w.heap.size w (w.alloc (Obj.cells #[Value.int IntKind.i64 0, Value.int IntKind.i64 0, Value.string { data := #[] }] 71)) := (Below.refl _ _).alloc (Nat.le_refl _) _
  obtain ⟨b0, o0, rfl, hce⟩ := hb i hi
  have hlt := World.block_lt_of_cell? w _ hce
  have c1 := (hX.cell (p := ⟨b0, o0 + i, none⟩) hlt).trans hce
  have hB : (4 : Int) ≤ ((l[i]).toNat : Int) := by omega
  have hB2 : ((l[i]).toNat : Int) < 256 := by have := (l[i]).toNat_lt; omega
  have hq0 : (((l[i]).toNat : Int) == 0) = false := by rw [beq_eq_false_iff_ne]; omega
  have hq1 : (((l[i]).toNat : Int) == 1) = false := by rw [beq_eq_false_iff_ne]; omega
  have hq2 : (((l[i]).toNat : Int) == 2) = false := by rw [beq_eq_false_iff_ne]; omega
  have hq3 : (((l[i]).toNat : Int) == 3) = false := by rw [beq_eq_false_iff_ne]; omega
  generalize ((l[i]).toNat : Int) = B at c1 hB hB2 hq0 hq1 hq2 hq3
  clear hb hX hce hl
  clear hm hL hc hn
  go_enter Tryd.func34, Tryd.ntmps34
  go_wp2
  exact bodyPost_ret (v := .tuple #[.agg #[.int .i64 0, .int .i64 0, .string ⟨#[]⟩], .int .i64 0, .int .i64 20]) (by simp [results, Tryd.results34, go_sem]) rfl ⟨rfl, by first | exact ((Below.refl w.heap.size w).alloc (Nat.le_refl _) _).alloc (by simp) _ | exact (Below.refl w.heap.size w).alloc (Nat.le_refl _) _⟩
set_option maxHeartbeats 2000000 in
set_option maxRecDepth 100000 in
theorem takev_nullW (a : Option Addr) (cap i : Nat) (l : List UInt8) (w : World) (hb : Byt w a l) (hn : a = none → cap = 0) (hc : l.length ≤ cap) (hm : cap ≤ 9223372036854775807) (hL : l.length ≤ 400000000000000) (hi : i < l.length) (hl : l[i] = 0) :
    Calls Tryd.prog 34 #[.slice a l.length cap, .int .i64 (i : Int)] w fun e w' => e = .returned (.tuple #[.agg #[.int .i64 0, .int .i64 0, .string ⟨#[]⟩], .int .i64 ((i : Int) + 1), .int .i64 0]) ∧ Below w.heap.size w w' := by
  have i0 : (0 : Int) ≤ (i : Int) := by omega
  have i1 : (i : Int) < (l.length : Int) := by omega
  have i2 : (i : Int) ≤ 9223372036854775000 := by omega
  have t1 : decide (l.length ≤ i) = false := decide_eq_false (by omega)
  have hX : Below w.heap.size w (w.alloc (Obj.cells #[Value.int IntKind.i64 0, Value.int IntKind.i64 0, Value.string { data := #[] }] 71)) := (Below.refl _ _).alloc (Nat.le_refl _) _
  obtain ⟨b0, o0, rfl, hce⟩ := hb i hi
  have hlt := World.block_lt_of_cell? w _ hce
  have c1 : (w.alloc (Obj.cells #[Value.int IntKind.i64 0, Value.int IntKind.i64 0, Value.string { data := #[] }] 71)).cell? ⟨b0, o0 + i, none⟩ = some (.int .u8 0) := (hX.cell (p := ⟨b0, o0 + i, none⟩) hlt).trans (by rw [hce, hl]; rfl)
  clear hb hX hce hl
  clear hm hL hc hn
  go_enter Tryd.func34, Tryd.ntmps34
  go_wp2
  exact bodyPost_ret (v := .tuple #[.agg #[.int .i64 0, .int .i64 0, .string ⟨#[]⟩], .int .i64 ((i : Int) + 1), .int .i64 0]) (by simp [results, Tryd.results34, go_sem]) rfl ⟨rfl, by first | exact ((Below.refl w.heap.size w).alloc (Nat.le_refl _) _).alloc (by simp) _ | exact (Below.refl w.heap.size w).alloc (Nat.le_refl _) _⟩


set_option maxHeartbeats 2000000 in
set_option maxRecDepth 100000 in
theorem takev_int0W (a : Option Addr) (cap i : Nat) (l : List UInt8) (w : World) (hb : Byt w a l) (hn : a = none → cap = 0) (hc : l.length ≤ cap) (hm : cap ≤ 9223372036854775807) (hL : l.length ≤ 400000000000000) (hi : i < l.length) (hl : l[i] = 1) (ht : takeO l ((i : Int) + 1) = none) :
    Calls Tryd.prog 34 #[.slice a l.length cap, .int .i64 (i : Int)] w fun e w' => e = .returned (.tuple #[.agg #[.int .i64 0, .int .i64 0, .string ⟨#[]⟩], .int .i64 0, .int .i64 20]) ∧ Below w.heap.size w w' := by
  have i0 : (0 : Int) ≤ (i : Int) := by omega
  have i1 : (i : Int) < (l.length : Int) := by omega
  have i2 : (i : Int) ≤ 9223372036854775000 := by omega
  have t1 : decide (l.length ≤ i) = false := decide_eq_false (by omega)
  have hX : Below w.heap.size w (w.alloc (Obj.cells #[Value.int IntKind.i64 0, Value.int IntKind.i64 0, Value.string { data := #[] }] 71)) := (Below.refl _ _).alloc (Nat.le_refl _) _
  obtain ⟨b0, o0, rfl, hce⟩ := hb i hi
  have hlt := World.block_lt_of_cell? w _ hce
  have c1 : (w.alloc (Obj.cells #[Value.int IntKind.i64 0, Value.int IntKind.i64 0, Value.string { data := #[] }] 71)).cell? ⟨b0, o0 + i, none⟩ = some (.int .u8 1) := (hX.cell (p := ⟨b0, o0 + i, none⟩) hlt).trans (by rw [hce, hl]; rfl)
  have hbY : Byt ((w.alloc (Obj.cells #[Value.int IntKind.i64 0, Value.int IntKind.i64 0, Value.string { data := #[] }] 71)).alloc (Obj.cells #[Value.int IntKind.i64 1, Value.int IntKind.i64 0, Value.string { data := #[] }] 71)) (some ⟨b0, o0, none⟩) l := (hb.keep hX).keep ((Below.refl _ _).alloc (Nat.le_refl _) _)
  have hsg := takesigned_anyW (some ⟨b0, o0, none⟩) cap ((i : Int) + 1) l ((w.alloc (Obj.cells #[Value.int IntKind.i64 0, Value.int IntKind.i64 0, Value.string { data := #[] }] 71)).alloc (Obj.cells #[Value.int IntKind.i64 1, Value.int IntKind.i64 0, Value.string { data := #[] }] 71)) hbY hc hm hL
  unfold TookS at hsg
  obtain ⟨h1, h2, h3⟩ := t_none ht
  have hu : unzig l ((i : Int) + 1) = 0 := by simp [unzig, ht]
  rw [hu, h2, h3] at hsg
  clear hb hX hce hl ht h1 h2 h3 hu hbY
  clear hm hL hc hn
  go_enter Tryd.func34, Tryd.ntmps34
  go_wp2_with (go_at_call 49; refine hsg.mono ?_; rintro e w9 ⟨rfl, rfl⟩)
  exact bodyPost_ret (v := .tuple #[.agg #[.int .i64 0, .int .i64 0, .string ⟨#[]⟩], .int .i64 0, .int .i64 20]) (by simp [results, Tryd.results34, go_sem]) rfl ⟨rfl, by first | exact ((Below.refl w.heap.size w).alloc (Nat.le_refl _) _).alloc (by simp) _ | exact (Below.refl w.heap.size w).alloc (Nat.le_refl _) _⟩
set_option maxHeartbeats 2000000 in
set_option maxRecDepth 100000 in
theorem takev_int1W (a : Option Addr) (cap i : Nat) (l : List UInt8) (w : World) (hb : Byt w a l) (hn : a = none → cap = 0) (hc : l.length ≤ cap) (hm : cap ≤ 9223372036854775807) (hL : l.length ≤ 400000000000000) (hi : i < l.length) (n c : Nat) (hl : l[i] = 1) (ht : takeO l ((i : Int) + 1) = some (n, c)) :
    Calls Tryd.prog 34 #[.slice a l.length cap, .int .i64 (i : Int)] w fun e w' => e = .returned (.tuple #[.agg #[.int .i64 1, .int .i64 (zag n), .string ⟨#[]⟩], .int .i64 ((i : Int) + 1 + c), .int .i64 0]) ∧ Below w.heap.size w w' := by
  have i0 : (0 : Int) ≤ (i : Int) := by omega
  have i1 : (i : Int) < (l.length : Int) := by omega
  have i2 : (i : Int) ≤ 9223372036854775000 := by omega
  have t1 : decide (l.length ≤ i) = false := decide_eq_false (by omega)
  have hX : Below w.heap.size w (w.alloc (Obj.cells #[Value.int IntKind.i64 0, Value.int IntKind.i64 0, Value.string { data := #[] }] 71)) := (Below.refl _ _).alloc (Nat.le_refl _) _
  obtain ⟨b0, o0, rfl, hce⟩ := hb i hi
  have hlt := World.block_lt_of_cell? w _ hce
  have c1 : (w.alloc (Obj.cells #[Value.int IntKind.i64 0, Value.int IntKind.i64 0, Value.string { data := #[] }] 71)).cell? ⟨b0, o0 + i, none⟩ = some (.int .u8 1) := (hX.cell (p := ⟨b0, o0 + i, none⟩) hlt).trans (by rw [hce, hl]; rfl)
  have hbY : Byt ((w.alloc (Obj.cells #[Value.int IntKind.i64 0, Value.int IntKind.i64 0, Value.string { data := #[] }] 71)).alloc (Obj.cells #[Value.int IntKind.i64 1, Value.int IntKind.i64 0, Value.string { data := #[] }] 71)) (some ⟨b0, o0, none⟩) l := (hb.keep hX).keep ((Below.refl _ _).alloc (Nat.le_refl _) _)
  have hsg := takesigned_anyW (some ⟨b0, o0, none⟩) cap ((i : Int) + 1) l ((w.alloc (Obj.cells #[Value.int IntKind.i64 0, Value.int IntKind.i64 0, Value.string { data := #[] }] 71)).alloc (Obj.cells #[Value.int IntKind.i64 1, Value.int IntKind.i64 0, Value.string { data := #[] }] 71)) hbY hc hm hL
  unfold TookS at hsg
  obtain ⟨h1, h2, h3⟩ := t_some ht
  have hu : unzig l ((i : Int) + 1) = zag n := by simp [unzig, ht]
  rw [hu, h2, h3] at hsg
  generalize zag n = z at hsg ⊢
  generalize (i : Int) + 1 + (c : Int) = q at hsg ⊢
  clear hb hX hce hl ht h1 h2 h3 hu hbY
  clear hm hL hc hn
  go_enter Tryd.func34, Tryd.ntmps34
  go_wp2_with (go_at_call 49; refine hsg.mono ?_; rintro e w9 ⟨rfl, rfl⟩)
  exact bodyPost_ret (v := .tuple #[.agg #[.int .i64 1, .int .i64 z, .string ⟨#[]⟩], .int .i64 q, .int .i64 0]) (by simp [results, Tryd.results34, go_sem]) rfl ⟨rfl, by first | exact ((Below.refl w.heap.size w).alloc (Nat.le_refl _) _).alloc (by simp) _ | exact (Below.refl w.heap.size w).alloc (Nat.le_refl _) _⟩
set_option maxHeartbeats 2000000 in
set_option maxRecDepth 100000 in
theorem takev_text0W (a : Option Addr) (cap i : Nat) (l : List UInt8) (w : World) (hb : Byt w a l) (hn : a = none → cap = 0) (hc : l.length ≤ cap) (hm : cap ≤ 9223372036854775807) (hL : l.length ≤ 400000000000000) (hi : i < l.length) (hl : l[i] = 3) (ht : textO l ((i : Int) + 1) 1024 = none) :
    Calls Tryd.prog 34 #[.slice a l.length cap, .int .i64 (i : Int)] w fun e w' => e = .returned (.tuple #[.agg #[.int .i64 0, .int .i64 0, .string ⟨#[]⟩], .int .i64 0, .int .i64 20]) ∧ Below w.heap.size w w' := by
  have i0 : (0 : Int) ≤ (i : Int) := by omega
  have i1 : (i : Int) < (l.length : Int) := by omega
  have i2 : (i : Int) ≤ 9223372036854775000 := by omega
  have t1 : decide (l.length ≤ i) = false := decide_eq_false (by omega)
  have hX : Below w.heap.size w (w.alloc (Obj.cells #[Value.int IntKind.i64 0, Value.int IntKind.i64 0, Value.string { data := #[] }] 71)) := (Below.refl _ _).alloc (Nat.le_refl _) _
  obtain ⟨b0, o0, rfl, hce⟩ := hb i hi
  have hlt := World.block_lt_of_cell? w _ hce
  have c1 : (w.alloc (Obj.cells #[Value.int IntKind.i64 0, Value.int IntKind.i64 0, Value.string { data := #[] }] 71)).cell? ⟨b0, o0 + i, none⟩ = some (.int .u8 3) := (hX.cell (p := ⟨b0, o0 + i, none⟩) hlt).trans (by rw [hce, hl]; rfl)
  have hbY : Byt ((w.alloc (Obj.cells #[Value.int IntKind.i64 0, Value.int IntKind.i64 0, Value.string { data := #[] }] 71)).alloc (Obj.cells #[Value.int IntKind.i64 3, Value.int IntKind.i64 0, Value.string { data := #[] }] 71)) (some ⟨b0, o0, none⟩) l := (hb.keep hX).keep ((Below.refl _ _).alloc (Nat.le_refl _) _)
  have hsg := taketext_anyW (some ⟨b0, o0, none⟩) cap ((i : Int) + 1) 1024 l ((w.alloc (Obj.cells #[Value.int IntKind.i64 0, Value.int IntKind.i64 0, Value.string { data := #[] }] 71)).alloc (Obj.cells #[Value.int IntKind.i64 3, Value.int IntKind.i64 0, Value.string { data := #[] }] 71)) hbY (by simp) hc hm hL
  unfold TookT at hsg
  have h1 : txS l ((i : Int) + 1) 1024 = ⟨#[]⟩ := by simp [txS, ht]; rfl
  have h2 : txP l ((i : Int) + 1) 1024 = 0 := by simp [txP, ht]
  have h3 : txE l ((i : Int) + 1) 1024 = 20 := by simp [txE, ht]
  rw [h1, h2, h3] at hsg
  clear hb hX hce hl ht h1 h2 h3 hbY
  clear hm hL hc hn
  go_enter Tryd.func34, Tryd.ntmps34
  go_wp2_with (go_at_call 46; refine hsg.mono ?_; rintro e w9 ⟨rfl, rfl⟩)
  exact bodyPost_ret (v := .tuple #[.agg #[.int .i64 0, .int .i64 0, .string ⟨#[]⟩], .int .i64 0, .int .i64 20]) (by simp [results, Tryd.results34, go_sem]) rfl ⟨rfl, by first | exact ((Below.refl w.heap.size w).alloc (Nat.le_refl _) _).alloc (by simp) _ | exact (Below.refl w.heap.size w).alloc (Nat.le_refl _) _⟩
set_option maxHeartbeats 2000000 in
set_option maxRecDepth 100000 in
theorem takev_text1W (a : Option Addr) (cap i : Nat) (l : List UInt8) (w : World) (hb : Byt w a l) (hn : a = none → cap = 0) (hc : l.length ≤ cap) (hm : cap ≤ 9223372036854775807) (hL : l.length ≤ 400000000000000) (hi : i < l.length) (u : List UInt8) (p : Int) (hl : l[i] = 3) (ht : textO l ((i : Int) + 1) 1024 = some (u, p)) :
    Calls Tryd.prog 34 #[.slice a l.length cap, .int .i64 (i : Int)] w fun e w' => e = .returned (.tuple #[.agg #[.int .i64 3, .int .i64 0, .string (str u)], .int .i64 p, .int .i64 0]) ∧ Below w.heap.size w w' := by
  have i0 : (0 : Int) ≤ (i : Int) := by omega
  have i1 : (i : Int) < (l.length : Int) := by omega
  have i2 : (i : Int) ≤ 9223372036854775000 := by omega
  have t1 : decide (l.length ≤ i) = false := decide_eq_false (by omega)
  have hX : Below w.heap.size w (w.alloc (Obj.cells #[Value.int IntKind.i64 0, Value.int IntKind.i64 0, Value.string { data := #[] }] 71)) := (Below.refl _ _).alloc (Nat.le_refl _) _
  obtain ⟨b0, o0, rfl, hce⟩ := hb i hi
  have hlt := World.block_lt_of_cell? w _ hce
  have c1 : (w.alloc (Obj.cells #[Value.int IntKind.i64 0, Value.int IntKind.i64 0, Value.string { data := #[] }] 71)).cell? ⟨b0, o0 + i, none⟩ = some (.int .u8 3) := (hX.cell (p := ⟨b0, o0 + i, none⟩) hlt).trans (by rw [hce, hl]; rfl)
  have hbY : Byt ((w.alloc (Obj.cells #[Value.int IntKind.i64 0, Value.int IntKind.i64 0, Value.string { data := #[] }] 71)).alloc (Obj.cells #[Value.int IntKind.i64 3, Value.int IntKind.i64 0, Value.string { data := #[] }] 71)) (some ⟨b0, o0, none⟩) l := (hb.keep hX).keep ((Below.refl _ _).alloc (Nat.le_refl _) _)
  have hsg := taketext_anyW (some ⟨b0, o0, none⟩) cap ((i : Int) + 1) 1024 l ((w.alloc (Obj.cells #[Value.int IntKind.i64 0, Value.int IntKind.i64 0, Value.string { data := #[] }] 71)).alloc (Obj.cells #[Value.int IntKind.i64 3, Value.int IntKind.i64 0, Value.string { data := #[] }] 71)) hbY (by simp) hc hm hL
  unfold TookT at hsg
  have h1 : txS l ((i : Int) + 1) 1024 = str u := by simp [txS, ht]
  have h2 : txP l ((i : Int) + 1) 1024 = p := by simp [txP, ht]
  have h3 : txE l ((i : Int) + 1) 1024 = 0 := by simp [txE, ht]
  rw [h1, h2, h3] at hsg
  generalize str u = s at hsg ⊢
  clear hb hX hce hl ht h1 h2 h3 hbY
  clear hm hL hc hn
  go_enter Tryd.func34, Tryd.ntmps34
  go_wp2_with (go_at_call 46; refine hsg.mono ?_; rintro e w9 ⟨rfl, rfl⟩)
  exact bodyPost_ret (v := .tuple #[.agg #[.int .i64 3, .int .i64 0, .string s], .int .i64 p, .int .i64 0]) (by simp [results, Tryd.results34, go_sem]) rfl ⟨rfl, by first | exact ((Below.refl w.heap.size w).alloc (Nat.le_refl _) _).alloc (by simp) _ | exact (Below.refl w.heap.size w).alloc (Nat.le_refl _) _⟩
set_option maxHeartbeats 2000000 in
set_option maxRecDepth 100000 in
theorem takev_bool1W (a : Option Addr) (cap i : Nat) (l : List UInt8) (w : World) (hb : Byt w a l) (hn : a = none → cap = 0) (hc : l.length ≤ cap) (hm : cap ≤ 9223372036854775807) (hL : l.length ≤ 400000000000000) (hi : i < l.length) (hl : l[i] = 2) (hi1 : i + 1 < l.length) (h1 : (l[i + 1]).toNat ≤ 1) :
    Calls Tryd.prog 34 #[.slice a l.length cap, .int .i64 (i : Int)] w fun e w' => e = .returned (.tuple #[.agg #[.int .i64 2, .int .i64 ((l[i + 1]).toNat : Int), .string ⟨#[]⟩], .int .i64 ((i : Int) + 1 + 1), .int .i64 0]) ∧ Below w.heap.size w w' := by
  have i0 : (0 : Int) ≤ (i : Int) := by omega
  have i1 : (i : Int) < (l.length : Int) := by omega
  have i2 : (i : Int) ≤ 9223372036854775000 := by omega
  have t1 : decide (l.length ≤ i) = false := decide_eq_false (by omega)
  have hX : Below w.heap.size w (w.alloc (Obj.cells #[Value.int IntKind.i64 0, Value.int IntKind.i64 0, Value.string { data := #[] }] 71)) := (Below.refl _ _).alloc (Nat.le_refl _) _
  obtain ⟨b0, o0, rfl, hce⟩ := hb i hi
  have hlt := World.block_lt_of_cell? w _ hce
  have c1 : (w.alloc (Obj.cells #[Value.int IntKind.i64 0, Value.int IntKind.i64 0, Value.string { data := #[] }] 71)).cell? ⟨b0, o0 + i, none⟩ = some (.int .u8 2) := (hX.cell (p := ⟨b0, o0 + i, none⟩) hlt).trans (by rw [hce, hl]; rfl)
  have hbY : Byt ((w.alloc (Obj.cells #[Value.int IntKind.i64 0, Value.int IntKind.i64 0, Value.string { data := #[] }] 71)).alloc (Obj.cells #[Value.int IntKind.i64 2, Value.int IntKind.i64 0, Value.string { data := #[] }] 71)) (some ⟨b0, o0, none⟩) l := (hb.keep hX).keep ((Below.refl _ _).alloc (Nat.le_refl _) _)
  have hsg := truth_yesW (some ⟨b0, o0, none⟩) cap i l ((w.alloc (Obj.cells #[Value.int IntKind.i64 0, Value.int IntKind.i64 0, Value.string { data := #[] }] 71)).alloc (Obj.cells #[Value.int IntKind.i64 2, Value.int IntKind.i64 0, Value.string { data := #[] }] 71)) hbY (by omega) hi1 h1
  generalize ((l[i + 1]).toNat : Int) = B at hsg ⊢
  clear hb hX hce hl h1 hi1 hbY
  clear hm hL hc hn
  go_enter Tryd.func34, Tryd.ntmps34
  go_wp2_with (go_at_call 50; refine hsg.mono ?_; rintro e w9 ⟨rfl, rfl⟩)
  exact bodyPost_ret (v := .tuple #[.agg #[.int .i64 2, .int .i64 B, .string ⟨#[]⟩], .int .i64 ((i : Int) + 1 + 1), .int .i64 0]) (by simp [results, Tryd.results34, go_sem]) rfl ⟨rfl, by first | exact ((Below.refl w.heap.size w).alloc (Nat.le_refl _) _).alloc (by simp) _ | exact (Below.refl w.heap.size w).alloc (Nat.le_refl _) _⟩
set_option maxHeartbeats 2000000 in
set_option maxRecDepth 100000 in
theorem takev_bool0W (a : Option Addr) (cap i : Nat) (l : List UInt8) (w : World) (hb : Byt w a l) (hn : a = none → cap = 0) (hc : l.length ≤ cap) (hm : cap ≤ 9223372036854775807) (hL : l.length ≤ 400000000000000) (hi : i < l.length) (hl : l[i] = 2) (h1 : ∀ hi : i + 1 < l.length, 1 < (l[i + 1]).toNat) :
    Calls Tryd.prog 34 #[.slice a l.length cap, .int .i64 (i : Int)] w fun e w' => e = .returned (.tuple #[.agg #[.int .i64 0, .int .i64 0, .string ⟨#[]⟩], .int .i64 0, .int .i64 20]) ∧ Below w.heap.size w w' := by
  have i0 : (0 : Int) ≤ (i : Int) := by omega
  have i1 : (i : Int) < (l.length : Int) := by omega
  have i2 : (i : Int) ≤ 9223372036854775000 := by omega
  have t1 : decide (l.length ≤ i) = false := decide_eq_false (by omega)
  have hX : Below w.heap.size w (w.alloc (Obj.cells #[Value.int IntKind.i64 0, Value.int IntKind.i64 0, Value.string { data := #[] }] 71)) := (Below.refl _ _).alloc (Nat.le_refl _) _
  obtain ⟨b0, o0, rfl, hce⟩ := hb i hi
  have hlt := World.block_lt_of_cell? w _ hce
  have c1 : (w.alloc (Obj.cells #[Value.int IntKind.i64 0, Value.int IntKind.i64 0, Value.string { data := #[] }] 71)).cell? ⟨b0, o0 + i, none⟩ = some (.int .u8 2) := (hX.cell (p := ⟨b0, o0 + i, none⟩) hlt).trans (by rw [hce, hl]; rfl)
  have hbY : Byt ((w.alloc (Obj.cells #[Value.int IntKind.i64 0, Value.int IntKind.i64 0, Value.string { data := #[] }] 71)).alloc (Obj.cells #[Value.int IntKind.i64 2, Value.int IntKind.i64 0, Value.string { data := #[] }] 71)) (some ⟨b0, o0, none⟩) l := (hb.keep hX).keep ((Below.refl _ _).alloc (Nat.le_refl _) _)
  have hsg := truth_noW (some ⟨b0, o0, none⟩) cap i l ((w.alloc (Obj.cells #[Value.int IntKind.i64 0, Value.int IntKind.i64 0, Value.string { data := #[] }] 71)).alloc (Obj.cells #[Value.int IntKind.i64 2, Value.int IntKind.i64 0, Value.string { data := #[] }] 71)) hbY (by omega) (by omega) h1
  clear hb hX hce hl h1 hbY
  clear hm hL hc hn
  go_enter Tryd.func34, Tryd.ntmps34
  go_wp2_with (go_at_call 50; refine hsg.mono ?_; rintro e w9 ⟨rfl, rfl⟩)
  exact bodyPost_ret (v := .tuple #[.agg #[.int .i64 0, .int .i64 0, .string ⟨#[]⟩], .int .i64 0, .int .i64 20]) (by simp [results, Tryd.results34, go_sem]) rfl ⟨rfl, by first | exact ((Below.refl w.heap.size w).alloc (Nat.le_refl _) _).alloc (by simp) _ | exact (Below.refl w.heap.size w).alloc (Nat.le_refl _) _⟩

theorem takev_anyW (a : Option Addr) (cap : Nat) (at_ : Int) (l : List UInt8) (w : World) (hb : Byt w a l) (hn : a = none → cap = 0) (hc : l.length ≤ cap) (hm : cap ≤ 9223372036854775807) (hL : l.length ≤ 400000000000000) :
    Calls Tryd.prog 34 #[.slice a l.length cap, .int .i64 at_] w (TookV w l at_) := by
  by_cases hin : 0 ≤ at_ ∧ at_ < l.length
  · obtain ⟨i, rfl⟩ := Int.eq_ofNat_of_zero_le hin.1
    have hi : i < l.length := by omega
    have hv := valO_in hi
    unfold TookV
    by_cases h0 : l[i] = 0
    · rw [h0] at hv; rw [valR_some hv]
      exact takev_nullW a cap i l w hb hn hc hm hL hi h0
    by_cases h1 : l[i] = 1
    · rw [h1] at hv
      cases ht : takeO l ((i : Int) + 1) with
      | none => simp only [ht] at hv; rw [valR_none hv]; exact takev_int0W a cap i l w hb hn hc hm hL hi h1 ht
      | some p => obtain ⟨n, c⟩ := p; simp only [ht] at hv; rw [valR_some hv]; exact takev_int1W a cap i l w hb hn hc hm hL hi n c h1 ht
    by_cases h2 : l[i] = 2
    · rw [h2] at hv
      by_cases hi1 : i + 1 < l.length
      · simp only [List.getElem?_eq_getElem hi1] at hv
        by_cases hle : (l[i + 1]).toNat ≤ 1
        · rw [if_pos hle] at hv; rw [valR_some hv]; exact takev_bool1W a cap i l w hb hn hc hm hL hi h2 hi1 hle
        · rw [if_neg hle] at hv; rw [valR_none hv]; exact takev_bool0W a cap i l w hb hn hc hm hL hi h2 (fun _ => by omega)
      · simp only [List.getElem?_eq_none (by omega : l.length ≤ i + 1)] at hv
        rw [valR_none hv]; exact takev_bool0W a cap i l w hb hn hc hm hL hi h2 (fun h => absurd h hi1)
    by_cases h3 : l[i] = 3
    · rw [h3] at hv
      cases ht : textO l ((i : Int) + 1) 1024 with
      | none => simp only [ht] at hv; rw [valR_none hv]; exact takev_text0W a cap i l w hb hn hc hm hL hi h3 ht
      | some p => obtain ⟨u, p⟩ := p; simp only [ht] at hv; rw [valR_some hv]; exact takev_text1W a cap i l w hb hn hc hm hL hi u p h3 ht
    · have h4 : 4 ≤ (l[i]).toNat := by
        have g0 : (l[i]).toNat ≠ 0 := fun e => h0 (UInt8.toNat_inj.1 e)
        have g1 : (l[i]).toNat ≠ 1 := fun e => h1 (UInt8.toNat_inj.1 e)
        have g2 : (l[i]).toNat ≠ 2 := fun e => h2 (UInt8.toNat_inj.1 e)
        have g3 : (l[i]).toNat ≠ 3 := fun e => h3 (UInt8.toNat_inj.1 e)
        omega
      have hv' : valO l (i : Int) = none := by
        rw [hv]
        split <;> first | rfl | (rename_i e; simp only [Option.some.injEq] at e; first | exact absurd e h0 | exact absurd e h1 | exact absurd e h2 | exact absurd e h3)
      rw [valR_none hv']
      exact takev_bigW a cap i l w hb hn hc hm hL hi h4
  · exact takev_out a cap at_ l w (by omega)
end Go.Proofs.YtabnjiepmhblaaaDoor.V4
