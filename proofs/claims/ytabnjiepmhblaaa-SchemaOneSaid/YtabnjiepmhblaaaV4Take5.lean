/- The walks of value.Take (16) and the document's Take (17) on numbers, truths and texts. -/
import Derived.Test.YtabnjiepmhblaaaV4Take4
namespace Go.Proofs.Ytabnjiepmhblaaa.V4
open Go.RowKit
set_option linter.unusedVariables false


set_option maxHeartbeats 2000000 in
set_option maxRecDepth 100000 in
theorem takev_int0 (a : Option Addr) (cap i : Nat) (l : List UInt8) (w : World) (hb : Byt w a l) (hn : a = none → cap = 0) (hc : l.length ≤ cap) (hm : cap ≤ 140737488351232) (hi : i < l.length) (hl : l[i] = 1) (ht : takeO l ((i : Int) + 1) = none) :
    Calls Try.prog 46 #[.slice a l.length cap, .int .i64 (i : Int)] w fun e w' => e = .returned (.tuple #[.agg #[.int .i64 0, .int .i64 0, .string ⟨#[]⟩], .int .i64 0, .int .i64 20]) ∧ Below w.heap.size w w' := by
  have i0 : (0 : Int) ≤ (i : Int) := by omega
  have i1 : (i : Int) < (l.length : Int) := by omega
  have i2 : (i : Int) ≤ 9223372036854775000 := by omega
  have t1 : decide (l.length ≤ i) = false := decide_eq_false (by omega)
  have hX : Below w.heap.size w (w.alloc (Obj.cells #[Value.int IntKind.i64 0, Value.int IntKind.i64 0, Value.string { data := #[] }] 58)) := (Below.refl _ _).alloc (Nat.le_refl _) _
  obtain ⟨b0, o0, rfl, hce⟩ := hb i hi
  have hlt := World.block_lt_of_cell? w _ hce
  have c1 : (w.alloc (Obj.cells #[Value.int IntKind.i64 0, Value.int IntKind.i64 0, Value.string { data := #[] }] 58)).cell? ⟨b0, o0 + i, none⟩ = some (.int .u8 1) := (hX.cell (p := ⟨b0, o0 + i, none⟩) hlt).trans (by rw [hce, hl]; rfl)
  have hbY : Byt ((w.alloc (Obj.cells #[Value.int IntKind.i64 0, Value.int IntKind.i64 0, Value.string { data := #[] }] 58)).alloc (Obj.cells #[Value.int IntKind.i64 1, Value.int IntKind.i64 0, Value.string { data := #[] }] 58)) (some ⟨b0, o0, none⟩) l := (hb.keep hX).keep ((Below.refl _ _).alloc (Nat.le_refl _) _)
  have hsg := takesigned_any (some ⟨b0, o0, none⟩) cap ((i : Int) + 1) l ((w.alloc (Obj.cells #[Value.int IntKind.i64 0, Value.int IntKind.i64 0, Value.string { data := #[] }] 58)).alloc (Obj.cells #[Value.int IntKind.i64 1, Value.int IntKind.i64 0, Value.string { data := #[] }] 58)) hbY hc hm
  unfold TookS at hsg
  obtain ⟨h1, h2, h3⟩ := t_none ht
  have hu : unzig l ((i : Int) + 1) = 0 := by simp [unzig, ht]
  rw [hu, h2, h3] at hsg
  clear hb hX hce hl ht h1 h2 h3 hu hbY
  clear hm hc hn
  go_enter Try.func46, Try.ntmps46
  go_wp2_with (go_at_call 57; refine hsg.mono ?_; rintro e w9 ⟨rfl, rfl⟩)
  exact bodyPost_ret (v := .tuple #[.agg #[.int .i64 0, .int .i64 0, .string ⟨#[]⟩], .int .i64 0, .int .i64 20]) (by simp [results, Try.results46, go_sem]) rfl ⟨rfl, by first | exact ((Below.refl w.heap.size w).alloc (Nat.le_refl _) _).alloc (by simp) _ | exact (Below.refl w.heap.size w).alloc (Nat.le_refl _) _⟩

set_option maxHeartbeats 2000000 in
set_option maxRecDepth 100000 in
theorem takev_int1 (a : Option Addr) (cap i : Nat) (l : List UInt8) (w : World) (hb : Byt w a l) (hn : a = none → cap = 0) (hc : l.length ≤ cap) (hm : cap ≤ 140737488351232) (hi : i < l.length) (n c : Nat) (hl : l[i] = 1) (ht : takeO l ((i : Int) + 1) = some (n, c)) :
    Calls Try.prog 46 #[.slice a l.length cap, .int .i64 (i : Int)] w fun e w' => e = .returned (.tuple #[.agg #[.int .i64 1, .int .i64 (zag n), .string ⟨#[]⟩], .int .i64 ((i : Int) + 1 + c), .int .i64 0]) ∧ Below w.heap.size w w' := by
  have i0 : (0 : Int) ≤ (i : Int) := by omega
  have i1 : (i : Int) < (l.length : Int) := by omega
  have i2 : (i : Int) ≤ 9223372036854775000 := by omega
  have t1 : decide (l.length ≤ i) = false := decide_eq_false (by omega)
  have hX : Below w.heap.size w (w.alloc (Obj.cells #[Value.int IntKind.i64 0, Value.int IntKind.i64 0, Value.string { data := #[] }] 58)) := (Below.refl _ _).alloc (Nat.le_refl _) _
  obtain ⟨b0, o0, rfl, hce⟩ := hb i hi
  have hlt := World.block_lt_of_cell? w _ hce
  have c1 : (w.alloc (Obj.cells #[Value.int IntKind.i64 0, Value.int IntKind.i64 0, Value.string { data := #[] }] 58)).cell? ⟨b0, o0 + i, none⟩ = some (.int .u8 1) := (hX.cell (p := ⟨b0, o0 + i, none⟩) hlt).trans (by rw [hce, hl]; rfl)
  have hbY : Byt ((w.alloc (Obj.cells #[Value.int IntKind.i64 0, Value.int IntKind.i64 0, Value.string { data := #[] }] 58)).alloc (Obj.cells #[Value.int IntKind.i64 1, Value.int IntKind.i64 0, Value.string { data := #[] }] 58)) (some ⟨b0, o0, none⟩) l := (hb.keep hX).keep ((Below.refl _ _).alloc (Nat.le_refl _) _)
  have hsg := takesigned_any (some ⟨b0, o0, none⟩) cap ((i : Int) + 1) l ((w.alloc (Obj.cells #[Value.int IntKind.i64 0, Value.int IntKind.i64 0, Value.string { data := #[] }] 58)).alloc (Obj.cells #[Value.int IntKind.i64 1, Value.int IntKind.i64 0, Value.string { data := #[] }] 58)) hbY hc hm
  unfold TookS at hsg
  obtain ⟨h1, h2, h3⟩ := t_some ht
  have hu : unzig l ((i : Int) + 1) = zag n := by simp [unzig, ht]
  rw [hu, h2, h3] at hsg
  generalize zag n = z at hsg ⊢
  generalize (i : Int) + 1 + (c : Int) = q at hsg ⊢
  clear hb hX hce hl ht h1 h2 h3 hu hbY
  clear hm hc hn
  go_enter Try.func46, Try.ntmps46
  go_wp2_with (go_at_call 57; refine hsg.mono ?_; rintro e w9 ⟨rfl, rfl⟩)
  exact bodyPost_ret (v := .tuple #[.agg #[.int .i64 1, .int .i64 z, .string ⟨#[]⟩], .int .i64 q, .int .i64 0]) (by simp [results, Try.results46, go_sem]) rfl ⟨rfl, by first | exact ((Below.refl w.heap.size w).alloc (Nat.le_refl _) _).alloc (by simp) _ | exact (Below.refl w.heap.size w).alloc (Nat.le_refl _) _⟩

set_option maxHeartbeats 2000000 in
set_option maxRecDepth 100000 in
theorem takev_text0 (a : Option Addr) (cap i : Nat) (l : List UInt8) (w : World) (hb : Byt w a l) (hn : a = none → cap = 0) (hc : l.length ≤ cap) (hm : cap ≤ 140737488351232) (hi : i < l.length) (hl : l[i] = 3) (ht : textO l ((i : Int) + 1) 1024 = none) :
    Calls Try.prog 46 #[.slice a l.length cap, .int .i64 (i : Int)] w fun e w' => e = .returned (.tuple #[.agg #[.int .i64 0, .int .i64 0, .string ⟨#[]⟩], .int .i64 0, .int .i64 20]) ∧ Below w.heap.size w w' := by
  have i0 : (0 : Int) ≤ (i : Int) := by omega
  have i1 : (i : Int) < (l.length : Int) := by omega
  have i2 : (i : Int) ≤ 9223372036854775000 := by omega
  have t1 : decide (l.length ≤ i) = false := decide_eq_false (by omega)
  have hX : Below w.heap.size w (w.alloc (Obj.cells #[Value.int IntKind.i64 0, Value.int IntKind.i64 0, Value.string { data := #[] }] 58)) := (Below.refl _ _).alloc (Nat.le_refl _) _
  obtain ⟨b0, o0, rfl, hce⟩ := hb i hi
  have hlt := World.block_lt_of_cell? w _ hce
  have c1 : (w.alloc (Obj.cells #[Value.int IntKind.i64 0, Value.int IntKind.i64 0, Value.string { data := #[] }] 58)).cell? ⟨b0, o0 + i, none⟩ = some (.int .u8 3) := (hX.cell (p := ⟨b0, o0 + i, none⟩) hlt).trans (by rw [hce, hl]; rfl)
  have hbY : Byt ((w.alloc (Obj.cells #[Value.int IntKind.i64 0, Value.int IntKind.i64 0, Value.string { data := #[] }] 58)).alloc (Obj.cells #[Value.int IntKind.i64 3, Value.int IntKind.i64 0, Value.string { data := #[] }] 58)) (some ⟨b0, o0, none⟩) l := (hb.keep hX).keep ((Below.refl _ _).alloc (Nat.le_refl _) _)
  have hsg := taketext_any (some ⟨b0, o0, none⟩) cap ((i : Int) + 1) 1024 l ((w.alloc (Obj.cells #[Value.int IntKind.i64 0, Value.int IntKind.i64 0, Value.string { data := #[] }] 58)).alloc (Obj.cells #[Value.int IntKind.i64 3, Value.int IntKind.i64 0, Value.string { data := #[] }] 58)) hbY (by simp) hc hm
  unfold TookT at hsg
  have h1 : txS l ((i : Int) + 1) 1024 = ⟨#[]⟩ := by simp [txS, ht]; rfl
  have h2 : txP l ((i : Int) + 1) 1024 = 0 := by simp [txP, ht]
  have h3 : txE l ((i : Int) + 1) 1024 = 20 := by simp [txE, ht]
  rw [h1, h2, h3] at hsg
  clear hb hX hce hl ht h1 h2 h3 hbY
  clear hm hc hn
  go_enter Try.func46, Try.ntmps46
  go_wp2_with (go_at_call 54; refine hsg.mono ?_; rintro e w9 ⟨rfl, rfl⟩)
  exact bodyPost_ret (v := .tuple #[.agg #[.int .i64 0, .int .i64 0, .string ⟨#[]⟩], .int .i64 0, .int .i64 20]) (by simp [results, Try.results46, go_sem]) rfl ⟨rfl, by first | exact ((Below.refl w.heap.size w).alloc (Nat.le_refl _) _).alloc (by simp) _ | exact (Below.refl w.heap.size w).alloc (Nat.le_refl _) _⟩

set_option maxHeartbeats 2000000 in
set_option maxRecDepth 100000 in
theorem takev_text1 (a : Option Addr) (cap i : Nat) (l : List UInt8) (w : World) (hb : Byt w a l) (hn : a = none → cap = 0) (hc : l.length ≤ cap) (hm : cap ≤ 140737488351232) (hi : i < l.length) (u : List UInt8) (p : Int) (hl : l[i] = 3) (ht : textO l ((i : Int) + 1) 1024 = some (u, p)) :
    Calls Try.prog 46 #[.slice a l.length cap, .int .i64 (i : Int)] w fun e w' => e = .returned (.tuple #[.agg #[.int .i64 3, .int .i64 0, .string (str u)], .int .i64 p, .int .i64 0]) ∧ Below w.heap.size w w' := by
  have i0 : (0 : Int) ≤ (i : Int) := by omega
  have i1 : (i : Int) < (l.length : Int) := by omega
  have i2 : (i : Int) ≤ 9223372036854775000 := by omega
  have t1 : decide (l.length ≤ i) = false := decide_eq_false (by omega)
  have hX : Below w.heap.size w (w.alloc (Obj.cells #[Value.int IntKind.i64 0, Value.int IntKind.i64 0, Value.string { data := #[] }] 58)) := (Below.refl _ _).alloc (Nat.le_refl _) _
  obtain ⟨b0, o0, rfl, hce⟩ := hb i hi
  have hlt := World.block_lt_of_cell? w _ hce
  have c1 : (w.alloc (Obj.cells #[Value.int IntKind.i64 0, Value.int IntKind.i64 0, Value.string { data := #[] }] 58)).cell? ⟨b0, o0 + i, none⟩ = some (.int .u8 3) := (hX.cell (p := ⟨b0, o0 + i, none⟩) hlt).trans (by rw [hce, hl]; rfl)
  have hbY : Byt ((w.alloc (Obj.cells #[Value.int IntKind.i64 0, Value.int IntKind.i64 0, Value.string { data := #[] }] 58)).alloc (Obj.cells #[Value.int IntKind.i64 3, Value.int IntKind.i64 0, Value.string { data := #[] }] 58)) (some ⟨b0, o0, none⟩) l := (hb.keep hX).keep ((Below.refl _ _).alloc (Nat.le_refl _) _)
  have hsg := taketext_any (some ⟨b0, o0, none⟩) cap ((i : Int) + 1) 1024 l ((w.alloc (Obj.cells #[Value.int IntKind.i64 0, Value.int IntKind.i64 0, Value.string { data := #[] }] 58)).alloc (Obj.cells #[Value.int IntKind.i64 3, Value.int IntKind.i64 0, Value.string { data := #[] }] 58)) hbY (by simp) hc hm
  unfold TookT at hsg
  have h1 : txS l ((i : Int) + 1) 1024 = str u := by simp [txS, ht]
  have h2 : txP l ((i : Int) + 1) 1024 = p := by simp [txP, ht]
  have h3 : txE l ((i : Int) + 1) 1024 = 0 := by simp [txE, ht]
  rw [h1, h2, h3] at hsg
  generalize str u = s at hsg ⊢
  clear hb hX hce hl ht h1 h2 h3 hbY
  clear hm hc hn
  go_enter Try.func46, Try.ntmps46
  go_wp2_with (go_at_call 54; refine hsg.mono ?_; rintro e w9 ⟨rfl, rfl⟩)
  exact bodyPost_ret (v := .tuple #[.agg #[.int .i64 3, .int .i64 0, .string s], .int .i64 p, .int .i64 0]) (by simp [results, Try.results46, go_sem]) rfl ⟨rfl, by first | exact ((Below.refl w.heap.size w).alloc (Nat.le_refl _) _).alloc (by simp) _ | exact (Below.refl w.heap.size w).alloc (Nat.le_refl _) _⟩

set_option maxHeartbeats 2000000 in
set_option maxRecDepth 100000 in
theorem takev_bool1 (a : Option Addr) (cap i : Nat) (l : List UInt8) (w : World) (hb : Byt w a l) (hn : a = none → cap = 0) (hc : l.length ≤ cap) (hm : cap ≤ 140737488351232) (hi : i < l.length) (hl : l[i] = 2) (hi1 : i + 1 < l.length) (h1 : (l[i + 1]).toNat ≤ 1) :
    Calls Try.prog 46 #[.slice a l.length cap, .int .i64 (i : Int)] w fun e w' => e = .returned (.tuple #[.agg #[.int .i64 2, .int .i64 ((l[i + 1]).toNat : Int), .string ⟨#[]⟩], .int .i64 ((i : Int) + 1 + 1), .int .i64 0]) ∧ Below w.heap.size w w' := by
  have i0 : (0 : Int) ≤ (i : Int) := by omega
  have i1 : (i : Int) < (l.length : Int) := by omega
  have i2 : (i : Int) ≤ 9223372036854775000 := by omega
  have t1 : decide (l.length ≤ i) = false := decide_eq_false (by omega)
  have hX : Below w.heap.size w (w.alloc (Obj.cells #[Value.int IntKind.i64 0, Value.int IntKind.i64 0, Value.string { data := #[] }] 58)) := (Below.refl _ _).alloc (Nat.le_refl _) _
  obtain ⟨b0, o0, rfl, hce⟩ := hb i hi
  have hlt := World.block_lt_of_cell? w _ hce
  have c1 : (w.alloc (Obj.cells #[Value.int IntKind.i64 0, Value.int IntKind.i64 0, Value.string { data := #[] }] 58)).cell? ⟨b0, o0 + i, none⟩ = some (.int .u8 2) := (hX.cell (p := ⟨b0, o0 + i, none⟩) hlt).trans (by rw [hce, hl]; rfl)
  have hbY : Byt ((w.alloc (Obj.cells #[Value.int IntKind.i64 0, Value.int IntKind.i64 0, Value.string { data := #[] }] 58)).alloc (Obj.cells #[Value.int IntKind.i64 2, Value.int IntKind.i64 0, Value.string { data := #[] }] 58)) (some ⟨b0, o0, none⟩) l := (hb.keep hX).keep ((Below.refl _ _).alloc (Nat.le_refl _) _)
  have hsg := truth_yes (some ⟨b0, o0, none⟩) cap i l ((w.alloc (Obj.cells #[Value.int IntKind.i64 0, Value.int IntKind.i64 0, Value.string { data := #[] }] 58)).alloc (Obj.cells #[Value.int IntKind.i64 2, Value.int IntKind.i64 0, Value.string { data := #[] }] 58)) hbY (by omega) hi1 h1
  generalize ((l[i + 1]).toNat : Int) = B at hsg ⊢
  clear hb hX hce hl h1 hi1 hbY
  clear hm hc hn
  go_enter Try.func46, Try.ntmps46
  go_wp2_with (go_at_call 58; refine hsg.mono ?_; rintro e w9 ⟨rfl, rfl⟩)
  exact bodyPost_ret (v := .tuple #[.agg #[.int .i64 2, .int .i64 B, .string ⟨#[]⟩], .int .i64 ((i : Int) + 1 + 1), .int .i64 0]) (by simp [results, Try.results46, go_sem]) rfl ⟨rfl, by first | exact ((Below.refl w.heap.size w).alloc (Nat.le_refl _) _).alloc (by simp) _ | exact (Below.refl w.heap.size w).alloc (Nat.le_refl _) _⟩

set_option maxHeartbeats 2000000 in
set_option maxRecDepth 100000 in
theorem takev_bool0 (a : Option Addr) (cap i : Nat) (l : List UInt8) (w : World) (hb : Byt w a l) (hn : a = none → cap = 0) (hc : l.length ≤ cap) (hm : cap ≤ 140737488351232) (hi : i < l.length) (hl : l[i] = 2) (h1 : ∀ hi : i + 1 < l.length, 1 < (l[i + 1]).toNat) :
    Calls Try.prog 46 #[.slice a l.length cap, .int .i64 (i : Int)] w fun e w' => e = .returned (.tuple #[.agg #[.int .i64 0, .int .i64 0, .string ⟨#[]⟩], .int .i64 0, .int .i64 20]) ∧ Below w.heap.size w w' := by
  have i0 : (0 : Int) ≤ (i : Int) := by omega
  have i1 : (i : Int) < (l.length : Int) := by omega
  have i2 : (i : Int) ≤ 9223372036854775000 := by omega
  have t1 : decide (l.length ≤ i) = false := decide_eq_false (by omega)
  have hX : Below w.heap.size w (w.alloc (Obj.cells #[Value.int IntKind.i64 0, Value.int IntKind.i64 0, Value.string { data := #[] }] 58)) := (Below.refl _ _).alloc (Nat.le_refl _) _
  obtain ⟨b0, o0, rfl, hce⟩ := hb i hi
  have hlt := World.block_lt_of_cell? w _ hce
  have c1 : (w.alloc (Obj.cells #[Value.int IntKind.i64 0, Value.int IntKind.i64 0, Value.string { data := #[] }] 58)).cell? ⟨b0, o0 + i, none⟩ = some (.int .u8 2) := (hX.cell (p := ⟨b0, o0 + i, none⟩) hlt).trans (by rw [hce, hl]; rfl)
  have hbY : Byt ((w.alloc (Obj.cells #[Value.int IntKind.i64 0, Value.int IntKind.i64 0, Value.string { data := #[] }] 58)).alloc (Obj.cells #[Value.int IntKind.i64 2, Value.int IntKind.i64 0, Value.string { data := #[] }] 58)) (some ⟨b0, o0, none⟩) l := (hb.keep hX).keep ((Below.refl _ _).alloc (Nat.le_refl _) _)
  have hsg := truth_no (some ⟨b0, o0, none⟩) cap i l ((w.alloc (Obj.cells #[Value.int IntKind.i64 0, Value.int IntKind.i64 0, Value.string { data := #[] }] 58)).alloc (Obj.cells #[Value.int IntKind.i64 2, Value.int IntKind.i64 0, Value.string { data := #[] }] 58)) hbY (by omega) (by omega) h1
  clear hb hX hce hl h1 hbY
  clear hm hc hn
  go_enter Try.func46, Try.ntmps46
  go_wp2_with (go_at_call 58; refine hsg.mono ?_; rintro e w9 ⟨rfl, rfl⟩)
  exact bodyPost_ret (v := .tuple #[.agg #[.int .i64 0, .int .i64 0, .string ⟨#[]⟩], .int .i64 0, .int .i64 20]) (by simp [results, Try.results46, go_sem]) rfl ⟨rfl, by first | exact ((Below.refl w.heap.size w).alloc (Nat.le_refl _) _).alloc (by simp) _ | exact (Below.refl w.heap.size w).alloc (Nat.le_refl _) _⟩

set_option maxHeartbeats 2000000 in
set_option maxRecDepth 100000 in
theorem reftakev_int0 (a : Option Addr) (cap i : Nat) (l : List UInt8) (w : World) (hb : Byt w a l) (hn : a = none → cap = 0) (hc : l.length ≤ cap) (hm : cap ≤ 140737488351232) (hi : i < l.length) (hl : l[i] = 1) (ht : takeO l ((i : Int) + 1) = none) :
    Calls Try.prog 47 #[.slice a l.length cap, .int .i64 (i : Int)] w fun e w' => e = .returned (.tuple #[.agg #[.int .i64 0, .int .i64 0, .string ⟨#[]⟩], .int .i64 0, .int .i64 20]) ∧ Below w.heap.size w w' := by
  have i0 : (0 : Int) ≤ (i : Int) := by omega
  have i1 : (i : Int) < (l.length : Int) := by omega
  have i2 : (i : Int) ≤ 9223372036854775000 := by omega
  have t1 : decide (l.length ≤ i) = false := decide_eq_false (by omega)
  have hX : Below w.heap.size w (w.alloc (Obj.cells #[Value.int IntKind.i64 0, Value.int IntKind.i64 0, Value.string { data := #[] }] 58)) := (Below.refl _ _).alloc (Nat.le_refl _) _
  obtain ⟨b0, o0, rfl, hce⟩ := hb i hi
  have hlt := World.block_lt_of_cell? w _ hce
  have c1 : (w.alloc (Obj.cells #[Value.int IntKind.i64 0, Value.int IntKind.i64 0, Value.string { data := #[] }] 58)).cell? ⟨b0, o0 + i, none⟩ = some (.int .u8 1) := (hX.cell (p := ⟨b0, o0 + i, none⟩) hlt).trans (by rw [hce, hl]; rfl)
  have hbY : Byt ((w.alloc (Obj.cells #[Value.int IntKind.i64 0, Value.int IntKind.i64 0, Value.string { data := #[] }] 58)).alloc (Obj.cells #[Value.int IntKind.i64 1, Value.int IntKind.i64 0, Value.string { data := #[] }] 58)) (some ⟨b0, o0, none⟩) l := (hb.keep hX).keep ((Below.refl _ _).alloc (Nat.le_refl _) _)
  have hsg := reftakesigned_any (some ⟨b0, o0, none⟩) cap ((i : Int) + 1) l ((w.alloc (Obj.cells #[Value.int IntKind.i64 0, Value.int IntKind.i64 0, Value.string { data := #[] }] 58)).alloc (Obj.cells #[Value.int IntKind.i64 1, Value.int IntKind.i64 0, Value.string { data := #[] }] 58)) hbY hc hm (by omega)
  unfold TookS at hsg
  obtain ⟨h1, h2, h3⟩ := t_none ht
  have hu : unzig l ((i : Int) + 1) = 0 := by simp [unzig, ht]
  rw [hu, h2, h3] at hsg
  clear hb hX hce hl ht h1 h2 h3 hu hbY
  clear hm hc hn
  go_enter Try.func47, Try.ntmps47
  go_wp2_with (go_at_call 59; refine hsg.mono ?_; rintro e w9 ⟨rfl, rfl⟩)
  exact bodyPost_ret (v := .tuple #[.agg #[.int .i64 0, .int .i64 0, .string ⟨#[]⟩], .int .i64 0, .int .i64 20]) (by simp [results, Try.results47, go_sem]) rfl ⟨rfl, by first | exact ((Below.refl w.heap.size w).alloc (Nat.le_refl _) _).alloc (by simp) _ | exact (Below.refl w.heap.size w).alloc (Nat.le_refl _) _⟩

set_option maxHeartbeats 2000000 in
set_option maxRecDepth 100000 in
theorem reftakev_int1 (a : Option Addr) (cap i : Nat) (l : List UInt8) (w : World) (hb : Byt w a l) (hn : a = none → cap = 0) (hc : l.length ≤ cap) (hm : cap ≤ 140737488351232) (hi : i < l.length) (n c : Nat) (hl : l[i] = 1) (ht : takeO l ((i : Int) + 1) = some (n, c)) :
    Calls Try.prog 47 #[.slice a l.length cap, .int .i64 (i : Int)] w fun e w' => e = .returned (.tuple #[.agg #[.int .i64 1, .int .i64 (zag n), .string ⟨#[]⟩], .int .i64 ((i : Int) + 1 + c), .int .i64 0]) ∧ Below w.heap.size w w' := by
  have i0 : (0 : Int) ≤ (i : Int) := by omega
  have i1 : (i : Int) < (l.length : Int) := by omega
  have i2 : (i : Int) ≤ 9223372036854775000 := by omega
  have t1 : decide (l.length ≤ i) = false := decide_eq_false (by omega)
  have hX : Below w.heap.size w (w.alloc (Obj.cells #[Value.int IntKind.i64 0, Value.int IntKind.i64 0, Value.string { data := #[] }] 58)) := (Below.refl _ _).alloc (Nat.le_refl _) _
  obtain ⟨b0, o0, rfl, hce⟩ := hb i hi
  have hlt := World.block_lt_of_cell? w _ hce
  have c1 : (w.alloc (Obj.cells #[Value.int IntKind.i64 0, Value.int IntKind.i64 0, Value.string { data := #[] }] 58)).cell? ⟨b0, o0 + i, none⟩ = some (.int .u8 1) := (hX.cell (p := ⟨b0, o0 + i, none⟩) hlt).trans (by rw [hce, hl]; rfl)
  have hbY : Byt ((w.alloc (Obj.cells #[Value.int IntKind.i64 0, Value.int IntKind.i64 0, Value.string { data := #[] }] 58)).alloc (Obj.cells #[Value.int IntKind.i64 1, Value.int IntKind.i64 0, Value.string { data := #[] }] 58)) (some ⟨b0, o0, none⟩) l := (hb.keep hX).keep ((Below.refl _ _).alloc (Nat.le_refl _) _)
  have hsg := reftakesigned_any (some ⟨b0, o0, none⟩) cap ((i : Int) + 1) l ((w.alloc (Obj.cells #[Value.int IntKind.i64 0, Value.int IntKind.i64 0, Value.string { data := #[] }] 58)).alloc (Obj.cells #[Value.int IntKind.i64 1, Value.int IntKind.i64 0, Value.string { data := #[] }] 58)) hbY hc hm (by omega)
  unfold TookS at hsg
  obtain ⟨h1, h2, h3⟩ := t_some ht
  have hu : unzig l ((i : Int) + 1) = zag n := by simp [unzig, ht]
  rw [hu, h2, h3] at hsg
  generalize zag n = z at hsg ⊢
  generalize (i : Int) + 1 + (c : Int) = q at hsg ⊢
  clear hb hX hce hl ht h1 h2 h3 hu hbY
  clear hm hc hn
  go_enter Try.func47, Try.ntmps47
  go_wp2_with (go_at_call 59; refine hsg.mono ?_; rintro e w9 ⟨rfl, rfl⟩)
  exact bodyPost_ret (v := .tuple #[.agg #[.int .i64 1, .int .i64 z, .string ⟨#[]⟩], .int .i64 q, .int .i64 0]) (by simp [results, Try.results47, go_sem]) rfl ⟨rfl, by first | exact ((Below.refl w.heap.size w).alloc (Nat.le_refl _) _).alloc (by simp) _ | exact (Below.refl w.heap.size w).alloc (Nat.le_refl _) _⟩

set_option maxHeartbeats 2000000 in
set_option maxRecDepth 100000 in
theorem reftakev_text0 (a : Option Addr) (cap i : Nat) (l : List UInt8) (w : World) (hb : Byt w a l) (hn : a = none → cap = 0) (hc : l.length ≤ cap) (hm : cap ≤ 140737488351232) (hi : i < l.length) (hl : l[i] = 3) (ht : textO l ((i : Int) + 1) 1024 = none) :
    Calls Try.prog 47 #[.slice a l.length cap, .int .i64 (i : Int)] w fun e w' => e = .returned (.tuple #[.agg #[.int .i64 0, .int .i64 0, .string ⟨#[]⟩], .int .i64 0, .int .i64 20]) ∧ Below w.heap.size w w' := by
  have i0 : (0 : Int) ≤ (i : Int) := by omega
  have i1 : (i : Int) < (l.length : Int) := by omega
  have i2 : (i : Int) ≤ 9223372036854775000 := by omega
  have t1 : decide (l.length ≤ i) = false := decide_eq_false (by omega)
  have hX : Below w.heap.size w (w.alloc (Obj.cells #[Value.int IntKind.i64 0, Value.int IntKind.i64 0, Value.string { data := #[] }] 58)) := (Below.refl _ _).alloc (Nat.le_refl _) _
  obtain ⟨b0, o0, rfl, hce⟩ := hb i hi
  have hlt := World.block_lt_of_cell? w _ hce
  have c1 : (w.alloc (Obj.cells #[Value.int IntKind.i64 0, Value.int IntKind.i64 0, Value.string { data := #[] }] 58)).cell? ⟨b0, o0 + i, none⟩ = some (.int .u8 3) := (hX.cell (p := ⟨b0, o0 + i, none⟩) hlt).trans (by rw [hce, hl]; rfl)
  have hbY : Byt ((w.alloc (Obj.cells #[Value.int IntKind.i64 0, Value.int IntKind.i64 0, Value.string { data := #[] }] 58)).alloc (Obj.cells #[Value.int IntKind.i64 3, Value.int IntKind.i64 0, Value.string { data := #[] }] 58)) (some ⟨b0, o0, none⟩) l := (hb.keep hX).keep ((Below.refl _ _).alloc (Nat.le_refl _) _)
  have hsg := reftaketext_any (some ⟨b0, o0, none⟩) cap ((i : Int) + 1) 1024 l ((w.alloc (Obj.cells #[Value.int IntKind.i64 0, Value.int IntKind.i64 0, Value.string { data := #[] }] 58)).alloc (Obj.cells #[Value.int IntKind.i64 3, Value.int IntKind.i64 0, Value.string { data := #[] }] 58)) hbY (by simp) hc hm (by omega)
  unfold TookT at hsg
  have h1 : txS l ((i : Int) + 1) 1024 = ⟨#[]⟩ := by simp [txS, ht]; rfl
  have h2 : txP l ((i : Int) + 1) 1024 = 0 := by simp [txP, ht]
  have h3 : txE l ((i : Int) + 1) 1024 = 20 := by simp [txE, ht]
  rw [h1, h2, h3] at hsg
  clear hb hX hce hl ht h1 h2 h3 hbY
  clear hm hc hn
  go_enter Try.func47, Try.ntmps47
  go_wp2_with (go_at_call 43; refine hsg.mono ?_; rintro e w9 ⟨rfl, rfl⟩)
  exact bodyPost_ret (v := .tuple #[.agg #[.int .i64 0, .int .i64 0, .string ⟨#[]⟩], .int .i64 0, .int .i64 20]) (by simp [results, Try.results47, go_sem]) rfl ⟨rfl, by first | exact ((Below.refl w.heap.size w).alloc (Nat.le_refl _) _).alloc (by simp) _ | exact (Below.refl w.heap.size w).alloc (Nat.le_refl _) _⟩

set_option maxHeartbeats 2000000 in
set_option maxRecDepth 100000 in
theorem reftakev_text1 (a : Option Addr) (cap i : Nat) (l : List UInt8) (w : World) (hb : Byt w a l) (hn : a = none → cap = 0) (hc : l.length ≤ cap) (hm : cap ≤ 140737488351232) (hi : i < l.length) (u : List UInt8) (p : Int) (hl : l[i] = 3) (ht : textO l ((i : Int) + 1) 1024 = some (u, p)) :
    Calls Try.prog 47 #[.slice a l.length cap, .int .i64 (i : Int)] w fun e w' => e = .returned (.tuple #[.agg #[.int .i64 3, .int .i64 0, .string (str u)], .int .i64 p, .int .i64 0]) ∧ Below w.heap.size w w' := by
  have i0 : (0 : Int) ≤ (i : Int) := by omega
  have i1 : (i : Int) < (l.length : Int) := by omega
  have i2 : (i : Int) ≤ 9223372036854775000 := by omega
  have t1 : decide (l.length ≤ i) = false := decide_eq_false (by omega)
  have hX : Below w.heap.size w (w.alloc (Obj.cells #[Value.int IntKind.i64 0, Value.int IntKind.i64 0, Value.string { data := #[] }] 58)) := (Below.refl _ _).alloc (Nat.le_refl _) _
  obtain ⟨b0, o0, rfl, hce⟩ := hb i hi
  have hlt := World.block_lt_of_cell? w _ hce
  have c1 : (w.alloc (Obj.cells #[Value.int IntKind.i64 0, Value.int IntKind.i64 0, Value.string { data := #[] }] 58)).cell? ⟨b0, o0 + i, none⟩ = some (.int .u8 3) := (hX.cell (p := ⟨b0, o0 + i, none⟩) hlt).trans (by rw [hce, hl]; rfl)
  have hbY : Byt ((w.alloc (Obj.cells #[Value.int IntKind.i64 0, Value.int IntKind.i64 0, Value.string { data := #[] }] 58)).alloc (Obj.cells #[Value.int IntKind.i64 3, Value.int IntKind.i64 0, Value.string { data := #[] }] 58)) (some ⟨b0, o0, none⟩) l := (hb.keep hX).keep ((Below.refl _ _).alloc (Nat.le_refl _) _)
  have hsg := reftaketext_any (some ⟨b0, o0, none⟩) cap ((i : Int) + 1) 1024 l ((w.alloc (Obj.cells #[Value.int IntKind.i64 0, Value.int IntKind.i64 0, Value.string { data := #[] }] 58)).alloc (Obj.cells #[Value.int IntKind.i64 3, Value.int IntKind.i64 0, Value.string { data := #[] }] 58)) hbY (by simp) hc hm (by omega)
  unfold TookT at hsg
  have h1 : txS l ((i : Int) + 1) 1024 = str u := by simp [txS, ht]
  have h2 : txP l ((i : Int) + 1) 1024 = p := by simp [txP, ht]
  have h3 : txE l ((i : Int) + 1) 1024 = 0 := by simp [txE, ht]
  rw [h1, h2, h3] at hsg
  generalize str u = s at hsg ⊢
  clear hb hX hce hl ht h1 h2 h3 hbY
  clear hm hc hn
  go_enter Try.func47, Try.ntmps47
  go_wp2_with (go_at_call 43; refine hsg.mono ?_; rintro e w9 ⟨rfl, rfl⟩)
  exact bodyPost_ret (v := .tuple #[.agg #[.int .i64 3, .int .i64 0, .string s], .int .i64 p, .int .i64 0]) (by simp [results, Try.results47, go_sem]) rfl ⟨rfl, by first | exact ((Below.refl w.heap.size w).alloc (Nat.le_refl _) _).alloc (by simp) _ | exact (Below.refl w.heap.size w).alloc (Nat.le_refl _) _⟩

set_option maxHeartbeats 2000000 in
set_option maxRecDepth 100000 in
theorem reftakev_bool1 (a : Option Addr) (cap i : Nat) (l : List UInt8) (w : World) (hb : Byt w a l) (hn : a = none → cap = 0) (hc : l.length ≤ cap) (hm : cap ≤ 140737488351232) (hi : i < l.length) (hl : l[i] = 2) (hi1 : i + 1 < l.length) (h1 : (l[i + 1]).toNat ≤ 1) :
    Calls Try.prog 47 #[.slice a l.length cap, .int .i64 (i : Int)] w fun e w' => e = .returned (.tuple #[.agg #[.int .i64 2, .int .i64 ((l[i + 1]).toNat : Int), .string ⟨#[]⟩], .int .i64 ((i : Int) + 1 + 1), .int .i64 0]) ∧ Below w.heap.size w w' := by
  have i0 : (0 : Int) ≤ (i : Int) := by omega
  have i1 : (i : Int) < (l.length : Int) := by omega
  have i2 : (i : Int) ≤ 9223372036854775000 := by omega
  have t1 : decide (l.length ≤ i) = false := decide_eq_false (by omega)
  have hX : Below w.heap.size w (w.alloc (Obj.cells #[Value.int IntKind.i64 0, Value.int IntKind.i64 0, Value.string { data := #[] }] 58)) := (Below.refl _ _).alloc (Nat.le_refl _) _
  obtain ⟨b0, o0, rfl, hce⟩ := hb i hi
  have hlt := World.block_lt_of_cell? w _ hce
  have c1 : (w.alloc (Obj.cells #[Value.int IntKind.i64 0, Value.int IntKind.i64 0, Value.string { data := #[] }] 58)).cell? ⟨b0, o0 + i, none⟩ = some (.int .u8 2) := (hX.cell (p := ⟨b0, o0 + i, none⟩) hlt).trans (by rw [hce, hl]; rfl)
  have e1 : ((i : Int) + 1).toNat = i + 1 := by omega
  obtain ⟨b1, o1, hx, hcf⟩ := hb (i + 1) hi1
  simp only [Option.some.injEq, Addr.mk.injEq, and_true] at hx
  obtain ⟨rfl, rfl⟩ := hx
  have hX2 : Below w.heap.size w ((w.alloc (Obj.cells #[Value.int IntKind.i64 0, Value.int IntKind.i64 0, Value.string { data := #[] }] 58)).alloc (Obj.cells #[Value.int IntKind.i64 2, Value.int IntKind.i64 0, Value.string { data := #[] }] 58)) := hX.trans (((Below.refl _ _).alloc (Nat.le_refl _) _).mono hX.size)
  have c2 := (hX2.cell (p := ⟨b0, o0 + (i + 1), none⟩) (World.block_lt_of_cell? w _ hcf)).trans hcf
  have t2 : ¬ (l.length : Int) ≤ (i : Int) + 1 := by omega
  have t3 : (i : Int) + 1 < (l.length : Int) := by omega
  have hB0 : (0 : Int) ≤ ((l[i + 1]).toNat : Int) := by omega
  have t4 : ¬ (1 : Int) < ((l[i + 1]).toNat : Int) := by omega
  have hB2 : ((l[i + 1]).toNat : Int) < 256 := by omega
  generalize ((l[i + 1]).toNat : Int) = B at c2 t4 hB0 hB2 ⊢
  clear hb hX hce hl h1 hi1 hX2 hcf
  clear hm hc hn
  go_enter Try.func47, Try.ntmps47
  go_wp2
  exact bodyPost_ret (v := .tuple #[.agg #[.int .i64 2, .int .i64 B, .string ⟨#[]⟩], .int .i64 ((i : Int) + 1 + 1), .int .i64 0]) (by simp [results, Try.results47, go_sem]) rfl ⟨rfl, by first | exact ((Below.refl w.heap.size w).alloc (Nat.le_refl _) _).alloc (by simp) _ | exact (Below.refl w.heap.size w).alloc (Nat.le_refl _) _⟩

set_option maxHeartbeats 2000000 in
set_option maxRecDepth 100000 in
theorem reftakev_bool0a (a : Option Addr) (cap i : Nat) (l : List UInt8) (w : World) (hb : Byt w a l) (hn : a = none → cap = 0) (hc : l.length ≤ cap) (hm : cap ≤ 140737488351232) (hi : i < l.length) (hl : l[i] = 2) (hi1 : i + 1 < l.length) (h1 : 1 < (l[i + 1]).toNat) :
    Calls Try.prog 47 #[.slice a l.length cap, .int .i64 (i : Int)] w fun e w' => e = .returned (.tuple #[.agg #[.int .i64 0, .int .i64 0, .string ⟨#[]⟩], .int .i64 0, .int .i64 20]) ∧ Below w.heap.size w w' := by
  have i0 : (0 : Int) ≤ (i : Int) := by omega
  have i1 : (i : Int) < (l.length : Int) := by omega
  have i2 : (i : Int) ≤ 9223372036854775000 := by omega
  have t1 : decide (l.length ≤ i) = false := decide_eq_false (by omega)
  have hX : Below w.heap.size w (w.alloc (Obj.cells #[Value.int IntKind.i64 0, Value.int IntKind.i64 0, Value.string { data := #[] }] 58)) := (Below.refl _ _).alloc (Nat.le_refl _) _
  obtain ⟨b0, o0, rfl, hce⟩ := hb i hi
  have hlt := World.block_lt_of_cell? w _ hce
  have c1 : (w.alloc (Obj.cells #[Value.int IntKind.i64 0, Value.int IntKind.i64 0, Value.string { data := #[] }] 58)).cell? ⟨b0, o0 + i, none⟩ = some (.int .u8 2) := (hX.cell (p := ⟨b0, o0 + i, none⟩) hlt).trans (by rw [hce, hl]; rfl)
  have e1 : ((i : Int) + 1).toNat = i + 1 := by omega
  obtain ⟨b1, o1, hx, hcf⟩ := hb (i + 1) hi1
  simp only [Option.some.injEq, Addr.mk.injEq, and_true] at hx
  obtain ⟨rfl, rfl⟩ := hx
  have hX2 : Below w.heap.size w ((w.alloc (Obj.cells #[Value.int IntKind.i64 0, Value.int IntKind.i64 0, Value.string { data := #[] }] 58)).alloc (Obj.cells #[Value.int IntKind.i64 2, Value.int IntKind.i64 0, Value.string { data := #[] }] 58)) := hX.trans (((Below.refl _ _).alloc (Nat.le_refl _) _).mono hX.size)
  have c2 := (hX2.cell (p := ⟨b0, o0 + (i + 1), none⟩) (World.block_lt_of_cell? w _ hcf)).trans hcf
  have t2 : ¬ (l.length : Int) ≤ (i : Int) + 1 := by omega
  have t3 : (i : Int) + 1 < (l.length : Int) := by omega
  have hB0 : (0 : Int) ≤ ((l[i + 1]).toNat : Int) := by omega
  have t4 : (1 : Int) < ((l[i + 1]).toNat : Int) := by omega
  generalize ((l[i + 1]).toNat : Int) = B at c2 t4 hB0
  clear hb hX hce hl h1 hi1 hX2 hcf
  clear hm hc hn
  go_enter Try.func47, Try.ntmps47
  go_wp2
  exact bodyPost_ret (v := .tuple #[.agg #[.int .i64 0, .int .i64 0, .string ⟨#[]⟩], .int .i64 0, .int .i64 20]) (by simp [results, Try.results47, go_sem]) rfl ⟨rfl, by first | exact ((Below.refl w.heap.size w).alloc (Nat.le_refl _) _).alloc (by simp) _ | exact (Below.refl w.heap.size w).alloc (Nat.le_refl _) _⟩

set_option maxHeartbeats 2000000 in
set_option maxRecDepth 100000 in
theorem reftakev_bool0b (a : Option Addr) (cap i : Nat) (l : List UInt8) (w : World) (hb : Byt w a l) (hn : a = none → cap = 0) (hc : l.length ≤ cap) (hm : cap ≤ 140737488351232) (hi : i < l.length) (hl : l[i] = 2) (h1 : ¬ i + 1 < l.length) :
    Calls Try.prog 47 #[.slice a l.length cap, .int .i64 (i : Int)] w fun e w' => e = .returned (.tuple #[.agg #[.int .i64 0, .int .i64 0, .string ⟨#[]⟩], .int .i64 0, .int .i64 20]) ∧ Below w.heap.size w w' := by
  have i0 : (0 : Int) ≤ (i : Int) := by omega
  have i1 : (i : Int) < (l.length : Int) := by omega
  have i2 : (i : Int) ≤ 9223372036854775000 := by omega
  have t1 : decide (l.length ≤ i) = false := decide_eq_false (by omega)
  have hX : Below w.heap.size w (w.alloc (Obj.cells #[Value.int IntKind.i64 0, Value.int IntKind.i64 0, Value.string { data := #[] }] 58)) := (Below.refl _ _).alloc (Nat.le_refl _) _
  obtain ⟨b0, o0, rfl, hce⟩ := hb i hi
  have hlt := World.block_lt_of_cell? w _ hce
  have c1 : (w.alloc (Obj.cells #[Value.int IntKind.i64 0, Value.int IntKind.i64 0, Value.string { data := #[] }] 58)).cell? ⟨b0, o0 + i, none⟩ = some (.int .u8 2) := (hX.cell (p := ⟨b0, o0 + i, none⟩) hlt).trans (by rw [hce, hl]; rfl)
  have t2 : (l.length : Int) ≤ (i : Int) + 1 := by omega
  clear hb hX hce hl h1
  clear hm hc hn
  go_enter Try.func47, Try.ntmps47
  go_wp2
  exact bodyPost_ret (v := .tuple #[.agg #[.int .i64 0, .int .i64 0, .string ⟨#[]⟩], .int .i64 0, .int .i64 20]) (by simp [results, Try.results47, go_sem]) rfl ⟨rfl, by first | exact ((Below.refl w.heap.size w).alloc (Nat.le_refl _) _).alloc (by simp) _ | exact (Below.refl w.heap.size w).alloc (Nat.le_refl _) _⟩
end Go.Proofs.Ytabnjiepmhblaaa.V4
