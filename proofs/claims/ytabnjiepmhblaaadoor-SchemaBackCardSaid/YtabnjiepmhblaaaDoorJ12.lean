/- Joined texts: The walks of value.Take (16) and the document's Take (17) on numbers, truths and texts. value.Lay (14), value.Take (16) and the document's (15, 17), whole. The document's Fits. -/
import Derived.Test.YtabnjiepmhblaaaDoorJ30
import Derived.Test.YtabnjiepmhblaaaDoorJ7
import Derived.Test.YtabnjiepmhblaaaDoorJ4
/-! The walks of value.Take (16) and the document's Take (17) on numbers, truths and texts. -/
namespace Go.Proofs.YtabnjiepmhblaaaDoor.V4
open Go.RowKit
set_option linter.unusedVariables false


set_option maxHeartbeats 2000000 in
set_option maxRecDepth 100000 in
theorem takev_int0 (a : Option Addr) (cap i : Nat) (l : List UInt8) (w : World) (hb : Byt w a l) (hn : a = none → cap = 0) (hc : l.length ≤ cap) (hm : cap ≤ 140737488351232) (hi : i < l.length) (hl : l[i] = 1) (ht : takeO l ((i : Int) + 1) = none) :
    Calls Tryd.prog 34 #[.slice a l.length cap, .int .i64 (i : Int)] w fun e w' => e = .returned (.tuple #[.agg #[.int .i64 0, .int .i64 0, .string ⟨#[]⟩], .int .i64 0, .int .i64 20]) ∧ Below w.heap.size w w' := by
  have i0 : (0 : Int) ≤ (i : Int) := by omega
  have i1 : (i : Int) < (l.length : Int) := by omega
  have i2 : (i : Int) ≤ 9223372036854775000 := by omega
  have t1 : decide (l.length ≤ i) = false := decide_eq_false (by omega)
  have hX : Below w.heap.size w (w.alloc (Obj.cells #[Value.int IntKind.i64 0, Value.int IntKind.i64 0, Value.string { data := #[] }] 71)) := (Below.refl _ _).alloc (Nat.le_refl _) _
  obtain ⟨b0, o0, rfl, hce⟩ := hb i hi
  have hlt := World.block_lt_of_cell? w _ hce
  have c1 : (w.alloc (Obj.cells #[Value.int IntKind.i64 0, Value.int IntKind.i64 0, Value.string { data := #[] }] 71)).cell? ⟨b0, o0 + i, none⟩ = some (.int .u8 1) := (hX.cell (p := ⟨b0, o0 + i, none⟩) hlt).trans (by rw [hce, hl]; rfl)
  have hbY : Byt ((w.alloc (Obj.cells #[Value.int IntKind.i64 0, Value.int IntKind.i64 0, Value.string { data := #[] }] 71)).alloc (Obj.cells #[Value.int IntKind.i64 1, Value.int IntKind.i64 0, Value.string { data := #[] }] 71)) (some ⟨b0, o0, none⟩) l := (hb.keep hX).keep ((Below.refl _ _).alloc (Nat.le_refl _) _)
  have hsg := takesigned_any (some ⟨b0, o0, none⟩) cap ((i : Int) + 1) l ((w.alloc (Obj.cells #[Value.int IntKind.i64 0, Value.int IntKind.i64 0, Value.string { data := #[] }] 71)).alloc (Obj.cells #[Value.int IntKind.i64 1, Value.int IntKind.i64 0, Value.string { data := #[] }] 71)) hbY hc hm
  unfold TookS at hsg
  obtain ⟨h1, h2, h3⟩ := t_none ht
  have hu : unzig l ((i : Int) + 1) = 0 := by simp [unzig, ht]
  rw [hu, h2, h3] at hsg
  clear hb hX hce hl ht h1 h2 h3 hu hbY
  clear hm hc hn
  go_enter Tryd.func34, Tryd.ntmps34
  go_wp2_with (go_at_call 49; refine hsg.mono ?_; rintro e w9 ⟨rfl, rfl⟩)
  exact bodyPost_ret (v := .tuple #[.agg #[.int .i64 0, .int .i64 0, .string ⟨#[]⟩], .int .i64 0, .int .i64 20]) (by simp [results, Tryd.results34, go_sem]) rfl ⟨rfl, by first | exact ((Below.refl w.heap.size w).alloc (Nat.le_refl _) _).alloc (by simp) _ | exact (Below.refl w.heap.size w).alloc (Nat.le_refl _) _⟩

set_option maxHeartbeats 2000000 in
set_option maxRecDepth 100000 in
theorem takev_int1 (a : Option Addr) (cap i : Nat) (l : List UInt8) (w : World) (hb : Byt w a l) (hn : a = none → cap = 0) (hc : l.length ≤ cap) (hm : cap ≤ 140737488351232) (hi : i < l.length) (n c : Nat) (hl : l[i] = 1) (ht : takeO l ((i : Int) + 1) = some (n, c)) :
    Calls Tryd.prog 34 #[.slice a l.length cap, .int .i64 (i : Int)] w fun e w' => e = .returned (.tuple #[.agg #[.int .i64 1, .int .i64 (zag n), .string ⟨#[]⟩], .int .i64 ((i : Int) + 1 + c), .int .i64 0]) ∧ Below w.heap.size w w' := by
  have i0 : (0 : Int) ≤ (i : Int) := by omega
  have i1 : (i : Int) < (l.length : Int) := by omega
  have i2 : (i : Int) ≤ 9223372036854775000 := by omega
  have t1 : decide (l.length ≤ i) = false := decide_eq_false (by omega)
  have hX : Below w.heap.size w (w.alloc (Obj.cells #[Value.int IntKind.i64 0, Value.int IntKind.i64 0, Value.string { data := #[] }] 71)) := (Below.refl _ _).alloc (Nat.le_refl _) _
  obtain ⟨b0, o0, rfl, hce⟩ := hb i hi
  have hlt := World.block_lt_of_cell? w _ hce
  have c1 : (w.alloc (Obj.cells #[Value.int IntKind.i64 0, Value.int IntKind.i64 0, Value.string { data := #[] }] 71)).cell? ⟨b0, o0 + i, none⟩ = some (.int .u8 1) := (hX.cell (p := ⟨b0, o0 + i, none⟩) hlt).trans (by rw [hce, hl]; rfl)
  have hbY : Byt ((w.alloc (Obj.cells #[Value.int IntKind.i64 0, Value.int IntKind.i64 0, Value.string { data := #[] }] 71)).alloc (Obj.cells #[Value.int IntKind.i64 1, Value.int IntKind.i64 0, Value.string { data := #[] }] 71)) (some ⟨b0, o0, none⟩) l := (hb.keep hX).keep ((Below.refl _ _).alloc (Nat.le_refl _) _)
  have hsg := takesigned_any (some ⟨b0, o0, none⟩) cap ((i : Int) + 1) l ((w.alloc (Obj.cells #[Value.int IntKind.i64 0, Value.int IntKind.i64 0, Value.string { data := #[] }] 71)).alloc (Obj.cells #[Value.int IntKind.i64 1, Value.int IntKind.i64 0, Value.string { data := #[] }] 71)) hbY hc hm
  unfold TookS at hsg
  obtain ⟨h1, h2, h3⟩ := t_some ht
  have hu : unzig l ((i : Int) + 1) = zag n := by simp [unzig, ht]
  rw [hu, h2, h3] at hsg
  generalize zag n = z at hsg ⊢
  generalize (i : Int) + 1 + (c : Int) = q at hsg ⊢
  clear hb hX hce hl ht h1 h2 h3 hu hbY
  clear hm hc hn
  go_enter Tryd.func34, Tryd.ntmps34
  go_wp2_with (go_at_call 49; refine hsg.mono ?_; rintro e w9 ⟨rfl, rfl⟩)
  exact bodyPost_ret (v := .tuple #[.agg #[.int .i64 1, .int .i64 z, .string ⟨#[]⟩], .int .i64 q, .int .i64 0]) (by simp [results, Tryd.results34, go_sem]) rfl ⟨rfl, by first | exact ((Below.refl w.heap.size w).alloc (Nat.le_refl _) _).alloc (by simp) _ | exact (Below.refl w.heap.size w).alloc (Nat.le_refl _) _⟩

set_option maxHeartbeats 2000000 in
set_option maxRecDepth 100000 in
theorem takev_text0 (a : Option Addr) (cap i : Nat) (l : List UInt8) (w : World) (hb : Byt w a l) (hn : a = none → cap = 0) (hc : l.length ≤ cap) (hm : cap ≤ 140737488351232) (hi : i < l.length) (hl : l[i] = 3) (ht : textO l ((i : Int) + 1) 1024 = none) :
    Calls Tryd.prog 34 #[.slice a l.length cap, .int .i64 (i : Int)] w fun e w' => e = .returned (.tuple #[.agg #[.int .i64 0, .int .i64 0, .string ⟨#[]⟩], .int .i64 0, .int .i64 20]) ∧ Below w.heap.size w w' := by
  have i0 : (0 : Int) ≤ (i : Int) := by omega
  have i1 : (i : Int) < (l.length : Int) := by omega
  have i2 : (i : Int) ≤ 9223372036854775000 := by omega
  have t1 : decide (l.length ≤ i) = false := decide_eq_false (by omega)
  have hX : Below w.heap.size w (w.alloc (Obj.cells #[Value.int IntKind.i64 0, Value.int IntKind.i64 0, Value.string { data := #[] }] 71)) := (Below.refl _ _).alloc (Nat.le_refl _) _
  obtain ⟨b0, o0, rfl, hce⟩ := hb i hi
  have hlt := World.block_lt_of_cell? w _ hce
  have c1 : (w.alloc (Obj.cells #[Value.int IntKind.i64 0, Value.int IntKind.i64 0, Value.string { data := #[] }] 71)).cell? ⟨b0, o0 + i, none⟩ = some (.int .u8 3) := (hX.cell (p := ⟨b0, o0 + i, none⟩) hlt).trans (by rw [hce, hl]; rfl)
  have hbY : Byt ((w.alloc (Obj.cells #[Value.int IntKind.i64 0, Value.int IntKind.i64 0, Value.string { data := #[] }] 71)).alloc (Obj.cells #[Value.int IntKind.i64 3, Value.int IntKind.i64 0, Value.string { data := #[] }] 71)) (some ⟨b0, o0, none⟩) l := (hb.keep hX).keep ((Below.refl _ _).alloc (Nat.le_refl _) _)
  have hsg := taketext_any (some ⟨b0, o0, none⟩) cap ((i : Int) + 1) 1024 l ((w.alloc (Obj.cells #[Value.int IntKind.i64 0, Value.int IntKind.i64 0, Value.string { data := #[] }] 71)).alloc (Obj.cells #[Value.int IntKind.i64 3, Value.int IntKind.i64 0, Value.string { data := #[] }] 71)) hbY (by simp) hc hm
  unfold TookT at hsg
  have h1 : txS l ((i : Int) + 1) 1024 = ⟨#[]⟩ := by simp [txS, ht]; rfl
  have h2 : txP l ((i : Int) + 1) 1024 = 0 := by simp [txP, ht]
  have h3 : txE l ((i : Int) + 1) 1024 = 20 := by simp [txE, ht]
  rw [h1, h2, h3] at hsg
  clear hb hX hce hl ht h1 h2 h3 hbY
  clear hm hc hn
  go_enter Tryd.func34, Tryd.ntmps34
  go_wp2_with (go_at_call 46; refine hsg.mono ?_; rintro e w9 ⟨rfl, rfl⟩)
  exact bodyPost_ret (v := .tuple #[.agg #[.int .i64 0, .int .i64 0, .string ⟨#[]⟩], .int .i64 0, .int .i64 20]) (by simp [results, Tryd.results34, go_sem]) rfl ⟨rfl, by first | exact ((Below.refl w.heap.size w).alloc (Nat.le_refl _) _).alloc (by simp) _ | exact (Below.refl w.heap.size w).alloc (Nat.le_refl _) _⟩

set_option maxHeartbeats 2000000 in
set_option maxRecDepth 100000 in
theorem takev_text1 (a : Option Addr) (cap i : Nat) (l : List UInt8) (w : World) (hb : Byt w a l) (hn : a = none → cap = 0) (hc : l.length ≤ cap) (hm : cap ≤ 140737488351232) (hi : i < l.length) (u : List UInt8) (p : Int) (hl : l[i] = 3) (ht : textO l ((i : Int) + 1) 1024 = some (u, p)) :
    Calls Tryd.prog 34 #[.slice a l.length cap, .int .i64 (i : Int)] w fun e w' => e = .returned (.tuple #[.agg #[.int .i64 3, .int .i64 0, .string (str u)], .int .i64 p, .int .i64 0]) ∧ Below w.heap.size w w' := by
  have i0 : (0 : Int) ≤ (i : Int) := by omega
  have i1 : (i : Int) < (l.length : Int) := by omega
  have i2 : (i : Int) ≤ 9223372036854775000 := by omega
  have t1 : decide (l.length ≤ i) = false := decide_eq_false (by omega)
  have hX : Below w.heap.size w (w.alloc (Obj.cells #[Value.int IntKind.i64 0, Value.int IntKind.i64 0, Value.string { data := #[] }] 71)) := (Below.refl _ _).alloc (Nat.le_refl _) _
  obtain ⟨b0, o0, rfl, hce⟩ := hb i hi
  have hlt := World.block_lt_of_cell? w _ hce
  have c1 : (w.alloc (Obj.cells #[Value.int IntKind.i64 0, Value.int IntKind.i64 0, Value.string { data := #[] }] 71)).cell? ⟨b0, o0 + i, none⟩ = some (.int .u8 3) := (hX.cell (p := ⟨b0, o0 + i, none⟩) hlt).trans (by rw [hce, hl]; rfl)
  have hbY : Byt ((w.alloc (Obj.cells #[Value.int IntKind.i64 0, Value.int IntKind.i64 0, Value.string { data := #[] }] 71)).alloc (Obj.cells #[Value.int IntKind.i64 3, Value.int IntKind.i64 0, Value.string { data := #[] }] 71)) (some ⟨b0, o0, none⟩) l := (hb.keep hX).keep ((Below.refl _ _).alloc (Nat.le_refl _) _)
  have hsg := taketext_any (some ⟨b0, o0, none⟩) cap ((i : Int) + 1) 1024 l ((w.alloc (Obj.cells #[Value.int IntKind.i64 0, Value.int IntKind.i64 0, Value.string { data := #[] }] 71)).alloc (Obj.cells #[Value.int IntKind.i64 3, Value.int IntKind.i64 0, Value.string { data := #[] }] 71)) hbY (by simp) hc hm
  unfold TookT at hsg
  have h1 : txS l ((i : Int) + 1) 1024 = str u := by simp [txS, ht]
  have h2 : txP l ((i : Int) + 1) 1024 = p := by simp [txP, ht]
  have h3 : txE l ((i : Int) + 1) 1024 = 0 := by simp [txE, ht]
  rw [h1, h2, h3] at hsg
  generalize str u = s at hsg ⊢
  clear hb hX hce hl ht h1 h2 h3 hbY
  clear hm hc hn
  go_enter Tryd.func34, Tryd.ntmps34
  go_wp2_with (go_at_call 46; refine hsg.mono ?_; rintro e w9 ⟨rfl, rfl⟩)
  exact bodyPost_ret (v := .tuple #[.agg #[.int .i64 3, .int .i64 0, .string s], .int .i64 p, .int .i64 0]) (by simp [results, Tryd.results34, go_sem]) rfl ⟨rfl, by first | exact ((Below.refl w.heap.size w).alloc (Nat.le_refl _) _).alloc (by simp) _ | exact (Below.refl w.heap.size w).alloc (Nat.le_refl _) _⟩

set_option maxHeartbeats 2000000 in
set_option maxRecDepth 100000 in
theorem takev_bool1 (a : Option Addr) (cap i : Nat) (l : List UInt8) (w : World) (hb : Byt w a l) (hn : a = none → cap = 0) (hc : l.length ≤ cap) (hm : cap ≤ 140737488351232) (hi : i < l.length) (hl : l[i] = 2) (hi1 : i + 1 < l.length) (h1 : (l[i + 1]).toNat ≤ 1) :
    Calls Tryd.prog 34 #[.slice a l.length cap, .int .i64 (i : Int)] w fun e w' => e = .returned (.tuple #[.agg #[.int .i64 2, .int .i64 ((l[i + 1]).toNat : Int), .string ⟨#[]⟩], .int .i64 ((i : Int) + 1 + 1), .int .i64 0]) ∧ Below w.heap.size w w' := by
  have i0 : (0 : Int) ≤ (i : Int) := by omega
  have i1 : (i : Int) < (l.length : Int) := by omega
  have i2 : (i : Int) ≤ 9223372036854775000 := by omega
  have t1 : decide (l.length ≤ i) = false := decide_eq_false (by omega)
  have hX : Below w.heap.size w (w.alloc (Obj.cells #[Value.int IntKind.i64 0, Value.int IntKind.i64 0, Value.string { data := #[] }] 71)) := (Below.refl _ _).alloc (Nat.le_refl _) _
  obtain ⟨b0, o0, rfl, hce⟩ := hb i hi
  have hlt := World.block_lt_of_cell? w _ hce
  have c1 : (w.alloc (Obj.cells #[Value.int IntKind.i64 0, Value.int IntKind.i64 0, Value.string { data := #[] }] 71)).cell? ⟨b0, o0 + i, none⟩ = some (.int .u8 2) := (hX.cell (p := ⟨b0, o0 + i, none⟩) hlt).trans (by rw [hce, hl]; rfl)
  have hbY : Byt ((w.alloc (Obj.cells #[Value.int IntKind.i64 0, Value.int IntKind.i64 0, Value.string { data := #[] }] 71)).alloc (Obj.cells #[Value.int IntKind.i64 2, Value.int IntKind.i64 0, Value.string { data := #[] }] 71)) (some ⟨b0, o0, none⟩) l := (hb.keep hX).keep ((Below.refl _ _).alloc (Nat.le_refl _) _)
  have hsg := truth_yes (some ⟨b0, o0, none⟩) cap i l ((w.alloc (Obj.cells #[Value.int IntKind.i64 0, Value.int IntKind.i64 0, Value.string { data := #[] }] 71)).alloc (Obj.cells #[Value.int IntKind.i64 2, Value.int IntKind.i64 0, Value.string { data := #[] }] 71)) hbY (by omega) hi1 h1
  generalize ((l[i + 1]).toNat : Int) = B at hsg ⊢
  clear hb hX hce hl h1 hi1 hbY
  clear hm hc hn
  go_enter Tryd.func34, Tryd.ntmps34
  go_wp2_with (go_at_call 50; refine hsg.mono ?_; rintro e w9 ⟨rfl, rfl⟩)
  exact bodyPost_ret (v := .tuple #[.agg #[.int .i64 2, .int .i64 B, .string ⟨#[]⟩], .int .i64 ((i : Int) + 1 + 1), .int .i64 0]) (by simp [results, Tryd.results34, go_sem]) rfl ⟨rfl, by first | exact ((Below.refl w.heap.size w).alloc (Nat.le_refl _) _).alloc (by simp) _ | exact (Below.refl w.heap.size w).alloc (Nat.le_refl _) _⟩

set_option maxHeartbeats 2000000 in
set_option maxRecDepth 100000 in
theorem takev_bool0 (a : Option Addr) (cap i : Nat) (l : List UInt8) (w : World) (hb : Byt w a l) (hn : a = none → cap = 0) (hc : l.length ≤ cap) (hm : cap ≤ 140737488351232) (hi : i < l.length) (hl : l[i] = 2) (h1 : ∀ hi : i + 1 < l.length, 1 < (l[i + 1]).toNat) :
    Calls Tryd.prog 34 #[.slice a l.length cap, .int .i64 (i : Int)] w fun e w' => e = .returned (.tuple #[.agg #[.int .i64 0, .int .i64 0, .string ⟨#[]⟩], .int .i64 0, .int .i64 20]) ∧ Below w.heap.size w w' := by
  have i0 : (0 : Int) ≤ (i : Int) := by omega
  have i1 : (i : Int) < (l.length : Int) := by omega
  have i2 : (i : Int) ≤ 9223372036854775000 := by omega
  have t1 : decide (l.length ≤ i) = false := decide_eq_false (by omega)
  have hX : Below w.heap.size w (w.alloc (Obj.cells #[Value.int IntKind.i64 0, Value.int IntKind.i64 0, Value.string { data := #[] }] 71)) := (Below.refl _ _).alloc (Nat.le_refl _) _
  obtain ⟨b0, o0, rfl, hce⟩ := hb i hi
  have hlt := World.block_lt_of_cell? w _ hce
  have c1 : (w.alloc (Obj.cells #[Value.int IntKind.i64 0, Value.int IntKind.i64 0, Value.string { data := #[] }] 71)).cell? ⟨b0, o0 + i, none⟩ = some (.int .u8 2) := (hX.cell (p := ⟨b0, o0 + i, none⟩) hlt).trans (by rw [hce, hl]; rfl)
  have hbY : Byt ((w.alloc (Obj.cells #[Value.int IntKind.i64 0, Value.int IntKind.i64 0, Value.string { data := #[] }] 71)).alloc (Obj.cells #[Value.int IntKind.i64 2, Value.int IntKind.i64 0, Value.string { data := #[] }] 71)) (some ⟨b0, o0, none⟩) l := (hb.keep hX).keep ((Below.refl _ _).alloc (Nat.le_refl _) _)
  have hsg := truth_no (some ⟨b0, o0, none⟩) cap i l ((w.alloc (Obj.cells #[Value.int IntKind.i64 0, Value.int IntKind.i64 0, Value.string { data := #[] }] 71)).alloc (Obj.cells #[Value.int IntKind.i64 2, Value.int IntKind.i64 0, Value.string { data := #[] }] 71)) hbY (by omega) (by omega) h1
  clear hb hX hce hl h1 hbY
  clear hm hc hn
  go_enter Tryd.func34, Tryd.ntmps34
  go_wp2_with (go_at_call 50; refine hsg.mono ?_; rintro e w9 ⟨rfl, rfl⟩)
  exact bodyPost_ret (v := .tuple #[.agg #[.int .i64 0, .int .i64 0, .string ⟨#[]⟩], .int .i64 0, .int .i64 20]) (by simp [results, Tryd.results34, go_sem]) rfl ⟨rfl, by first | exact ((Below.refl w.heap.size w).alloc (Nat.le_refl _) _).alloc (by simp) _ | exact (Below.refl w.heap.size w).alloc (Nat.le_refl _) _⟩

end Go.Proofs.YtabnjiepmhblaaaDoor.V4

/-! value.Lay (14), value.Take (16) and the document's (15, 17), whole. -/
namespace Go.Proofs.YtabnjiepmhblaaaDoor.V4
open Go.RowKit
set_option linter.unusedVariables false

theorem takev_any (a : Option Addr) (cap : Nat) (at_ : Int) (l : List UInt8) (w : World) (hb : Byt w a l) (hn : a = none → cap = 0) (hc : l.length ≤ cap) (hm : cap ≤ 140737488351232) :
    Calls Tryd.prog 34 #[.slice a l.length cap, .int .i64 at_] w (TookV w l at_) := by
  by_cases hin : 0 ≤ at_ ∧ at_ < l.length
  · obtain ⟨i, rfl⟩ := Int.eq_ofNat_of_zero_le hin.1
    have hi : i < l.length := by omega
    have hv := valO_in hi
    unfold TookV
    by_cases h0 : l[i] = 0
    · rw [h0] at hv; rw [valR_some hv]
      exact takev_null a cap i l w hb hn hc hm hi h0
    by_cases h1 : l[i] = 1
    · rw [h1] at hv
      cases ht : takeO l ((i : Int) + 1) with
      | none => simp only [ht] at hv; rw [valR_none hv]; exact takev_int0 a cap i l w hb hn hc hm hi h1 ht
      | some p => obtain ⟨n, c⟩ := p; simp only [ht] at hv; rw [valR_some hv]; exact takev_int1 a cap i l w hb hn hc hm hi n c h1 ht
    by_cases h2 : l[i] = 2
    · rw [h2] at hv
      by_cases hi1 : i + 1 < l.length
      · simp only [List.getElem?_eq_getElem hi1] at hv
        by_cases hle : (l[i + 1]).toNat ≤ 1
        · rw [if_pos hle] at hv; rw [valR_some hv]; exact takev_bool1 a cap i l w hb hn hc hm hi h2 hi1 hle
        · rw [if_neg hle] at hv; rw [valR_none hv]; exact takev_bool0 a cap i l w hb hn hc hm hi h2 (fun _ => by omega)
      · simp only [List.getElem?_eq_none (by omega : l.length ≤ i + 1)] at hv
        rw [valR_none hv]; exact takev_bool0 a cap i l w hb hn hc hm hi h2 (fun h => absurd h hi1)
    by_cases h3 : l[i] = 3
    · rw [h3] at hv
      cases ht : textO l ((i : Int) + 1) 1024 with
      | none => simp only [ht] at hv; rw [valR_none hv]; exact takev_text0 a cap i l w hb hn hc hm hi h3 ht
      | some p => obtain ⟨u, p⟩ := p; simp only [ht] at hv; rw [valR_some hv]; exact takev_text1 a cap i l w hb hn hc hm hi u p h3 ht
    · have h4 : 4 ≤ (l[i]).toNat := by
        have g0 : (l[i]).toNat ≠ 0 := fun e => h0 (UInt8.toNat_inj.1 e)
        have g1 : (l[i]).toNat ≠ 1 := fun e => h1 (UInt8.toNat_inj.1 e)
        have g2 : (l[i]).toNat ≠ 2 := fun e => h2 (UInt8.toNat_inj.1 e)
        have g3 : (l[i]).toNat ≠ 3 := fun e => h3 (UInt8.toNat_inj.1 e)
        omega
      have hv' : valO l (i : Int) = none := by
        rw [hv]
        split <;> first | rfl | (rename_i e; simp only [Option.some.injEq] at e; first | exact absurd e h0 | exact absurd e h1 | exact absurd e h2 | exact absurd e h3)
      rw [valR_none hv']
      exact takev_big a cap i l w hb hn hc hm hi h4
  · exact takev_out a cap at_ l w (by omega)

theorem lay_any (A : Option Addr) (cap : Nat) (l : List UInt8) (k n : Int) (s : ByteArray) (w : World) (hb : Byt w A l) (hA : A = none → cap = 0) (hl : l.length + 2000 ≤ 140737488355328) (h0 : -9223372036854775808 ≤ n) (h1 : n ≤ 9223372036854775807) (hr : rightB k n s.toList = true) :
    Calls Tryd.prog 33 #[.slice A l.length cap, .agg #[.int .i64 k, .int .i64 n, .string s]] w (MadeL w (l ++ encV k n s.data.toList)) := by
  obtain ⟨r1, r2, r3, r4⟩ := right_text hr
  have hs : k ≠ 3 → s = ⟨#[]⟩ := fun h => tol_inj (by rw [r2 h, ByteArray.toList_eq])
  have hk : k = 0 ∨ k = 1 ∨ k = 2 ∨ k = 3 := by omega
  rcases hk with rfl | rfl | rfl | rfl
  · obtain rfl := hs (by decide)
    obtain rfl : n = 0 := by simpa [rightB, r2] using hr
    exact lay_null A cap l w hb hA hl
  · obtain rfl := hs (by decide)
    exact lay_int A cap l n w hb hA (by omega) h0 h1
  · obtain rfl := hs (by decide)
    have hn : n = 0 ∨ n = 1 := by simpa [rightB, r2] using hr
    rcases hn with rfl | rfl
    · exact lay_bool0 A cap l w hb hA hl
    · exact lay_bool1 A cap l w hb hA hl
  · obtain rfl := r1 rfl
    have hsz : s.size ≤ 1024 := by
      have : s.toList.length ≤ 1024 := by simpa [rightB] using hr
      rwa [tol_len] at this
    exact lay_text A cap l s hsz w hb hA hl

end Go.Proofs.YtabnjiepmhblaaaDoor.V4

/-! The document's Fits. -/
namespace Go.Proofs.YtabnjiepmhblaaaDoor
open Go.RowKit Go.Shelf Go.Maps
set_option linter.unusedVariables false

end Go.Proofs.YtabnjiepmhblaaaDoor
