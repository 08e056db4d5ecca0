/- The walk of NetTurns (11). -/
import Derived.Test.YtmjhimbjnmgklaaNetLaws
namespace Go.Proofs.Ytmjhimbjnmgklaa
open Go.RowKit
set_option linter.unusedVariables false

theorem le4_inj {r r' : BitVec 32} (h : le4 r = le4 r') : r = r' := by
  simp only [le4, List.cons.injEq, and_true] at h
  obtain ⟨h0, h1, h2, h3⟩ := h
  have e0 := congrArg UInt8.toNat h0
  have e1 := congrArg UInt8.toNat h1
  have e2 := congrArg UInt8.toNat h2
  have e3 := congrArg UInt8.toNat h3
  simp only [UInt8.toNat_ofNat'] at e0 e1 e2 e3
  have := r.isLt
  have := r'.isLt
  apply BitVec.eq_of_toNat_eq
  omega
theorem sealed_list (t : ByteArray) : (sealed t).data.toList = le4 (crcN t.data.toList) ++ t.data.toList := rfl
theorem str_ext {l m : List UInt8} (h : str l = str m) : l = m := by
  have := congrArg (fun b => b.data.toList) h
  exact this
theorem not_sealed (t : ByteArray) (i : Nat) (c : UInt8) (hi : i < (sealed t).data.toList.length) (hc : (sealed t).data.toList[i] ≠ c) : ¬ IsS (str ((sealed t).data.toList.set i c)) := by
  rintro ⟨h4, h⟩
  have hl : (sealed t).data.toList.length = t.data.toList.length + 4 := by rw [sealed_list, List.length_append, le4_len]; omega
  obtain ⟨l, hld⟩ : ∃ l, l = t.data.toList := ⟨_, rfl⟩
  have hq : (sealed t).data.toList = le4 (crcN l) ++ l := by rw [hld, sealed_list]
  have htail : ∀ m : List UInt8, ((str m).extract 4 (str m).size).data.toList = m.drop 4 := by
    intro m
    rw [ByteArray.data_extract, Array.toList_extract, str_list, List.extract_eq_take_drop, str_size, List.take_of_length_le (by simp)]
  have h' := congrArg (fun b => b.data.toList) h
  simp only [sealed_list, htail, str_list] at h'
  by_cases hi4 : i < 4
  · have hd : ((le4 (crcN t.data.toList) ++ t.data.toList).set i c).drop 4 = t.data.toList := by
      rw [List.drop_set_of_lt hi4, List.drop_append_of_le_length (by rw [le4_len]; omega), show (le4 (crcN t.data.toList)).drop 4 = [] from rfl, List.nil_append]
    rw [hd] at h'
    have h2 : (le4 (crcN t.data.toList) ++ t.data.toList)[i]? = ((le4 (crcN t.data.toList) ++ t.data.toList).set i c)[i]? := congrArg (fun m => m[i]?) h'
    rw [List.getElem?_set_self (by rw [← sealed_list]; exact hi)] at h2
    have h3 : (sealed t).data.toList[i]? = some c := by rw [sealed_list]; exact h2
    rw [List.getElem?_eq_getElem hi] at h3
    exact hc (by simpa using h3)
  · obtain ⟨j, rfl⟩ : ∃ j, i = 4 + j := ⟨i - 4, by omega⟩
    have hset : (le4 (crcN t.data.toList) ++ t.data.toList).set (4 + j) c = le4 (crcN t.data.toList) ++ t.data.toList.set j c := by
      rw [List.set_append_right _ _ (by rw [le4_len]; omega), le4_len, Nat.add_sub_cancel_left]
    rw [hset, List.drop_append_of_le_length (by rw [le4_len]; omega), show (le4 (crcN t.data.toList)).drop 4 = [] from rfl, List.nil_append] at h'
    have h2 := List.append_inj_left h' (by rw [le4_len, le4_len])
    have hj : j < t.data.toList.length := by rw [hl] at hi; omega
    refine crcN_set t.data.toList j c hj ?_ (le4_inj h2)
    intro e
    apply hc
    simp only [sealed_list]
    rw [List.getElem_append_right (by rw [le4_len]; omega)]
    simpa [le4_len] using e
theorem conv_set (w : World) (q : ByteArray) (c : Nat) (fr : Nat × Nat) (i : Nat) (b : UInt8) (hi : i < q.size) (W : World) (hW : W = ((w.alloc (Obj.cells (bytesRow q c) 5 fr)).setCell ⟨w.heap.size, i, none⟩ (.int .u8 (b.toNat : Int))).drew) :
    (convert 22 9 (.slice (some ⟨w.heap.size, 0, none⟩) q.size c)).run Try.prog W = .ok (.string (str (q.data.toList.set i b))) W := by
  have hl : (q.data.toList.set i b).length = q.size := by rw [List.length_set, Array.length_toList]; rfl
  rw [← hl]
  refine conv ?_ c
  subst hW
  intro k hk
  rw [hl] at hk
  have hb := byt_row w q c fr k (by rw [Array.length_toList]; exact hk)
  obtain ⟨b', o', e, hcell⟩ := hb
  simp only [Option.some.injEq, Addr.mk.injEq] at e
  obtain ⟨rfl, rfl, -⟩ := e
  refine ⟨w.heap.size, 0, rfl, ?_⟩
  rw [Nat.zero_add] at hcell ⊢
  show ((w.alloc (Obj.cells (bytesRow q c) 5 fr)).setCell ⟨w.heap.size, i, none⟩ (.int .u8 (b.toNat : Int))).cell? ⟨w.heap.size, k, none⟩ = _
  by_cases hki : k = i
  · subst hki
    rw [World.cell?_setCell_same _ _ _ hcell]
    simp
  · rw [World.cell?_setCell_other _ _ _ _ (by intro e; cases e; exact hki rfl), hcell]
    rw [List.getElem_set_ne (fun e => hki e.symm)]
/-- What the walk reads of a text's bytes in a new block. -/
theorem row_cell (w : World) (q : ByteArray) (c : Nat) (fr : Nat × Nat) (i : Nat) (x : UInt8) (hx : q.data.toList[i]? = some x) : (w.alloc (Obj.cells (bytesRow q c) 5 fr)).drew.cell? ⟨w.heap.size, i, none⟩ = some (.int .u8 (x.toNat : Int)) := by
  obtain ⟨hl, rfl⟩ := List.getElem?_eq_some_iff.1 hx
  have := cell_of_row (w.alloc (Obj.cells (bytesRow q c) 5 fr)) w.heap.size i (bytesRow q c) 5 fr (heap_alloc_new w _)
  rw [bytesRow_get q c i hl] at this
  exact this
theorem row_free (w : World) (q : ByteArray) (c : Nat) (i : Nat) (hi : i < q.size) : (w.alloc (Obj.cells (bytesRow q c) 5 ((bytesRow q c).size, (bytesRow q c).size + 1))).drew.frozen? ⟨w.heap.size, i, none⟩ = false := by
  have h : (w.alloc (Obj.cells (bytesRow q c) 5 ((bytesRow q c).size, (bytesRow q c).size + 1))).drew.heap[w.heap.size]? = some (Obj.cells (bytesRow q c) 5 ((bytesRow q c).size, (bytesRow q c).size + 1)) := heap_alloc_new w _
  have hs : q.size ≤ (bytesRow q c).size := by
    unfold bytesRow
    simp
  unfold World.frozen?
  rw [h]
  simp
  omega
theorem cut_size' (s : ByteArray) : (s.extract 0 10000).size ≤ 10000 := by simp; omega

set_option maxHeartbeats 1000000 in
set_option maxRecDepth 100000 in
theorem nturns_neg (s : ByteArray) (at_ : Int) (c : UInt8) (h : at_ < 0) (w : World) (hs : s.size ≤ maxLen) (hc : s.size ≤ 10000) : Calls Try.prog 11 #[.string s, .int .i64 at_, .int .u8 (c.toNat : Int)] w fun e w' => e = .returned (.bool true) ∧ Below w.heap.size w w' := by
  have hsh := shown20_any w
  have kb := fun (w : World) (s : ByteArray) => run_bytes_of_string (P := Try.prog) w 9 22 5 s Try.underlying9 Try.underlying22 Try.underlying5
  have tm : min (s.size : Int) 10000 = (s.size : Int) := by omega
  have h3 := fun W => seal_any s W (by first | omega | (have := cut_size' s; omega))
  have d1 : decide (at_ < 0) = true := by simp; exact h
  generalize sealed s = q at h3
  clear h
  go_enter Try.func11, Try.ntmps11
  go_wp2_with (first | (go_at_call 29; refine hsh.mono ?_; rintro e w1 ⟨rfl, hb⟩) | (go_at_call 32; refine (h3 _).mono ?_; rintro e w4 ⟨rfl, hb4⟩; have hb := hb.trans (hb4.mono hb.size)))
  go_ret
  exact ⟨rfl, hb.trans (((Below.refl _ _).alloc hb.size _).drew)⟩

set_option maxHeartbeats 1000000 in
set_option maxRecDepth 100000 in
theorem nturns_far (s : ByteArray) (at_ : Int) (c : UInt8) (h0 : 0 ≤ at_) (h : ((sealed s).size : Int) ≤ at_) (w : World) (hs : s.size ≤ maxLen) (hc : s.size ≤ 10000) : Calls Try.prog 11 #[.string s, .int .i64 at_, .int .u8 (c.toNat : Int)] w fun e w' => e = .returned (.bool true) ∧ Below w.heap.size w w' := by
  have hsh := shown20_any w
  have kb := fun (w : World) (s : ByteArray) => run_bytes_of_string (P := Try.prog) w 9 22 5 s Try.underlying9 Try.underlying22 Try.underlying5
  have tm : min (s.size : Int) 10000 = (s.size : Int) := by omega
  have h3 := fun W => seal_any s W (by first | omega | (have := cut_size' s; omega))
  have d1 : decide (at_ < 0) = false := by simp; exact h0
  have d2 : decide (((sealed s).size : Int) ≤ at_) = true := by simp; exact h
  clear h h0
  generalize sealed s = q at h3 d2
  go_enter Try.func11, Try.ntmps11
  go_wp2_with (first | (go_at_call 29; refine hsh.mono ?_; rintro e w1 ⟨rfl, hb⟩) | (go_at_call 32; refine (h3 _).mono ?_; rintro e w4 ⟨rfl, hb4⟩; have hb := hb.trans (hb4.mono hb.size)))
  go_ret
  exact ⟨rfl, hb.trans (((Below.refl _ _).alloc hb.size _).drew)⟩

set_option maxHeartbeats 1000000 in
set_option maxRecDepth 100000 in
theorem nturns_same (s : ByteArray) (i : Nat) (c x : UInt8) (hi : i < (sealed s).size) (hx : (sealed s).data.toList[i]? = some x) (hxc : x = c) (w : World) (hs : s.size ≤ maxLen) (hc : s.size ≤ 10000) : Calls Try.prog 11 #[.string s, .int .i64 (i : Int), .int .u8 (c.toNat : Int)] w fun e w' => e = .returned (.bool true) ∧ Below w.heap.size w w' := by
  have hsh := shown20_any w
  have kb := fun (w : World) (s : ByteArray) => run_bytes_of_string (P := Try.prog) w 9 22 5 s Try.underlying9 Try.underlying22 Try.underlying5
  have tm : min (s.size : Int) 10000 = (s.size : Int) := by omega
  have h3 := fun W => seal_any s W (by first | omega | (have := cut_size' s; omega))
  have d1 : decide ((i : Int) < 0) = false := by simp
  have d2 : decide (((sealed s).size : Int) ≤ (i : Int)) = false := by simp; exact hi
  generalize sealed s = q at h3 d2 hi hx
  subst hxc
  go_enter Try.func11, Try.ntmps11
  go_wp2_with (first | (go_at_call 29; refine hsh.mono ?_; rintro e w1 ⟨rfl, hb⟩) | (go_at_call 32; refine (h3 _).mono ?_; rintro e w4 ⟨rfl, hb4⟩; have hb := hb.trans (hb4.mono hb.size); have hcell : (w4.alloc (Obj.cells (bytesRow q (grownCap w4 q.size 0 5)) 5 ((bytesRow q (grownCap w4 q.size 0 5)).size, (bytesRow q (grownCap w4 q.size 0 5)).size + 1))).drew.cell? ⟨w4.heap.size, i, none⟩ = some (.int .u8 (x.toNat : Int)) := row_cell w4 q _ _ i x hx; have hfz : (w4.alloc (Obj.cells (bytesRow q (grownCap w4 q.size 0 5)) 5 ((bytesRow q (grownCap w4 q.size 0 5)).size, (bytesRow q (grownCap w4 q.size 0 5)).size + 1))).drew.frozen? ⟨w4.heap.size, i, none⟩ = false := row_free w4 q _ i hi))
  go_ret
  exact ⟨rfl, hb.trans (((Below.refl _ _).alloc hb.size _).drew)⟩

set_option maxHeartbeats 1000000 in
set_option maxRecDepth 100000 in
theorem nturns_other (s : ByteArray) (i : Nat) (c x : UInt8) (hi : i < (sealed s).size) (hx : (sealed s).data.toList[i]? = some x) (hxc : x ≠ c) (w : World) (hs : s.size ≤ maxLen) (hc : s.size ≤ 10000) : Calls Try.prog 11 #[.string s, .int .i64 (i : Int), .int .u8 (c.toNat : Int)] w fun e w' => e = .returned (.bool true) ∧ Below w.heap.size w w' := by
  have hsh := shown20_any w
  have kb := fun (w : World) (s : ByteArray) => run_bytes_of_string (P := Try.prog) w 9 22 5 s Try.underlying9 Try.underlying22 Try.underlying5
  have tm : min (s.size : Int) 10000 = (s.size : Int) := by omega
  have h3 := fun W => seal_any s W (by first | omega | (have := cut_size' s; omega))
  have d1 : decide ((i : Int) < 0) = false := by simp
  have d2 : decide (((sealed s).size : Int) ≤ (i : Int)) = false := by simp; exact hi
  have d3 : ((x.toNat : Int) == (c.toNat : Int)) = false := by simp; exact fun e => hxc (UInt8.toNat_inj.1 (by omega))
  have hun := fun W => unseal_any (str ((sealed s).data.toList.set i c)) W (by rw [str_size, List.length_set, Array.length_toList]; show (sealed s).size ≤ _; rw [sealed_size]; first | omega | (have := cut_size' s; omega))
  have hno : ¬ IsS (str ((sealed s).data.toList.set i c)) := by
    obtain ⟨hl, hx'⟩ := List.getElem?_eq_some_iff.1 hx
    exact not_sealed s i c hl (by rw [hx']; exact hxc)
  have hu : unE (str ((sealed s).data.toList.set i c)) = 200 := by rw [unE, if_neg hno]
  rw [hu] at hun
  clear hno hu hxc
  generalize sealed s = q at h3 d2 hi hx hun
  generalize hQ : str (q.data.toList.set i c) = Q at hun
  generalize unS Q = u at hun
  go_enter Try.func11, Try.ntmps11
  go_wp2_with (first | (go_at_call 29; refine hsh.mono ?_; rintro e w1 ⟨rfl, hb⟩) | (go_at_call 32; refine (h3 _).mono ?_; rintro e w4 ⟨rfl, hb4⟩; have hb := hb.trans (hb4.mono hb.size); have hcell : (w4.alloc (Obj.cells (bytesRow q (grownCap w4 q.size 0 5)) 5 ((bytesRow q (grownCap w4 q.size 0 5)).size, (bytesRow q (grownCap w4 q.size 0 5)).size + 1))).drew.cell? ⟨w4.heap.size, i, none⟩ = some (.int .u8 (x.toNat : Int)) := row_cell w4 q _ _ i x hx; have hfz : (w4.alloc (Obj.cells (bytesRow q (grownCap w4 q.size 0 5)) 5 ((bytesRow q (grownCap w4 q.size 0 5)).size, (bytesRow q (grownCap w4 q.size 0 5)).size + 1))).drew.frozen? ⟨w4.heap.size, i, none⟩ = false := row_free w4 q _ i hi; have hcv := conv_set w4 q (grownCap w4 q.size 0 5) ((bytesRow q (grownCap w4 q.size 0 5)).size, (bytesRow q (grownCap w4 q.size 0 5)).size + 1) i c hi _ rfl; rw [hQ] at hcv) | (go_at_call 30; refine (hun _).mono ?_; rintro e w5 ⟨rfl, hb5⟩))
  all_goals (go_ret; exact ⟨rfl, hb.trans (((((Below.refl _ _).alloc hb.size _).setCell (p := ⟨w4.heap.size, i, none⟩) hb.size _).drew).trans (hb5.mono (by simp; exact Nat.le_succ_of_le hb.size)))⟩)

set_option maxHeartbeats 1000000 in
set_option maxRecDepth 100000 in
theorem nturns_neg' (s : ByteArray) (at_ : Int) (c : UInt8) (h : at_ < 0) (w : World) (hs : s.size ≤ maxLen) (hc : ¬ s.size ≤ 10000) : Calls Try.prog 11 #[.string s, .int .i64 at_, .int .u8 (c.toNat : Int)] w fun e w' => e = .returned (.bool true) ∧ Below w.heap.size w w' := by
  have hsh := shown20_any w
  have kb := fun (w : World) (s : ByteArray) => run_bytes_of_string (P := Try.prog) w 9 22 5 s Try.underlying9 Try.underlying22 Try.underlying5
  have tm : min (s.size : Int) 10000 = 10000 := by omega
  have h3 := fun W => seal_any (s.extract 0 10000) W (by first | omega | (have := cut_size' s; omega))
  have d1 : decide (at_ < 0) = true := by simp; exact h
  generalize sealed (s.extract 0 10000) = q at h3
  clear h
  go_enter Try.func11, Try.ntmps11
  go_wp2_with (first | (go_at_call 29; refine hsh.mono ?_; rintro e w1 ⟨rfl, hb⟩) | (go_at_call 32; refine (h3 _).mono ?_; rintro e w4 ⟨rfl, hb4⟩; have hb := hb.trans (hb4.mono hb.size)))
  go_ret
  exact ⟨rfl, hb.trans (((Below.refl _ _).alloc hb.size _).drew)⟩

set_option maxHeartbeats 1000000 in
set_option maxRecDepth 100000 in
theorem nturns_far' (s : ByteArray) (at_ : Int) (c : UInt8) (h0 : 0 ≤ at_) (h : ((sealed (s.extract 0 10000)).size : Int) ≤ at_) (w : World) (hs : s.size ≤ maxLen) (hc : ¬ s.size ≤ 10000) : Calls Try.prog 11 #[.string s, .int .i64 at_, .int .u8 (c.toNat : Int)] w fun e w' => e = .returned (.bool true) ∧ Below w.heap.size w w' := by
  have hsh := shown20_any w
  have kb := fun (w : World) (s : ByteArray) => run_bytes_of_string (P := Try.prog) w 9 22 5 s Try.underlying9 Try.underlying22 Try.underlying5
  have tm : min (s.size : Int) 10000 = 10000 := by omega
  have h3 := fun W => seal_any (s.extract 0 10000) W (by first | omega | (have := cut_size' s; omega))
  have d1 : decide (at_ < 0) = false := by simp; exact h0
  have d2 : decide (((sealed (s.extract 0 10000)).size : Int) ≤ at_) = true := by simp; exact h
  clear h h0
  generalize sealed (s.extract 0 10000) = q at h3 d2
  go_enter Try.func11, Try.ntmps11
  go_wp2_with (first | (go_at_call 29; refine hsh.mono ?_; rintro e w1 ⟨rfl, hb⟩) | (go_at_call 32; refine (h3 _).mono ?_; rintro e w4 ⟨rfl, hb4⟩; have hb := hb.trans (hb4.mono hb.size)))
  go_ret
  exact ⟨rfl, hb.trans (((Below.refl _ _).alloc hb.size _).drew)⟩

set_option maxHeartbeats 1000000 in
set_option maxRecDepth 100000 in
theorem nturns_same' (s : ByteArray) (i : Nat) (c x : UInt8) (hi : i < (sealed (s.extract 0 10000)).size) (hx : (sealed (s.extract 0 10000)).data.toList[i]? = some x) (hxc : x = c) (w : World) (hs : s.size ≤ maxLen) (hc : ¬ s.size ≤ 10000) : Calls Try.prog 11 #[.string s, .int .i64 (i : Int), .int .u8 (c.toNat : Int)] w fun e w' => e = .returned (.bool true) ∧ Below w.heap.size w w' := by
  have hsh := shown20_any w
  have kb := fun (w : World) (s : ByteArray) => run_bytes_of_string (P := Try.prog) w 9 22 5 s Try.underlying9 Try.underlying22 Try.underlying5
  have tm : min (s.size : Int) 10000 = 10000 := by omega
  have h3 := fun W => seal_any (s.extract 0 10000) W (by first | omega | (have := cut_size' s; omega))
  have d1 : decide ((i : Int) < 0) = false := by simp
  have d2 : decide (((sealed (s.extract 0 10000)).size : Int) ≤ (i : Int)) = false := by simp; exact hi
  generalize sealed (s.extract 0 10000) = q at h3 d2 hi hx
  subst hxc
  go_enter Try.func11, Try.ntmps11
  go_wp2_with (first | (go_at_call 29; refine hsh.mono ?_; rintro e w1 ⟨rfl, hb⟩) | (go_at_call 32; refine (h3 _).mono ?_; rintro e w4 ⟨rfl, hb4⟩; have hb := hb.trans (hb4.mono hb.size); have hcell : (w4.alloc (Obj.cells (bytesRow q (grownCap w4 q.size 0 5)) 5 ((bytesRow q (grownCap w4 q.size 0 5)).size, (bytesRow q (grownCap w4 q.size 0 5)).size + 1))).drew.cell? ⟨w4.heap.size, i, none⟩ = some (.int .u8 (x.toNat : Int)) := row_cell w4 q _ _ i x hx; have hfz : (w4.alloc (Obj.cells (bytesRow q (grownCap w4 q.size 0 5)) 5 ((bytesRow q (grownCap w4 q.size 0 5)).size, (bytesRow q (grownCap w4 q.size 0 5)).size + 1))).drew.frozen? ⟨w4.heap.size, i, none⟩ = false := row_free w4 q _ i hi))
  go_ret
  exact ⟨rfl, hb.trans (((Below.refl _ _).alloc hb.size _).drew)⟩

set_option maxHeartbeats 1000000 in
set_option maxRecDepth 100000 in
theorem nturns_other' (s : ByteArray) (i : Nat) (c x : UInt8) (hi : i < (sealed (s.extract 0 10000)).size) (hx : (sealed (s.extract 0 10000)).data.toList[i]? = some x) (hxc : x ≠ c) (w : World) (hs : s.size ≤ maxLen) (hc : ¬ s.size ≤ 10000) : Calls Try.prog 11 #[.string s, .int .i64 (i : Int), .int .u8 (c.toNat : Int)] w fun e w' => e = .returned (.bool true) ∧ Below w.heap.size w w' := by
  have hsh := shown20_any w
  have kb := fun (w : World) (s : ByteArray) => run_bytes_of_string (P := Try.prog) w 9 22 5 s Try.underlying9 Try.underlying22 Try.underlying5
  have tm : min (s.size : Int) 10000 = 10000 := by omega
  have h3 := fun W => seal_any (s.extract 0 10000) W (by first | omega | (have := cut_size' s; omega))
  have d1 : decide ((i : Int) < 0) = false := by simp
  have d2 : decide (((sealed (s.extract 0 10000)).size : Int) ≤ (i : Int)) = false := by simp; exact hi
  have d3 : ((x.toNat : Int) == (c.toNat : Int)) = false := by simp; exact fun e => hxc (UInt8.toNat_inj.1 (by omega))
  have hun := fun W => unseal_any (str ((sealed (s.extract 0 10000)).data.toList.set i c)) W (by rw [str_size, List.length_set, Array.length_toList]; show (sealed (s.extract 0 10000)).size ≤ _; rw [sealed_size]; first | omega | (have := cut_size' s; omega))
  have hno : ¬ IsS (str ((sealed (s.extract 0 10000)).data.toList.set i c)) := by
    obtain ⟨hl, hx'⟩ := List.getElem?_eq_some_iff.1 hx
    exact not_sealed (s.extract 0 10000) i c hl (by rw [hx']; exact hxc)
  have hu : unE (str ((sealed (s.extract 0 10000)).data.toList.set i c)) = 200 := by rw [unE, if_neg hno]
  rw [hu] at hun
  clear hno hu hxc
  generalize sealed (s.extract 0 10000) = q at h3 d2 hi hx hun
  generalize hQ : str (q.data.toList.set i c) = Q at hun
  generalize unS Q = u at hun
  go_enter Try.func11, Try.ntmps11
  go_wp2_with (first | (go_at_call 29; refine hsh.mono ?_; rintro e w1 ⟨rfl, hb⟩) | (go_at_call 32; refine (h3 _).mono ?_; rintro e w4 ⟨rfl, hb4⟩; have hb := hb.trans (hb4.mono hb.size); have hcell : (w4.alloc (Obj.cells (bytesRow q (grownCap w4 q.size 0 5)) 5 ((bytesRow q (grownCap w4 q.size 0 5)).size, (bytesRow q (grownCap w4 q.size 0 5)).size + 1))).drew.cell? ⟨w4.heap.size, i, none⟩ = some (.int .u8 (x.toNat : Int)) := row_cell w4 q _ _ i x hx; have hfz : (w4.alloc (Obj.cells (bytesRow q (grownCap w4 q.size 0 5)) 5 ((bytesRow q (grownCap w4 q.size 0 5)).size, (bytesRow q (grownCap w4 q.size 0 5)).size + 1))).drew.frozen? ⟨w4.heap.size, i, none⟩ = false := row_free w4 q _ i hi; have hcv := conv_set w4 q (grownCap w4 q.size 0 5) ((bytesRow q (grownCap w4 q.size 0 5)).size, (bytesRow q (grownCap w4 q.size 0 5)).size + 1) i c hi _ rfl; rw [hQ] at hcv) | (go_at_call 30; refine (hun _).mono ?_; rintro e w5 ⟨rfl, hb5⟩))
  all_goals (go_ret; exact ⟨rfl, hb.trans (((((Below.refl _ _).alloc hb.size _).setCell (p := ⟨w4.heap.size, i, none⟩) hb.size _).drew).trans (hb5.mono (by simp; exact Nat.le_succ_of_le hb.size)))⟩)

theorem nturns_any (s : ByteArray) (at_ cc : Int) (w : World) (hs : s.size ≤ maxLen) (hw : (Lit.int .u8 cc).wf = true) : Calls Try.prog 11 #[.string s, .int .i64 at_, .int .u8 cc] w fun e w' => e = .returned (.bool true) ∧ Below w.heap.size w w' := by
  obtain ⟨c, rfl⟩ := u8_of hw
  by_cases hc : s.size ≤ 10000
  · skip
    by_cases h0 : at_ < 0
    · exact nturns_neg s at_ c h0 w hs hc
    · by_cases h1 : ((sealed s).size : Int) ≤ at_
      · exact nturns_far s at_ c (by omega) h1 w hs hc
      · obtain ⟨i, rfl⟩ : ∃ i : Nat, at_ = i := ⟨at_.toNat, by omega⟩
        have hi : i < (sealed s).size := by omega
        obtain ⟨x, hx⟩ : ∃ x, (sealed s).data.toList[i]? = some x := ⟨_, List.getElem?_eq_getElem (by rw [Array.length_toList]; exact hi)⟩
        by_cases hxc : x = c
        · exact nturns_same s i c x hi hx hxc w hs hc
        · exact nturns_other s i c x hi hx hxc w hs hc
  · skip
    by_cases h0 : at_ < 0
    · exact nturns_neg' s at_ c h0 w hs hc
    · by_cases h1 : ((sealed (s.extract 0 10000)).size : Int) ≤ at_
      · exact nturns_far' s at_ c (by omega) h1 w hs hc
      · obtain ⟨i, rfl⟩ : ∃ i : Nat, at_ = i := ⟨at_.toNat, by omega⟩
        have hi : i < (sealed (s.extract 0 10000)).size := by omega
        obtain ⟨x, hx⟩ : ∃ x, (sealed (s.extract 0 10000)).data.toList[i]? = some x := ⟨_, List.getElem?_eq_getElem (by rw [Array.length_toList]; exact hi)⟩
        by_cases hxc : x = c
        · exact nturns_same' s i c x hi hx hxc w hs hc
        · exact nturns_other' s i c x hi hx hxc w hs hc
end Go.Proofs.Ytmjhimbjnmgklaa
