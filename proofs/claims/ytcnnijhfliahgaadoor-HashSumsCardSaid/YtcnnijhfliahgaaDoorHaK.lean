/- The walks of stackyardlaw03.shown (23) and HashBack (12); digests and their texts are one to one. -/
import Derived.Test.YtcnnijhfliahgaaDoorHaU
import Derived.Stop.BytesEq
import Derived.Lib.SlBytesConst
namespace Go.Proofs.YtcnnijhfliahgaaDoor
open Go.RowKit
set_option linter.unusedVariables false

theorem dig_hexC : ∀ x < 16, dig (hexC x) = (x : Int) := by decide +kernel
theorem hexC_dig0 : ∀ n < 256, 0 ≤ dig (UInt8.ofNat n) → hexC (dig (UInt8.ofNat n)).toNat = UInt8.ofNat n := by decide +kernel
theorem hexC_dig (c : UInt8) (h : 0 ≤ dig c) : hexC (dig c).toNat = c := by
  have := hexC_dig0 c.toNat c.toNat_lt
  rw [UInt8.ofNat_toNat] at this
  exact this h
theorem hexL_get : ∀ (d : List UInt8) (i : Nat), i < d.length → (hexL d).getD (2 * i) 0 = hexC ((d.getD i 0).toNat / 16) ∧ (hexL d).getD (2 * i + 1) 0 = hexC ((d.getD i 0).toNat % 16)
  | c :: t, 0, _ => ⟨rfl, rfl⟩
  | c :: t, i + 1, h => by
    have ih := hexL_get t i (by simpa using h)
    have e : hexL (c :: t) = hexC (c.toNat / 16) :: hexC (c.toNat % 16) :: hexL t := rfl
    rw [e, show 2 * (i + 1) = 2 * i + 1 + 1 by omega, show 2 * i + 1 + 1 + 1 = (2 * i + 1) + 1 + 1 by omega]
    simpa only [List.getD_cons_succ] using ih
theorem pair_hex (d : List UInt8) (i : Nat) (h : i < d.length) : pairB (hexL d) i = some (d.getD i 0) := by
  obtain ⟨e1, e2⟩ := hexL_get d i h
  have hc := (d.getD i 0).toNat_lt
  unfold pairB
  rw [e1, e2, dig_hexC _ (by omega), dig_hexC _ (by omega), if_neg (by omega)]
  congr 1
  rw [show (((d.getD i 0).toNat / 16 : Nat) : Int) * 16 + (((d.getD i 0).toNat % 16 : Nat) : Int) = (((d.getD i 0).toNat : Nat) : Int) by omega, Int.toNat_natCast, UInt8.ofNat_toNat]
theorem unhex_hex (d : List UInt8) (hd : d.length = 32) : unhexO (hexL d) = some d := by
  unfold unhexO
  rw [if_pos ⟨by rw [hexL_len, hd], List.all_eq_true.2 fun i hi => by rw [pair_hex d i (by rw [hd]; simpa using hi)]; rfl⟩]
  congr 1
  apply List.ext_getElem?
  intro i
  simp only [unP, List.getElem?_map]
  by_cases hi : i < 32
  · rw [List.getElem?_range hi]
    simp only [Option.map_some]
    rw [if_pos hi, pair_hex d i (by omega), List.getElem?_eq_getElem (by omega)]
    simp [List.getD, List.getElem?_eq_getElem (show i < d.length by omega)]
  · rw [List.getElem?_eq_none (by simp; omega), List.getElem?_eq_none (by omega)]
    rfl
theorem pair_back (s : List UInt8) (i : Nat) (b : UInt8) (h : pairB s i = some b) : hexC (b.toNat / 16) = s.getD (2 * i) 0 ∧ hexC (b.toNat % 16) = s.getD (2 * i + 1) 0 := by
  unfold pairB at h
  generalize s.getD (2 * i) 0 = x at h ⊢
  generalize s.getD (2 * i + 1) 0 = y at h ⊢
  by_cases hb : dig x < 0 ∨ dig y < 0
  · rw [if_pos hb] at h; cases h
  · rw [if_neg hb] at h
    injection h with h
    have h1 := dig_bd x
    have h2 := dig_bd y
    have hx := hexC_dig x (by omega)
    have hy := hexC_dig y (by omega)
    have e : b.toNat = (dig x * 16 + dig y).toNat := by rw [← h, UInt8.toNat_ofNat']; omega
    rw [e, show (dig x * 16 + dig y).toNat / 16 = (dig x).toNat by omega, show (dig x * 16 + dig y).toNat % 16 = (dig y).toNat by omega]
    exact ⟨hx, hy⟩
theorem ext_getD {l m : List UInt8} (hl : l.length = m.length) (h : ∀ j, j < l.length → l.getD j 0 = m.getD j 0) : l = m := by
  apply List.ext_getElem hl
  intro j h1 h2
  have := h j h1
  simpa [List.getD, h1, h2] using this
theorem str_toList (l : List UInt8) : (str l).toList = l := by rw [ByteArray.toList_eq]; rfl
theorem hex_unhex (s d : List UInt8) (h : unhexO s = some d) : hexL d = s ∧ d.length = 32 := by
  unfold unhexO at h
  by_cases hc : s.length = 64 ∧ ((List.range 32).all fun i => (pairB s i).isSome) = true
  · rw [if_pos hc] at h
    injection h with h
    subst h
    refine ⟨?_, unP_len _ _⟩
    have hl : (hexL (unP s 32)).length = 64 := by rw [hexL_len, unP_len]
    have key : ∀ i, i < 32 → (hexL (unP s 32)).getD (2 * i) 0 = s.getD (2 * i) 0 ∧ (hexL (unP s 32)).getD (2 * i + 1) 0 = s.getD (2 * i + 1) 0 := by
      intro i hi
      obtain ⟨e1, e2⟩ := hexL_get (unP s 32) i (by rw [unP_len]; exact hi)
      obtain ⟨b, hb⟩ := Option.isSome_iff_exists.1 (List.all_eq_true.1 hc.2 i (by simpa using hi))
      have eb : (unP s 32).getD i 0 = b := by
        simp only [unP, List.getD_eq_getElem?_getD, List.getElem?_map, List.getElem?_range hi, Option.map_some, Option.getD_some, if_pos hi, hb]
      obtain ⟨f1, f2⟩ := pair_back s i b hb
      rw [e1, e2, eb]
      exact ⟨f1, f2⟩
    refine ext_getD (hl.trans hc.1.symm) fun j hj => ?_
    obtain ⟨k1, k2⟩ := key (j / 2) (by omega)
    by_cases hp : j % 2 = 0
    · rw [show 2 * (j / 2) = j by omega] at k1; exact k1
    · rw [show 2 * (j / 2) + 1 = j by omega] at k2; exact k2
  · rw [if_neg hc] at h; cases h
theorem unR_hex (d : List UInt8) (hd : d.length = 32) : unR (hexL d) = .tuple #[.agg (u8s d).toArray, .int .i64 0] := by unfold unR; rw [unhex_hex d hd]

/-- Slices of bytes in a block of their own, as a call with one part is handed it. -/
theorem partsC_one {w : World} {X : Nat} {A : Option Addr} {c : Nat} {l : List UInt8} (h0 : w.cell? ⟨X, 0, none⟩ = some (.slice A l.length c)) (hb : Byt w A l) (hl : l.length ≤ c) (hc : c ≤ maxLen) (hn : A = none → c = 0) : PartsC w (some ⟨X, 0, none⟩) [l] := by
  intro k hk
  match k, hk with
  | 0, _ => exact ⟨X, 0, A, c, rfl, h0, hb, hl, hc, hn⟩
theorem ld_row_g {ops : Array Oper} {rest : List Oper} {o : Oper} {a : Act} {Q : Exit → Act → World → Prop} {w : World} (hw : Region.wanted o (yielded ops a.tmps) = true) (ty : TypeId) (x : Operand) (ho : o.op = .load ty x) (n : Nat) (e : TypeId)
    (hu : Tryd.prog.underlying ty = some (.array n e)) {m : Nat} (hi : (Tryd.prog.info? ty).map (·.size) = some m) (g : Nat) (t : TypeId) (cs : List Value) (hx : a.eval x = .pointer (some ⟨g, 0, none⟩)) (hg : Blk w g t cs) (hl : cs.length = m)
    (h : wpList Tryd.prog ops Q rest (a.put o.dst (.agg cs.toArray)) w) : wpList Tryd.prog ops Q (o :: rest) a w :=
  wpList_step fun K hK => by
    rw [if_pos hw]
    exact wp_load_row ty x ho g hx t cs.toArray (0, 0) (.array n e) hg hu rfl (by rw [hi, ← hl]; simp) (hK _ _ h)
theorem byt_born (w : World) (l : List UInt8) (fr : Nat × Nat) : Byt (w.alloc (.cells (u8s l).toArray 5 fr)) (some ⟨w.heap.size, 0, none⟩) l := by
  intro k hk
  refine ⟨w.heap.size, 0, rfl, ?_⟩
  rw [Nat.zero_add, cell_of_row _ w.heap.size k (u8s l).toArray 5 fr (heap_alloc_new w _)]
  simp [u8s, hk]
theorem eq32 (x y : List UInt8) (hx : x.length = 32) (hy : y.length = 32) (w : World) : (Op.equalIn 10000 42 (.agg (u8s x).toArray) (.agg (u8s y).toArray)).run Tryd.prog w = .ok (x == y) w :=
  run_equalIn_bytes (P := Tryd.prog) w 9998 42 5 32 ar42 Tryd.underlying5 (fun w => by kernel_rfl) x y hx hy
def abcT : List UInt8 := [53, 48, 56, 99, 53, 101, 56, 99, 51, 50, 55, 99, 49, 52, 101, 50, 101, 49, 97, 55, 50, 98, 97, 51, 52, 101, 101, 98, 52, 53, 50, 102, 51, 55, 52, 53, 56, 98, 50, 48, 57, 101, 100, 54, 51, 97, 50, 57, 52, 100, 57, 57, 57, 98, 52, 99, 56, 54, 54, 55, 53, 57, 56, 50]

set_option maxHeartbeats 2000000 in
set_option maxRecDepth 100000 in
theorem shown3_any (w : World) {t0 t1 : TypeId} (g0 : Blk w 0 t0 (u32s ivs)) (g1 : Blk w 1 t1 (u8s permB)) : Calls Tryd.prog 23 #[] w fun e w' => e = .returned (.bool true) ∧ Below w.heap.size w w' := by
  have G0 := Lib.hid g0
  have G1 := Lib.hid g1
  have sz2 := lt_of_block g1
  clear g0 g1
  have hsum : ∀ w1 : World, w1 = (w.alloc (Obj.cells #[Value.int .u8 97, Value.int .u8 98, Value.int .u8 99] 5 (3, 4))).alloc (Obj.cells #[Value.slice (some ⟨w.heap.size, 0, none⟩) 3 3] 30) → Calls Tryd.prog 24 #[.slice (some ⟨w.heap.size + 1, 0, none⟩) 1 1] w1 fun e w' => e = .returned (.agg (u8s (sumD [97, 98, 99])).toArray) ∧ Below w1.heap.size w1 w' := by
    rintro w1 rfl
    have hb : Byt (w.alloc (Obj.cells #[Value.int .u8 97, Value.int .u8 98, Value.int .u8 99] 5 (3, 4))) (some ⟨w.heap.size, 0, none⟩) [97, 98, 99] := byt_born w [97, 98, 99] (3, 4)
    have hb2 := hb.keep ((Below.refl _ _).alloc (Nat.le_refl _) (Obj.cells #[Value.slice (some ⟨w.heap.size, 0, none⟩) 3 3] 30))
    have hx := (Blk.born (w.alloc (Obj.cells #[Value.int .u8 97, Value.int .u8 98, Value.int .u8 99] 5 (3, 4))) 30 [Value.slice (some ⟨w.heap.size, 0, none⟩) 3 3]).at_ 0
    simp only [World.size_alloc] at hx
    exact sum_walk (some ⟨w.heap.size + 1, 0, none⟩) 1 [[97, 98, 99]] _ (partsC_one (c := 3) hx hb2 (by decide) (by unfold maxLen; decide) (by simp)) (by simp) (by simp) ((G0.out.later _).later _) ((G1.out.later _).later _)
  have hhex := fun w => hex_any (sumD [97, 98, 99]) w (sumD_len _)
  rw [abc_sum] at hhex
  have HS := Lib.hid hsum
  have HH := Lib.hid hhex
  clear hsum hhex
  have kc := fun (w : World) (C : Array Value) (n c : Nat) => Lib.run_convert_bytes_const (P := Tryd.prog) w 30 5 C n c Tryd.underlying30 Tryd.underlying5
  have kt := str_toList [53, 48, 56, 99, 53, 101, 56, 99, 51, 50, 55, 99, 49, 52, 101, 50, 101, 49, 97, 55, 50, 98, 97, 51, 52, 101, 101, 98, 52, 53, 50, 102, 51, 55, 52, 53, 56, 98, 50, 48, 57, 101, 100, 54, 51, 97, 50, 57, 52, 100, 57, 57, 57, 98, 52, 99, 56, 54, 54, 55, 53, 57, 56, 50]
  go_enter Tryd.func23, Tryd.ntmps23
  go_wp2_with (first | (go_at_call 24; refine (HS.out _ rfl).mono ?_; rintro e w2 ⟨rfl, hb2⟩; have HB2 := Lib.hid hb2; clear hb2) | (go_at_call 28; refine (HH.out _).mono ?_; rintro e w3 ⟨rfl, hb3⟩; have HB3 := Lib.hid hb3; clear hb3))
  go_ret
  refine ⟨rfl, ?_⟩
  have hb0 : Below w.heap.size w ((w.alloc (Obj.cells #[Value.int .u8 97, Value.int .u8 98, Value.int .u8 99] 5 (3, 4))).alloc (Obj.cells #[Value.slice (some ⟨w.heap.size, 0, none⟩) 3 3] 30)) := ((Below.refl _ _).alloc (Nat.le_refl _) _).alloc (by simp) _
  have hb1 := hb0.trans (HB2.out.mono hb0.size)
  exact hb1.trans (HB3.out.mono hb1.size)

set_option maxHeartbeats 4000000 in
set_option maxRecDepth 100000 in
theorem back_walk (d : List UInt8) (s : ByteArray) (w : World) (hd : d.length = 32) (hs : s.size ≤ maxLen) {t0 t1 : TypeId} (g0 : Blk w 0 t0 (u32s ivs)) (g1 : Blk w 1 t1 (u8s permB)) :
    Calls Tryd.prog 12 #[.agg (u8s d).toArray, .string s] w fun e w' => e = .returned (.bool true) ∧ Below w.heap.size w w' := by
  have bd : Blk (w.alloc (Obj.cells (u8s d).toArray 42)) w.heap.size 42 (u8s d) := Blk.born w 42 (u8s d)
  have bel0 : Below w.heap.size w (w.alloc (Obj.cells (u8s d).toArray 42)) := (Below.refl _ _).alloc (Nat.le_refl _) _
  have hsh := shown3_any (w.alloc (Obj.cells (u8s d).toArray 42)) (g0.later _) (g1.later _)
  have hul : (u8s d).length = 32 := by rw [u8s_len, hd]
  have hhex := fun w => hex_any d w hd
  have hun1 := fun w => unhex_any (str (hexL d)) w (by rw [str_size, hexL_len, hd]; unfold maxLen; decide)
  rw [str_list, unR_hex d hd] at hun1
  have hun2 := fun w => unhex_any s w hs
  have eqd : ∀ w', (Op.equalIn 10000 42 (.agg (u8s d).toArray) (.agg (u8s d).toArray)).run Tryd.prog w' = .ok true w' := fun w' => by rw [eq32 d d hd hd w']; simp
  have BD := Lib.hid bd
  have BEL0 := Lib.hid bel0
  have HSH := Lib.hid hsh
  have HUL := Lib.hid hul
  have HHEX := Lib.hid hhex
  have HUN1 := Lib.hid hun1
  have HD := Lib.hid hd
  clear bd bel0 hsh hul hhex hun1 g0 g1 hd
  cases hu : unhexO s.data.toList with
  | none =>
    have hr : unR s.data.toList = .tuple #[.agg (u8s zero32).toArray, .int .i64 2] := by unfold unR; rw [hu]
    rw [hr] at hun2
    have HUN2 := Lib.hid hun2
    clear hun2 hr hu
    go_enter Tryd.func12, Tryd.ntmps12
    go_wp2_with (first | (go_at_call 23; refine HSH.out.mono ?_; rintro e w1 ⟨rfl, hb⟩; have HB1 := Lib.hid hb; have HD1 : Hid (Blk w1 w.heap.size 42 (u8s d)) := BD.out.below hb (by simp); have BL1 : Hid (Below w.heap.size w w1) := BEL0.out.trans (hb.mono BEL0.out.size); clear hb) | (refine ld_row rfl 42 (.tmp 2) rfl 32 5 ar42 sz42 w.heap.size 42 (u8s d) rfl HD1.out HUL.out ?_) | (go_at_call 28; refine (HHEX.out _).mono ?_; rintro e w2 ⟨rfl, hb⟩; have HD2 : Hid (Blk w2 w.heap.size 42 (u8s d)) := HD1.out.below hb (lt_of_block HD1.out); have BL2 : Hid (Below w.heap.size w w2) := BL1.out.trans (hb.mono BL1.out.size); clear hb HHEX) | (go_at_call 26; refine (HUN1.out _).mono ?_; rintro e w3 ⟨rfl, hb⟩; have HD3 : Hid (Blk w3 w.heap.size 42 (u8s d)) := HD2.out.below hb (lt_of_block HD2.out); have BL3 : Hid (Below w.heap.size w w3) := BL2.out.trans (hb.mono BL2.out.size); clear hb HUN1) | (refine st_row rfl 42 (.tmp 6) (.tmp 15) rfl 32 sz42 w3.heap.size 42 (u8s zero32) (u8s d) rfl rfl (born32 w3) HUL.out (by rfl) (u8s_one _) ?_; intro w4 hg hs; have HA4 := Lib.hid hg; have HD4 : Hid (Blk w4 w.heap.size 42 (u8s d)) := (HD3.out.later _).sole hs (by have := lt_of_block HD3.out; omega); have BL4 : Hid (Below w.heap.size w w4) := hs.below (BL3.out.alloc BL3.out.size _) BL3.out.size; clear hg hs) | (go_at_call 26; refine (HUN2.out _).mono ?_; rintro e w5 ⟨rfl, hb⟩; have HA5 : Hid (Blk w5 w3.heap.size 42 (u8s d)) := HA4.out.below hb (lt_of_block HA4.out); have HD5 : Hid (Blk w5 w.heap.size 42 (u8s d)) := HD4.out.below hb (lt_of_block HD4.out); have BL5 : Hid (Below w.heap.size w w5) := BL4.out.trans (hb.mono BL4.out.size); clear hb HUN2) | (refine st_row rfl 42 (.tmp 8) (.tmp 20) rfl 32 sz42 w5.heap.size 42 (u8s zero32) (u8s zero32) rfl rfl (born32 w5) (by rfl) (by rfl) (u8s_one _) ?_; intro w6 hg hs; have HB6 := Lib.hid hg; have HA6 : Hid (Blk w6 w3.heap.size 42 (u8s d)) := (HA5.out.later _).sole hs (by have := lt_of_block HA5.out; omega); have HD6 : Hid (Blk w6 w.heap.size 42 (u8s d)) := (HD5.out.later _).sole hs (by have := lt_of_block HD5.out; omega); have BL6 : Hid (Below w.heap.size w w6) := hs.below (BL5.out.alloc BL5.out.size _) BL5.out.size; clear hg hs) | (refine ld_row_g (by rfl) 42 (.tmp 6) rfl 32 5 ar42 sz42 w3.heap.size 42 (u8s d) rfl HA6.out HUL.out ?_) | (refine ld_row_g (by rfl) 42 (.tmp 2) rfl 32 5 ar42 sz42 w.heap.size 42 (u8s d) rfl HD6.out HUL.out ?_))
    go_ret
    exact ⟨rfl, BL6.out⟩
  | some b =>
    obtain ⟨hbs, hbl⟩ := hex_unhex _ _ hu
    have hr : unR s.data.toList = .tuple #[.agg (u8s b).toArray, .int .i64 0] := by unfold unR; rw [hu]
    rw [hr] at hun2
    have hhb := fun w => hex_any b w hbl
    have hub : (u8s b).length = 32 := by rw [u8s_len, hbl]
    have kt := str_toList (hexL b)
    have kt2 : s.toList = hexL b := by rw [hbs, ByteArray.toList_eq]
    have HUN2 := Lib.hid hun2
    have HHB := Lib.hid hhb
    have HUB := Lib.hid hub
    clear hun2 hr hu hhb hub hbs hbl
    go_enter Tryd.func12, Tryd.ntmps12
    go_wp2_with (first | (go_at_call 23; refine HSH.out.mono ?_; rintro e w1 ⟨rfl, hb⟩; have HB1 := Lib.hid hb; have HD1 : Hid (Blk w1 w.heap.size 42 (u8s d)) := BD.out.below hb (by simp); have BL1 : Hid (Below w.heap.size w w1) := BEL0.out.trans (hb.mono BEL0.out.size); clear hb) | (refine ld_row rfl 42 (.tmp 2) rfl 32 5 ar42 sz42 w.heap.size 42 (u8s d) rfl HD1.out HUL.out ?_) | (go_at_call 28; refine (HHEX.out _).mono ?_; rintro e w2 ⟨rfl, hb⟩; have HD2 : Hid (Blk w2 w.heap.size 42 (u8s d)) := HD1.out.below hb (lt_of_block HD1.out); have BL2 : Hid (Below w.heap.size w w2) := BL1.out.trans (hb.mono BL1.out.size); clear hb HHEX) | (go_at_call 26; refine (HUN1.out _).mono ?_; rintro e w3 ⟨rfl, hb⟩; have HD3 : Hid (Blk w3 w.heap.size 42 (u8s d)) := HD2.out.below hb (lt_of_block HD2.out); have BL3 : Hid (Below w.heap.size w w3) := BL2.out.trans (hb.mono BL2.out.size); clear hb HUN1) | (refine st_row rfl 42 (.tmp 6) (.tmp 15) rfl 32 sz42 w3.heap.size 42 (u8s zero32) (u8s d) rfl rfl (born32 w3) HUL.out (by rfl) (u8s_one _) ?_; intro w4 hg hs; have HA4 := Lib.hid hg; have HD4 : Hid (Blk w4 w.heap.size 42 (u8s d)) := (HD3.out.later _).sole hs (by have := lt_of_block HD3.out; omega); have BL4 : Hid (Below w.heap.size w w4) := hs.below (BL3.out.alloc BL3.out.size _) BL3.out.size; clear hg hs) | (go_at_call 26; refine (HUN2.out _).mono ?_; rintro e w5 ⟨rfl, hb⟩; have HA5 : Hid (Blk w5 w3.heap.size 42 (u8s d)) := HA4.out.below hb (lt_of_block HA4.out); have HD5 : Hid (Blk w5 w.heap.size 42 (u8s d)) := HD4.out.below hb (lt_of_block HD4.out); have BL5 : Hid (Below w.heap.size w w5) := BL4.out.trans (hb.mono BL4.out.size); clear hb HUN2) | (refine st_row rfl 42 (.tmp 8) (.tmp 20) rfl 32 sz42 w5.heap.size 42 (u8s zero32) (u8s b) rfl rfl (born32 w5) HUB.out (by rfl) (u8s_one _) ?_; intro w6 hg hs; have HB6 := Lib.hid hg; have HA6 : Hid (Blk w6 w3.heap.size 42 (u8s d)) := (HA5.out.later _).sole hs (by have := lt_of_block HA5.out; omega); have HD6 : Hid (Blk w6 w.heap.size 42 (u8s d)) := (HD5.out.later _).sole hs (by have := lt_of_block HD5.out; omega); have BL6 : Hid (Below w.heap.size w w6) := hs.below (BL5.out.alloc BL5.out.size _) BL5.out.size; clear hg hs) | (refine ld_row_g (by rfl) 42 (.tmp 6) rfl 32 5 ar42 sz42 w3.heap.size 42 (u8s d) rfl HA6.out HUL.out ?_) | (refine ld_row_g (by rfl) 42 (.tmp 2) rfl 32 5 ar42 sz42 w.heap.size 42 (u8s d) rfl HD6.out HUL.out ?_) | (refine ld_row_g (by rfl) 42 (.tmp 8) rfl 32 5 ar42 sz42 w5.heap.size 42 (u8s b) rfl HB6.out HUB.out ?_) | (go_at_call 28; refine (HHB.out _).mono ?_; rintro e w7 ⟨rfl, hb⟩; have BL7 : Hid (Below w.heap.size w w7) := BL6.out.trans (hb.mono BL6.out.size); clear hb))
    go_ret
    exact ⟨rfl, BL7.out⟩
end Go.Proofs.YtcnnijhfliahgaaDoor
