/- The walk of hash.Unhex (26). -/
import Derived.Test.YtcnnijhfliahgaaDoorHaH
namespace Go.Proofs.YtcnnijhfliahgaaDoor
open Go.RowKit
set_option linter.unusedVariables false

/-- The byte that the i-th two digits are. -/
def pairB (s : List UInt8) (i : Nat) : Option UInt8 :=
  if dig (s.getD (2 * i) 0) < 0 ∨ dig (s.getD (2 * i + 1) 0) < 0 then none else some (UInt8.ofNat (dig (s.getD (2 * i) 0) * 16 + dig (s.getD (2 * i + 1) 0)).toNat)
def unP (s : List UInt8) (k : Nat) : List UInt8 := (List.range 32).map fun i => if i < k then (pairB s i).getD 0 else 0
def unhexO (s : List UInt8) : Option (List UInt8) := if s.length = 64 ∧ ((List.range 32).all fun i => (pairB s i).isSome) = true then some (unP s 32) else none
def unR (s : List UInt8) : Value := match unhexO s with
  | some d => .tuple #[.agg (u8s d).toArray, .int .i64 0]
  | none => .tuple #[.agg (u8s zero32).toArray, .int .i64 2]
theorem unP_len (s : List UInt8) (k : Nat) : (unP s k).length = 32 := by simp [unP]
theorem unP_zero (s : List UInt8) : unP s 0 = zero32 := by
  apply List.ext_getElem?
  intro i
  simp only [unP, zero32, List.getElem?_map, List.getElem?_replicate, Nat.not_lt_zero, if_false]
  by_cases hi : i < 32
  · rw [List.getElem?_range hi, if_pos hi]; rfl
  · rw [List.getElem?_eq_none (by simp; omega), if_neg hi]; rfl
theorem unP_succ (s : List UInt8) (k : Nat) (b : UInt8) (hb : pairB s k = some b) (hk : k < 32) : (unP s k).set k b = unP s (k + 1) := by
  apply List.ext_getElem?
  intro i
  rw [List.getElem?_set]
  simp only [unP, List.length_map, List.length_range, List.getElem?_map]
  by_cases hi : i < 32
  · rw [List.getElem?_range hi]
    simp only [Option.map_some]
    by_cases e : k = i
    · subst e; rw [if_pos rfl, if_pos hk, if_pos (by omega), hb]; rfl
    · rw [if_neg e]
      by_cases e2 : i < k
      · rw [if_pos e2, if_pos (by omega)]
      · rw [if_neg e2, if_neg (by omega)]
  · rw [List.getElem?_eq_none (by simp; omega), if_neg (by omega)]
    rfl
theorem unR_size (s : List UInt8) (h : s.length ≠ 64) : unR s = .tuple #[.agg (u8s zero32).toArray, .int .i64 2] := by
  unfold unR unhexO; rw [if_neg (fun h2 => h h2.1)]
theorem unR_bad (s : List UInt8) (k : Nat) (hk : k < 32) (h : pairB s k = none) : unR s = .tuple #[.agg (u8s zero32).toArray, .int .i64 2] := by
  unfold unR unhexO
  rw [if_neg]
  intro h2
  have := List.all_eq_true.1 h2.2 k (by simpa using hk)
  rw [h] at this
  cases this
theorem unR_ok (s : List UInt8) (hs : s.length = 64) (h : ∀ i < 32, (pairB s i).isSome = true) : unR s = .tuple #[.agg (u8s (unP s 32)).toArray, .int .i64 0] := by
  unfold unR unhexO; rw [if_pos ⟨hs, List.all_eq_true.2 fun i hi => h i (by simpa using hi)⟩]
theorem or16 : ∀ a : Nat, a < 16 → ∀ b : Nat, b < 16 → bits .or .i64 ((a * 16 : Nat) : Int) (b : Int) = ((a * 16 + b : Nat) : Int) := by decide +kernel
theorem or_int (a b : Int) (a0 : 0 ≤ a) (a1 : a ≤ 15) (b0 : 0 ≤ b) (b1 : b ≤ 15) : bits .or .i64 (a * 16) b = a * 16 + b := by
  obtain ⟨x, rfl⟩ := Int.eq_ofNat_of_zero_le a0
  obtain ⟨y, rfl⟩ := Int.eq_ofNat_of_zero_le b0
  have := or16 x (by omega) y (by omega)
  simpa using this
theorem pair_val (a b : Int) (a0 : 0 ≤ a) (a1 : a ≤ 15) (b0 : 0 ≤ b) (b1 : b ≤ 15) : a * 16 + b = (((UInt8.ofNat (a * 16 + b).toNat).toNat : Nat) : Int) := by
  rw [UInt8.toNat_ofNat']; omega
theorem idx_str (s : ByteArray) (i : Nat) (hi : i < s.size) (w : World) : (Instr.index 9 (.string s) (.int .i64 (i : Int))).run Tryd.prog w = .ok (.int .u8 ((s.data.toList.getD i 0).toNat : Int)) w := by
  have hl : i < s.data.toList.length := by rw [str_len]; exact hi
  have hg : s[i]? = some (s.data.toList.getD i 0) := by
    rw [getElem?_pos s i hi]
    simp [List.getD, List.getElem?_eq_getElem hl]
    rfl
  simp [Instr.index, asIntOf, run_underlying Tryd.underlying9, Sem.run_bind, Result.andThen, hg]
theorem results_row2 {fn : Func} {p q : Tmp} {ty : TypeId} (h : fn.results = #[.cell p ty, .tmp q]) (tmps : Array Value) (w : World) (g : Nat) (t : TypeId) (cs : Array Value) (v : Value) (n : Nat) (e : TypeId)
    (hp : tmps.getD p undef = .pointer (some ⟨g, 0, none⟩)) (hq : tmps.getD q undef = v) (hg : w.heap[g]? = some (.cells cs t (0, 0)))
    (hu : Tryd.prog.underlying ty = some (.array n e)) (hi : (Tryd.prog.info? ty).map (·.size) = some cs.size) :
    (results fn tmps).run Tryd.prog w = .ok (.tuple #[.agg cs, v]) w := by
  have hp' : tmps[p]?.getD undef = .pointer (some ⟨g, 0, none⟩) := by simpa using hp
  have hq' : tmps[q]?.getD undef = v := by simpa using hq
  simp [results, h, hp', hq', asAddr, run_loadVar_row w g t ty cs (0, 0) (.array n e) hg hu rfl hi, Result.andThen]

set_option maxHeartbeats 4000000 in
set_option maxRecDepth 100000 in
theorem unhex_any (s : ByteArray) (w : World) (hs : s.size ≤ maxLen) :
    Calls Tryd.prog 26 #[.string s] w fun e w' => e = .returned (unR s.data.toList) ∧ Below w.heap.size w w' := by
  have h15 := (born32 w).later (Obj.cells #[Value.int .u8 0, Value.int .u8 0, Value.int .u8 0, Value.int .u8 0, Value.int .u8 0, Value.int .u8 0, Value.int .u8 0, Value.int .u8 0, Value.int .u8 0, Value.int .u8 0, Value.int .u8 0, Value.int .u8 0, Value.int .u8 0, Value.int .u8 0, Value.int .u8 0, Value.int .u8 0, Value.int .u8 0, Value.int .u8 0, Value.int .u8 0, Value.int .u8 0, Value.int .u8 0, Value.int .u8 0, Value.int .u8 0, Value.int .u8 0, Value.int .u8 0, Value.int .u8 0, Value.int .u8 0, Value.int .u8 0, Value.int .u8 0, Value.int .u8 0, Value.int .u8 0, Value.int .u8 0] 42)
  have h16 := born32 (w.alloc (Obj.cells #[Value.int .u8 0, Value.int .u8 0, Value.int .u8 0, Value.int .u8 0, Value.int .u8 0, Value.int .u8 0, Value.int .u8 0, Value.int .u8 0, Value.int .u8 0, Value.int .u8 0, Value.int .u8 0, Value.int .u8 0, Value.int .u8 0, Value.int .u8 0, Value.int .u8 0, Value.int .u8 0, Value.int .u8 0, Value.int .u8 0, Value.int .u8 0, Value.int .u8 0, Value.int .u8 0, Value.int .u8 0, Value.int .u8 0, Value.int .u8 0, Value.int .u8 0, Value.int .u8 0, Value.int .u8 0, Value.int .u8 0, Value.int .u8 0, Value.int .u8 0, Value.int .u8 0, Value.int .u8 0] 42))
  simp only [World.size_alloc] at h16
  have hbel : Below w.heap.size w ((w.alloc (Obj.cells #[Value.int .u8 0, Value.int .u8 0, Value.int .u8 0, Value.int .u8 0, Value.int .u8 0, Value.int .u8 0, Value.int .u8 0, Value.int .u8 0, Value.int .u8 0, Value.int .u8 0, Value.int .u8 0, Value.int .u8 0, Value.int .u8 0, Value.int .u8 0, Value.int .u8 0, Value.int .u8 0, Value.int .u8 0, Value.int .u8 0, Value.int .u8 0, Value.int .u8 0, Value.int .u8 0, Value.int .u8 0, Value.int .u8 0, Value.int .u8 0, Value.int .u8 0, Value.int .u8 0, Value.int .u8 0, Value.int .u8 0, Value.int .u8 0, Value.int .u8 0, Value.int .u8 0, Value.int .u8 0] 42)).alloc (Obj.cells #[Value.int .u8 0, Value.int .u8 0, Value.int .u8 0, Value.int .u8 0, Value.int .u8 0, Value.int .u8 0, Value.int .u8 0, Value.int .u8 0, Value.int .u8 0, Value.int .u8 0, Value.int .u8 0, Value.int .u8 0, Value.int .u8 0, Value.int .u8 0, Value.int .u8 0, Value.int .u8 0, Value.int .u8 0, Value.int .u8 0, Value.int .u8 0, Value.int .u8 0, Value.int .u8 0, Value.int .u8 0, Value.int .u8 0, Value.int .u8 0, Value.int .u8 0, Value.int .u8 0, Value.int .u8 0, Value.int .u8 0, Value.int .u8 0, Value.int .u8 0, Value.int .u8 0, Value.int .u8 0] 42)) := ((Below.refl _ _).alloc (Nat.le_refl _) _).alloc (by simp) _
  obtain ⟨W, hW⟩ : ∃ W, W = (w.alloc (Obj.cells #[Value.int .u8 0, Value.int .u8 0, Value.int .u8 0, Value.int .u8 0, Value.int .u8 0, Value.int .u8 0, Value.int .u8 0, Value.int .u8 0, Value.int .u8 0, Value.int .u8 0, Value.int .u8 0, Value.int .u8 0, Value.int .u8 0, Value.int .u8 0, Value.int .u8 0, Value.int .u8 0, Value.int .u8 0, Value.int .u8 0, Value.int .u8 0, Value.int .u8 0, Value.int .u8 0, Value.int .u8 0, Value.int .u8 0, Value.int .u8 0, Value.int .u8 0, Value.int .u8 0, Value.int .u8 0, Value.int .u8 0, Value.int .u8 0, Value.int .u8 0, Value.int .u8 0, Value.int .u8 0] 42)).alloc (Obj.cells #[Value.int .u8 0, Value.int .u8 0, Value.int .u8 0, Value.int .u8 0, Value.int .u8 0, Value.int .u8 0, Value.int .u8 0, Value.int .u8 0, Value.int .u8 0, Value.int .u8 0, Value.int .u8 0, Value.int .u8 0, Value.int .u8 0, Value.int .u8 0, Value.int .u8 0, Value.int .u8 0, Value.int .u8 0, Value.int .u8 0, Value.int .u8 0, Value.int .u8 0, Value.int .u8 0, Value.int .u8 0, Value.int .u8 0, Value.int .u8 0, Value.int .u8 0, Value.int .u8 0, Value.int .u8 0, Value.int .u8 0, Value.int .u8 0, Value.int .u8 0, Value.int .u8 0, Value.int .u8 0] 42) := ⟨_, rfl⟩
  rw [← hW] at h15 h16 hbel
  have HW := Lib.hid hW
  have H15 := Lib.hid h15
  have H16 := Lib.hid h16
  have HBEL := Lib.hid hbel
  unfold maxLen at hs
  clear hW h15 h16 hbel
  by_cases hsz : s.size = 64
  · have hl : s.data.toList.length = 64 := by rw [str_len, hsz]
    have HL := Lib.hid hl
    have HSZ := Lib.hid hsz
    have hsi : (s.size : Int) = 64 := by omega
    clear hl hs hsz
    go_enter Tryd.func26, Tryd.ntmps26
    go_wp2
    rw [← HW.out]
    clear HW hsi
    go_loopw [12] (fun i wr => ∃ k : Nat, k ≤ 32 ∧ i = .int .i64 k ∧ (∀ i < k, (pairB s.data.toList i).isSome = true) ∧ Blk wr (w.heap.size + 1) 42 (u8s (unP s.data.toList k)) ∧ Blk wr w.heap.size 42 (u8s zero32) ∧ Below w.heap.size w wr) (fun i _ => 32 - (intOf i).toNat)
    case atStart => exact ⟨0, by omega, rfl, fun i h => by omega, by rw [unP_zero]; exact H16.out, H15.out, HBEL.out⟩
    case round =>
      obtain ⟨k, hk, rfl, hall, hm, hr, hB⟩ := hrel
      have HALL := Lib.hid hall
      have HM := Lib.hid hm
      have HR := Lib.hid hr
      have HBel := Lib.hid hB
      clear hm hr hB hall
      by_cases hlt : k < 32
      · have k0 : (0 : Int) ≤ (k : Int) := by omega
        have k1 : (k : Int) < 32 := by omega
        have xa := idx_str s (2 * k) (by have := HSZ.out; omega)
        have xb := idx_str s (2 * k + 1) (by have := HSZ.out; omega)
        have e1 : ((2 * k : Nat) : Int) = 2 * (k : Int) := by omega
        have e2 : ((2 * k + 1 : Nat) : Int) = 2 * (k : Int) + 1 := by omega
        rw [e1] at xa
        rw [e2] at xb
        clear e1 e2
        obtain ⟨ca, hca⟩ : ∃ c, s.data.toList.getD (2 * k) 0 = c := ⟨_, rfl⟩
        obtain ⟨cb, hcb⟩ : ∃ c, s.data.toList.getD (2 * k + 1) 0 = c := ⟨_, rfl⟩
        rw [hca] at xa
        rw [hcb] at xb
        have hpair : pairB s.data.toList k = if dig ca < 0 ∨ dig cb < 0 then none else some (UInt8.ofNat (dig ca * 16 + dig cb).toNat) := by unfold pairB; rw [hca, hcb]
        have HPAIR := Lib.hid hpair
        have ba := dig_bd ca
        have bb := dig_bd cb
        obtain ⟨a, hda⟩ : ∃ a, dig ca = a := ⟨_, rfl⟩
        obtain ⟨b, hdb⟩ : ∃ b, dig cb = b := ⟨_, rfl⟩
        rw [hda] at ba HPAIR
        rw [hdb] at bb HPAIR
        obtain ⟨a1, a2⟩ := ba
        obtain ⟨b1, b2⟩ := bb
        have m1 : IntKind.i64.wrap (2 * (k : Int)) = 2 * (k : Int) := IntWalk.i64_in _ (by omega)
        have m2 : IntKind.i64.wrap (2 * (k : Int) + 1) = 2 * (k : Int) + 1 := IntWalk.i64_in _ (by omega)
        clear hca hcb hpair
        by_cases hbad : a < 0 ∨ b < 0
        · have hnone : pairB s.data.toList k = none := by rw [HPAIR.out, if_pos hbad]
          have HNONE := Lib.hid (unR_bad s.data.toList k hlt hnone)
          clear hnone
          have hbb : 0 ≤ a → b < 0 := fun h => by omega
          by_cases ha : a < 0
          all_goals
            try have ha' : 0 ≤ a := by omega
            try have hb' := hbb ha'
            clear hbb hbad
            go_wp2
            refine wp_region_still_lit (by kernel_rfl) (by kernel_rfl) ?_
            repeat still_step
            still_call ((digit_any _ _).mono fun e w' h => ⟨h.1, h.2.symm⟩)
            repeat still_step
            still_call ((digit_any _ _).mono fun e w' h => ⟨h.1, h.2.symm⟩)
            repeat still_step
            refine wpStill_nil ?_
            go_wp2_with (refine st_row rfl 42 (.tmp 2) (.tmp 32) rfl 32 sz42 w.heap.size 42 (u8s zero32) (u8s zero32) rfl rfl HR.out (by rfl) (by rfl) (u8s_one _) ?_; intro w9 hg9 hs9; have HG := Lib.hid hg9; have HS9 := Lib.hid hs9; clear hg9 hs9)
            exact bodyPost_ret (v := .tuple #[.agg (u8s zero32).toArray, .int .i64 2]) (results_row2 Tryd.results26 _ _ w.heap.size 42 _ _ 32 5 rfl rfl HG.out ar42 (by rw [sz42]; rfl)) rfl ⟨by rw [HNONE.out], HS9.out.below HBel.out.drew (Nat.le_refl _)⟩
        · have ha : ¬ a < 0 := fun h => hbad (Or.inl h)
          have hb : ¬ b < 0 := fun h => hbad (Or.inr h)
          have hsome : pairB s.data.toList k = some (UInt8.ofNat (a * 16 + b).toNat) := by rw [HPAIR.out, if_neg hbad]
          have a0 : 0 ≤ a := by omega
          have b0 : 0 ≤ b := by omega
          have ev := pair_val a b a0 a2 b0 b2
          have orr := or_int a b a0 a2 b0 b2
          obtain ⟨v, hv⟩ : ∃ v, UInt8.ofNat (a * 16 + b).toNat = v := ⟨_, rfl⟩
          rw [hv] at hsome ev
          have HSOME := Lib.hid hsome
          have fk := HM.out.free k
          have ck := HM.out.at_ k
          rw [u8s_at (by rw [unP_len]; exact hlt)] at ck
          generalize (unP s.data.toList k).getD k 0 = y0 at ck
          have v1 := v.toNat_lt
          have v2 : (v.toNat : Int) < 256 := by omega
          rw [ev] at orr
          clear hv hsome hbad v1 ev
          go_wp2
          refine wp_region_still_lit (by kernel_rfl) (by kernel_rfl) ?_
          repeat still_step
          still_call ((digit_any _ _).mono fun e w' h => ⟨h.1, h.2.symm⟩)
          repeat still_step
          still_call ((digit_any _ _).mono fun e w' h => ⟨h.1, h.2.symm⟩)
          repeat still_step
          refine wpStill_nil ?_
          go_wp2
          refine ⟨⟨k + 1, by omega, by go_num, fun i hi => ?_, ?_, HR.out.sole (((Sole.refl (w.heap.size + 1) wr).setCell k _).drew) (by omega), (HBel.out.setCell (p := ⟨w.heap.size + 1, k, none⟩) (by simp) _).drew⟩, by simp [intOf]; omega⟩
          · by_cases e : i = k
            · rw [e, HSOME.out]; rfl
            · exact HALL.out i (by omega)
          · have hst := HM.out.store k (.int .u8 (v.toNat : Int))
            rw [u8s_set, unP_succ _ _ _ HSOME.out hlt] at hst
            exact hst
      · have hk32 : k = 32 := by omega
        subst hk32
        have HUN := Lib.hid (unR_ok s.data.toList HL.out HALL.out)
        go_wp2_with (first | (refine ld_row rfl 42 (.tmp 4) rfl 32 5 ar42 sz42 (w.heap.size + 1) 42 (u8s (unP s.data.toList 32)) rfl HM.out (by rw [u8s_len, unP_len]) ?_) | (refine st_row rfl 42 (.tmp 2) (.tmp 41) rfl 32 sz42 w.heap.size 42 (u8s zero32) (u8s (unP s.data.toList 32)) rfl rfl HR.out (by rw [u8s_len, unP_len]) (by rfl) (u8s_one _) ?_; intro w9 hg9 hs9; have HG := Lib.hid hg9; have HS9 := Lib.hid hs9; clear hg9 hs9))
        exact bodyPost_ret (v := .tuple #[.agg (u8s (unP s.data.toList 32)).toArray, .int .i64 0]) (results_row2 Tryd.results26 _ _ w.heap.size 42 _ _ 32 5 rfl rfl HG.out ar42 (by rw [sz42]; simp [u8s_len, unP_len])) rfl ⟨by rw [HUN.out], HS9.out.below HBel.out (Nat.le_refl _)⟩
  · have hsi : ¬ (s.size : Int) = 64 := by omega
    have HUN := Lib.hid (unR_size s.data.toList (by rw [str_len]; exact hsz))
    clear hsz
    go_enter Tryd.func26, Tryd.ntmps26
    go_upto_region 3 with (fail)
    rw [← HW.out]
    go_wp2_with (first | (refine ld_row rfl 42 (.tmp 4) rfl 32 5 ar42 sz42 (w.heap.size + 1) 42 (u8s zero32) rfl H16.out (by rfl) ?_) | (refine st_row rfl 42 (.tmp 2) (.tmp 11) rfl 32 sz42 w.heap.size 42 (u8s zero32) (u8s zero32) rfl rfl H15.out (by rfl) (by rfl) (u8s_one _) ?_; intro w9 hg9 hs9; have HG := Lib.hid hg9; have HS9 := Lib.hid hs9; clear hg9 hs9))
    exact bodyPost_ret (v := .tuple #[.agg (u8s zero32).toArray, .int .i64 2]) (results_row2 Tryd.results26 _ _ w.heap.size 42 _ _ 32 5 rfl rfl HG.out ar42 (by rw [sz42]; rfl)) rfl ⟨by rw [HUN.out], HS9.out.below HBEL.out (Nat.le_refl _)⟩

end Go.Proofs.YtcnnijhfliahgaaDoor
