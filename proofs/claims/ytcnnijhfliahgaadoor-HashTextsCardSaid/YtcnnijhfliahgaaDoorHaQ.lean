/- The walks of the document's digit (40), Unhex (27), Hex (29). -/
import Derived.Test.YtcnnijhfliahgaaDoorHaK
import Derived.Deep.RegionLaw
import Derived.Deep.AppendLies
namespace Go.Proofs.YtcnnijhfliahgaaDoor
open Go.RowKit
set_option linter.unusedVariables false

set_option maxHeartbeats 1000000 in
set_option maxRecDepth 100000 in
theorem digit40_any (c : UInt8) (w : World) : Calls Tryd.prog 40 #[.int .u8 (c.toNat : Int)] w fun e w' => e = .returned (.int .i64 (dig c)) ∧ w = w' := by
  have hc := c.toNat_lt
  have c0 : (0 : Int) ≤ (c.toNat : Int) := by omega
  have c1 : (c.toNat : Int) < 256 := by omega
  by_cases h1 : 48 ≤ c.toNat ∧ c.toNat ≤ 57
  · have e : dig c = (c.toNat : Int) - 48 := by unfold dig; rw [if_pos h1]
    have E := Lib.hid e
    obtain ⟨a, b⟩ := h1
    have a1 : (48 : Int) ≤ (c.toNat : Int) := by omega
    have b1 : (c.toNat : Int) ≤ 57 := by omega
    clear e a b hc
    go_enter Tryd.func40, Tryd.ntmps40
    go_wp2
    go_ret
    exact ⟨by rw [E.out]; rfl, rfl⟩
  · by_cases h2 : 97 ≤ c.toNat ∧ c.toNat ≤ 102
    · have e : dig c = (c.toNat : Int) - 97 + 10 := by unfold dig; rw [if_neg h1, if_pos h2]
      have E := Lib.hid e
      obtain ⟨a, b⟩ := h2
      have a1 : (97 : Int) ≤ (c.toNat : Int) := by omega
      have b1 : (c.toNat : Int) ≤ 102 := by omega
      clear e a b hc h1
      go_enter Tryd.func40, Tryd.ntmps40
      go_wp2
      go_ret
      exact ⟨by rw [E.out]; rfl, rfl⟩
    · have e : dig c = -1 := by unfold dig; rw [if_neg h1, if_neg h2]
      have E := Lib.hid e
      clear e hc
      by_cases h3 : (c.toNat : Int) < 48
      · clear h1 h2
        go_enter Tryd.func40, Tryd.ntmps40
        go_wp2
        go_ret
        exact ⟨by rw [E.out]; rfl, rfl⟩
      · by_cases h4 : (c.toNat : Int) < 97
        · have h5 : ¬ (c.toNat : Int) ≤ 57 := by omega
          clear h1 h2
          go_enter Tryd.func40, Tryd.ntmps40
          go_wp2
          go_ret
          exact ⟨by rw [E.out]; rfl, rfl⟩
        · have h5 : ¬ (c.toNat : Int) ≤ 57 := by omega
          have h6 : ¬ (c.toNat : Int) ≤ 102 := by omega
          clear h1 h2
          go_enter Tryd.func40, Tryd.ntmps40
          go_wp2
          go_ret
          exact ⟨by rw [E.out]; rfl, rfl⟩


set_option maxHeartbeats 4000000 in
set_option maxRecDepth 100000 in
theorem refunhex_any (s : ByteArray) (w : World) (hs : s.size ≤ maxLen) :
    Calls Tryd.prog 27 #[.string s] w fun e w' => e = .returned (unR s.data.toList) ∧ Below w.heap.size w w' := by
  have h15 := (born32 w).later (Obj.cells #[Value.int .u8 0, Value.int .u8 0, Value.int .u8 0, Value.int .u8 0, Value.int .u8 0, Value.int .u8 0, Value.int .u8 0, Value.int .u8 0, Value.int .u8 0, Value.int .u8 0, Value.int .u8 0, Value.int .u8 0, Value.int .u8 0, Value.int .u8 0, Value.int .u8 0, Value.int .u8 0, Value.int .u8 0, Value.int .u8 0, Value.int .u8 0, Value.int .u8 0, Value.int .u8 0, Value.int .u8 0, Value.int .u8 0, Value.int .u8 0, Value.int .u8 0, Value.int .u8 0, Value.int .u8 0, Value.int .u8 0, Value.int .u8 0, Value.int .u8 0, Value.int .u8 0, Value.int .u8 0] 42)
  have h16 := born32 (w.alloc (Obj.cells #[Value.int .u8 0, Value.int .u8 0, Value.int .u8 0, Value.int .u8 0, Value.int .u8 0, Value.int .u8 0, Value.int .u8 0, Value.int .u8 0, Value.int .u8 0, Value.int .u8 0, Value.int .u8 0, Value.int .u8 0, Value.int .u8 0, Value.int .u8 0, Value.int .u8 0, Value.int .u8 0, Value.int .u8 0, Value.int .u8 0, Value.int .u8 0, Value.int .u8 0, Value.int .u8 0, Value.int .u8 0, Value.int .u8 0, Value.int .u8 0, Value.int .u8 0, Value.int .u8 0, Value.int .u8 0, Value.int .u8 0, Value.int .u8 0, Value.int .u8 0, Value.int .u8 0, Value.int .u8 0] 42))
  simp only [World.size_alloc] at h16
  have hbel : Below w.heap.size w ((w.alloc (Obj.cells #[Value.int .u8 0, Value.int .u8 0, Value.int .u8 0, Value.int .u8 0, Value.int .u8 0, Value.int .u8 0, Value.int .u8 0, Value.int .u8 0, Value.int .u8 0, Value.int .u8 0, Value.int .u8 0, Value.int .u8 0, Value.int .u8 0, Value.int .u8 0, Value.int .u8 0, Value.int .u8 0, Value.int .u8 0, Value.int .u8 0, Value.int .u8 0, Value.int .u8 0, Value.int .u8 0, Value.int .u8 0, Value.int .u8 0, Value.int .u8 0, Value.int .u8 0, Value.int .u8 0, Value.int .u8 0, Value.int .u8 0, Value.int .u8 0, Value.int .u8 0, Value.int .u8 0, Value.int .u8 0] 42)).alloc (Obj.cells #[Value.int .u8 0, Value.int .u8 0, Value.int .u8 0, Value.int .u8 0, Value.int .u8 0, Value.int .u8 0, Value.int .u8 0, Value.int .u8 0, Value.int .u8 0, Value.int .u8 0, Value.int .u8 0, Value.int .u8 0, Value.int .u8 0, Value.int .u8 0, Value.int .u8 0, Value.int .u8 0, Value.int .u8 0, Value.int .u8 0, Value.int .u8 0, Value.int .u8 0, Value.int .u8 0, Value.int .u8 0, Value.int .u8 0, Value.int .u8 0, Value.int .u8 0, Value.int .u8 0, Value.int .u8 0, Value.int .u8 0, Value.int .u8 0, Value.int .u8 0, Value.int .u8 0, Value.int .u8 0] 42)) := ((Below.refl _ _).alloc (Nat.le_refl _) _).alloc (by simp) _
  obtain ⟨W, hW⟩ : ∃ W, W = (w.alloc (Obj.cells #[Value.int .u8 0, Value.int .u8 0, Value.int .u8 0, Value.int .u8 0, Value.int .u8 0, Value.int .u8 0, Value.int .u8 0, Value.int .u8 0, Value.int .u8 0, Value.int .u8 0, Value.int .u8 0, Value.int .u8 0, Value.int .u8 0, Value.int .u8 0, Value.int .u8 0, Value.int .u8 0, Value.int .u8 0, Value.int .u8 0, Value.int .u8 0, Value.int .u8 0, Value.int .u8 0, Value.int .u8 0, Value.int .u8 0, Value.int .u8 0, Value.int .u8 0, Value.int .u8 0, Value.int .u8 0, Value.int .u8 0, Value.int .u8 0, Value.int .u8 0, Value.int .u8 0, Value.int .u8 0] 42)).alloc (Obj.cells #[Value.int .u8 0, Value.int .u8 0, Value.int .u8 0, Value.int .u8 0, Value.int .u8 0, Value.int .u8 0, Value.int .u8 0, Value.int .u8 0, Value.int .u8 0, Value.int .u8 0, Value.int .u8 0, Value.int .u8 0, Value.int .u8 0, Value.int .u8 0, Value.int .u8 0, Value.int .u8 0, Value.int .u8 0, Value.int .u8 0, Value.int .u8 0, Value.int .u8 0, Value.int .u8 0, Value.int .u8 0, Value.int .u8 0, Value.int .u8 0, Value.int .u8 0, Value.int .u8 0, Value.int .u8 0, Value.int .u8 0, Value.int .u8 0, Value.int .u8 0, Value.int .u8 0, Value.int .u8 0] 42) := ⟨_, rfl⟩
  rw [← hW] at h15 h16 hbel
  have HW := Lib.hid hW
  have H15 := Lib.hid h15
  have H16 := Lib.hid h16
  have HBEL := Lib.hid hbel
  unfold maxLen at hs
  clear hW h15 h16 hbel
  by_cases hsz : s.size = 64
  · have hl : s.data.toList.length = 64 := by rw [str_len, hsz]
    have HL := Lib.hid hl
    have HSZ := Lib.hid hsz
    have hsi : (s.size : Int) = 64 := by omega
    clear hl hs hsz
    go_enter Tryd.func27, Tryd.ntmps27
    go_wp2
    rw [← HW.out]
    clear HW hsi
    go_loopw [5] (fun i wr => ∃ k : Nat, k ≤ 32 ∧ i = .int .i64 k ∧ (∀ i < k, (pairB s.data.toList i).isSome = true) ∧ Blk wr (w.heap.size + 1) 42 (u8s (unP s.data.toList k)) ∧ Blk wr w.heap.size 42 (u8s zero32) ∧ Below w.heap.size w wr) (fun i _ => 32 - (intOf i).toNat)
    case atStart => exact ⟨0, by omega, rfl, fun i h => by omega, by rw [unP_zero]; exact H16.out, H15.out, HBEL.out⟩
    case round =>
      obtain ⟨k, hk, rfl, hall, hm, hr, hB⟩ := hrel
      have HALL := Lib.hid hall
      have HM := Lib.hid hm
      have HR := Lib.hid hr
      have HBel := Lib.hid hB
      clear hm hr hB hall
      by_cases hlt : k < 32
      · have k0 : (0 : Int) ≤ (k : Int) := by omega
        have k1 : (k : Int) < 32 := by omega
        have xa := idx_str s (2 * k) (by have := HSZ.out; omega)
        have xb := idx_str s (2 * k + 1) (by have := HSZ.out; omega)
        have e1 : ((2 * k : Nat) : Int) = 2 * (k : Int) := by omega
        have e2 : ((2 * k + 1 : Nat) : Int) = 2 * (k : Int) + 1 := by omega
        rw [e1] at xa
        rw [e2] at xb
        clear e1 e2
        obtain ⟨ca, hca⟩ : ∃ c, s.data.toList.getD (2 * k) 0 = c := ⟨_, rfl⟩
        obtain ⟨cb, hcb⟩ : ∃ c, s.data.toList.getD (2 * k + 1) 0 = c := ⟨_, rfl⟩
        rw [hca] at xa
        rw [hcb] at xb
        have hpair : pairB s.data.toList k = if dig ca < 0 ∨ dig cb < 0 then none else some (UInt8.ofNat (dig ca * 16 + dig cb).toNat) := by unfold pairB; rw [hca, hcb]
        have HPAIR := Lib.hid hpair
        have ba := dig_bd ca
        have bb := dig_bd cb
        obtain ⟨a, hda⟩ : ∃ a, dig ca = a := ⟨_, rfl⟩
        obtain ⟨b, hdb⟩ : ∃ b, dig cb = b := ⟨_, rfl⟩
        rw [hda] at ba HPAIR
        rw [hdb] at bb HPAIR
        obtain ⟨a1, a2⟩ := ba
        obtain ⟨b1, b2⟩ := bb
        have m1 : IntKind.i64.wrap (2 * (k : Int)) = 2 * (k : Int) := IntWalk.i64_in _ (by omega)
        have m2 : IntKind.i64.wrap (2 * (k : Int) + 1) = 2 * (k : Int) + 1 := IntWalk.i64_in _ (by omega)
        clear hca hcb hpair
        by_cases hbad : a < 0 ∨ b < 0
        · have hnone : pairB s.data.toList k = none := by rw [HPAIR.out, if_pos hbad]
          have HNONE := Lib.hid (unR_bad s.data.toList k hlt hnone)
          clear hnone
          have hbb : 0 ≤ a → b < 0 := fun h => by omega
          by_cases ha : a < 0
          all_goals
            try have ha' : 0 ≤ a := by omega
            try have hb' := hbb ha'
            clear hbb hbad
            go_wp2_with (first | (go_at_call 40; refine (digit40_any _ _).mono ?_; rintro e w' ⟨rfl, rfl⟩) | (refine st_row rfl 42 (.tmp 2) (.tmp 33) rfl 32 sz42 w.heap.size 42 (u8s zero32) (u8s zero32) rfl rfl HR.out (by rfl) (by rfl) (u8s_one _) ?_; intro w9 hg9 hs9; have HG := Lib.hid hg9; have HS9 := Lib.hid hs9; clear hg9 hs9))
            exact bodyPost_ret (v := .tuple #[.agg (u8s zero32).toArray, .int .i64 2]) (results_row2 Tryd.results27 _ _ w.heap.size 42 _ _ 32 5 rfl rfl HG.out ar42 (by rw [sz42]; rfl)) rfl ⟨by rw [HNONE.out], HS9.out.below HBel.out (Nat.le_refl _)⟩
        · have ha : ¬ a < 0 := fun h => hbad (Or.inl h)
          have hb : ¬ b < 0 := fun h => hbad (Or.inr h)
          have hsome : pairB s.data.toList k = some (UInt8.ofNat (a * 16 + b).toNat) := by rw [HPAIR.out, if_neg hbad]
          have a0 : 0 ≤ a := by omega
          have b0 : 0 ≤ b := by omega
          have ev := pair_val a b a0 a2 b0 b2
          have orr := or_int a b a0 a2 b0 b2
          obtain ⟨v, hv⟩ : ∃ v, UInt8.ofNat (a * 16 + b).toNat = v := ⟨_, rfl⟩
          rw [hv] at hsome ev
          have HSOME := Lib.hid hsome
          have fk := HM.out.free k
          have ck := HM.out.at_ k
          rw [u8s_at (by rw [unP_len]; exact hlt)] at ck
          generalize (unP s.data.toList k).getD k 0 = y0 at ck
          have v1 := v.toNat_lt
          have v2 : (v.toNat : Int) < 256 := by omega
          have e16 : 16 * a + b = (v.toNat : Int) := by omega
          clear hv hsome hbad v1 orr ev
          go_wp2_with (go_at_call 40; refine (digit40_any _ _).mono ?_; rintro e w' ⟨rfl, rfl⟩)
          go_wp2
          refine ⟨⟨k + 1, by omega, by go_num, fun i hi => ?_, ?_, HR.out.sole (((Sole.refl (w.heap.size + 1) wr).setCell k _)) (by omega), (HBel.out.setCell (p := ⟨w.heap.size + 1, k, none⟩) (by simp) _)⟩, by simp [intOf]; omega⟩
          · by_cases e : i = k
            · rw [e, HSOME.out]; rfl
            · exact HALL.out i (by omega)
          · have hst := HM.out.store k (.int .u8 (v.toNat : Int))
            rw [u8s_set, unP_succ _ _ _ HSOME.out hlt] at hst
            exact hst
      · have hk32 : k = 32 := by omega
        subst hk32
        have HUN := Lib.hid (unR_ok s.data.toList HL.out HALL.out)
        go_wp2_with (first | (refine ld_row rfl 42 (.tmp 4) rfl 32 5 ar42 sz42 (w.heap.size + 1) 42 (u8s (unP s.data.toList 32)) rfl HM.out (by rw [u8s_len, unP_len]) ?_) | (refine st_row rfl 42 (.tmp 2) (.tmp 41) rfl 32 sz42 w.heap.size 42 (u8s zero32) (u8s (unP s.data.toList 32)) rfl rfl HR.out (by rw [u8s_len, unP_len]) (by rfl) (u8s_one _) ?_; intro w9 hg9 hs9; have HG := Lib.hid hg9; have HS9 := Lib.hid hs9; clear hg9 hs9))
        exact bodyPost_ret (v := .tuple #[.agg (u8s (unP s.data.toList 32)).toArray, .int .i64 0]) (results_row2 Tryd.results27 _ _ w.heap.size 42 _ _ 32 5 rfl rfl HG.out ar42 (by rw [sz42]; simp [u8s_len, unP_len])) rfl ⟨by rw [HUN.out], HS9.out.below HBel.out (Nat.le_refl _)⟩
  · have hsi : ¬ (s.size : Int) = 64 := by omega
    have HUN := Lib.hid (unR_size s.data.toList (by rw [str_len]; exact hsz))
    clear hsz
    go_enter Tryd.func27, Tryd.ntmps27
    go_upto_region 3 with (fail)
    rw [← HW.out]
    go_wp2_with (first | (refine ld_row rfl 42 (.tmp 4) rfl 32 5 ar42 sz42 (w.heap.size + 1) 42 (u8s zero32) rfl H16.out (by rfl) ?_) | (refine st_row rfl 42 (.tmp 2) (.tmp 11) rfl 32 sz42 w.heap.size 42 (u8s zero32) (u8s zero32) rfl rfl H15.out (by rfl) (by rfl) (u8s_one _) ?_; intro w9 hg9 hs9; have HG := Lib.hid hg9; have HS9 := Lib.hid hs9; clear hg9 hs9))
    exact bodyPost_ret (v := .tuple #[.agg (u8s zero32).toArray, .int .i64 2]) (results_row2 Tryd.results27 _ _ w.heap.size 42 _ _ 32 5 rfl rfl HG.out ar42 (by rw [sz42]; rfl)) rfl ⟨by rw [HUN.out], HS9.out.below HBEL.out (Nat.le_refl _)⟩

/-- Append of two bytes onto bytes of the call's own, as one step of a region that draws its order. -/
theorem step_two {ops : Array Oper} {o : Oper} {a : Act} {w : World} {K : Act → World → Prop} {Q : Exit → Act → World → Prop} {E : Prop} (w0 : World) (hg : o.guard = none) (s x : Operand)
    (ho : o.op = .call { callee := .builtin .append, args := #[s, x], argTypes := #[30, 30] }) (B : Nat) (v : Value) (d : List UInt8) (hs : a.eval s = v) (hown : Own w0 B v d) (hbel : Below w0.heap.size w0 w) (hB : B ≤ w0.heap.size)
    (X c : Nat) (p q : UInt8) (hx : a.eval x = .slice (some ⟨X, 0, none⟩) 2 c) (h0 : w.cell? ⟨X, 0, none⟩ = some (.int .u8 (p.toNat : Int))) (h1 : w.cell? ⟨X, 1, none⟩ = some (.int .u8 (q.toNat : Int))) (hk : d.length ≤ 100000)
    (h : ∀ v' w', Own w' B v' (d ++ [p, q]) → Below B w0 w' → K (a.put o.dst v') w') :
    if Region.wanted o (yielded ops a.tmps) = true then Oper.wp Tryd.prog o a w K Q else E := by
  have hw : Region.wanted o (yielded ops a.tmps) = true := by simp [Region.wanted, hg]
  rw [if_pos hw]
  obtain ⟨i0, hti, hz0, hz1, hz2⟩ := info_parts Tryd.info5
  refine wp_append_own w s x 30 ho B 5 i0 _ 1 1 Tryd.underlying30 hti hz0 hz1 hz2 rfl (by decide) v d.length (u8s d) hs (hown.below hbel) ⟨X, 0, none⟩ 2 c (u8s [p, q]) hx rfl ?_ (u8s_one _) (by unfold maxLen; omega) (by omega) (Nat.le_trans hB hbel.size) ?_
  · intro j u hj
    match j, hj with
    | 0, hj => simp [u8s] at hj; subst hj; rw [Addr.add_lit]; exact h0
    | 1, hj => simp [u8s] at hj; subst hj; rw [Addr.add_lit]; exact h1
  · intro v' w' g1 g2 _
    refine h v' w' ?_ ((hbel.mono hB).grown g2 (Nat.le_trans hB hbel.size) (fun k hk => hown.lt k hk))
    show World.ownsRow _ B 5 1 v' (d ++ [p, q]).length (u8s (d ++ [p, q]))
    rw [u8s_app, List.length_append]
    exact g1

set_option maxHeartbeats 4000000 in
set_option maxRecDepth 100000 in
theorem refhex_any (d : List UInt8) (w : World) (hd : d.length = 32) :
    Calls Tryd.prog 29 #[.agg (u8s d).toArray] w fun e w' => e = .returned (.string (str (hexL d))) ∧ Below w.heap.size w w' := by
  have hb := Blk.born w 42 (u8s d)
  have HD := Lib.hid hd
  have hbel : Below w.heap.size w (w.alloc (Obj.cells (u8s d).toArray 42)) := (Below.refl _ _).alloc (Nat.le_refl _) _
  obtain ⟨W0, hW⟩ : ∃ W0, W0 = w.alloc (Obj.cells (u8s d).toArray 42) := ⟨_, rfl⟩
  rw [← hW] at hb hbel
  have HW := Lib.hid hW
  clear hW hd
  go_enter Tryd.func29, Tryd.ntmps29
  go_upto_region 2 with (fail)
  rw [← HW.out]
  clear HW
  have HB := Lib.hid hb
  have HBEL := Lib.hid hbel
  clear hb hbel
  go_wp2
  go_loopw [4, 5] (fun v i wr => ∃ k : Nat, k ≤ 32 ∧ i = .int .i64 k ∧ Own wr (w.heap.size + 1) v (hexL (d.take k)) ∧ Below (w.heap.size + 1) W0 wr) (fun _ i _ => 32 - (intOf i).toNat)
  case atStart => exact ⟨0, by omega, rfl, Own.nil _ _, Below.refl _ _⟩
  case round =>
    obtain ⟨k, hk, rfl, hown, hB⟩ := hrel
    by_cases hlt : k < 32
    · have k0 : (0 : Int) ≤ (k : Int) := by omega
      have k1 : (k : Int) < 32 := by omega
      have hbr := HB.out.below hB (by omega)
      have ck := hbr.at_ k
      rw [u8s_at (by rw [HD.out]; exact hlt)] at ck
      obtain ⟨c, hc⟩ : ∃ c, d.getD k 0 = c := ⟨_, rfl⟩
      rw [hc] at ck
      have cl := c.toNat_lt
      have xa := idx_hex (c.toNat / 16) (by omega)
      have xb := idx_hex (c.toNat % 16) (by omega)
      have hsn := hexL_snoc d k (by rw [HD.out]; exact hlt)
      rw [hc] at hsn
      obtain ⟨x1, hx1⟩ : ∃ x, c.toNat / 16 = x := ⟨_, rfl⟩
      obtain ⟨x2, hx2⟩ : ∃ x, c.toNat % 16 = x := ⟨_, rfl⟩
      rw [hx1] at xa hsn
      rw [hx2] at xb hsn
      have dv : (c.toNat : Int) / 16 = (x1 : Int) := by omega
      have dw : (c.toNat : Int) % 16 = (x2 : Int) := by omega
      have dw2 : (c.toNat : Int).tmod 16 = (x2 : Int) := by rw [Int.tmod_eq_emod_of_nonneg (by omega)]; omega
      have dv2 : (c.toNat : Int).tdiv 16 = (x1 : Int) := by rw [Int.tdiv_eq_ediv_of_nonneg (by omega)]; omega
      have dv3 : IntKind.u8.wrap ((c.toNat : Int) / 16) = (x1 : Int) := by rw [IntKind.wrap_u8']; omega
      have dv4 : IntKind.u8.wrap (x1 : Int) = (x1 : Int) := by rw [IntKind.wrap_u8']; omega
      have dw4 : IntKind.u8.wrap (x2 : Int) = (x2 : Int) := by rw [IntKind.wrap_u8']; omega
      clear dv3
      have HSN := Lib.hid hsn
      have HOWN := Lib.hid hown
      have HBB := Lib.hid hB
      clear hc hx1 hx2 cl hsn hown hB hbr
      go_wp2_with fail
      have hgw := lt_of_block (HB.out.below HBB.out (by omega))
      have hk2 : (hexL (d.take k)).length ≤ 100000 := by rw [hexL_len, List.length_take]; omega
      have HOB : Hid (w.heap.size + 1 ≤ wr.heap.size) := by have h1 := HBB.out.size; have h2 := lt_of_block HB.out; show w.heap.size + 1 ≤ wr.heap.size; omega
      go_region_law (refine step_two wr rfl (.tmp 10) (.tmp 23) rfl (w.heap.size + 1) u4 (hexL (d.take k)) (by simp [Act.eval]) HOWN.out (by repeat (first | exact Below.refl _ _ | apply Below.drew | refine Below.alloc ?_ (by simp) _)) HOB.out wr.heap.size 2 (hexC x1) (hexC x2) (by simp [Act.eval]) (by go_simp) (by go_simp) hk2 ?_; intro v1 w1 hown1 hgrow1)
      all_goals
        go_wp2
        go_roundw
        case rel => exact ⟨k + 1, by omega, by go_num, by rw [HSN.out]; exact hown1, HBB.out.trans hgrow1⟩
        case measure => simp [intOf]; omega
    · have hk32 : k = 32 := by omega
      subst hk32
      rw [List.take_of_length_le (by rw [HD.out]; exact Nat.le_refl _)] at hown
      obtain ⟨A4, c4, rfl, hby, _, _, _⟩ := hown.form
      have hcv := conv hby c4
      have HBB := Lib.hid hB
      clear hby hown hB
      go_wp2
      go_ret
      exact ⟨rfl, HBEL.out.trans (HBB.out.mono (by omega))⟩
end Go.Proofs.YtcnnijhfliahgaaDoor
