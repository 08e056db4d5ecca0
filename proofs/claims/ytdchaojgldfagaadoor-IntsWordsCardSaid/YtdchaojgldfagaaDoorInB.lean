/- The walk of layPacked: with the first number and the steps, with the least one and the numbers held against it. -/
import Derived.Test.YtdchaojgldfagaaDoorInA
import Derived.Maps.AppendAt
namespace Go.Proofs.YtdchaojgldfagaaDoor
open Go.RowKit
set_option linter.unusedVariables false

/-- What lies in a row of the call's own, behind an encoding. -/
def LaidI (W0 : World) (b : List UInt8) (e : Ending) (W' : World) : Prop := ∃ v, e = .returned (.tuple #[v, .int .i64 0]) ∧ Own W' W0.heap.size v b ∧ Below W0.heap.size W0 W'
theorem packE_self {d : List W64} (h : d.length ≤ 4096) : pkE (widL d : Int) d = 0 := by
  rw [pkE_zero]
  have := widL_le d
  exact ⟨by omega, by omega, h, Int.le_refl _⟩
theorem pkB_small {w : Int} {d : List W64} (h : d.length ≤ 4096) (hw : w ≤ 64) : (pkB w d).length ≤ 32769 := by
  unfold pkB
  split
  · rw [packL_len]
    rename_i hk
    have h1 : d.length * w.toNat ≤ 4096 * 64 := Nat.mul_le_mul h (by omega)
    omega
  · simp
theorem grown_blk {w w' : World} {row : Option Nat} (h : w.grownBy w' row) {X : Nat} {t : TypeId} {cs : List Value} (hb : Blk w X t cs) (hr : row ≠ some X) : Blk w' X t cs := (h.block X (lt_of_block hb) (Ne.symm hr)).trans hb
/-- Append of bytes onto a row of the call's own; where the row then lies. -/
theorem app_at {ops : Array Oper} {rest : List Oper} {o : Oper} {a : Act} {Q : Exit → Act → World → Prop} {w : World} (w0 : World) (hgd : o.guard = none) (s x : Operand)
    (ho : o.op = .call { callee := .builtin .append, args := #[s, x], argTypes := #[24, 24] }) (v : Value) (d : List UInt8) (hs : a.eval s = v) (hown : Own w w0.heap.size v d) (hbel : Below w0.heap.size w0 w)
    (A : Option Addr) (m c : Nat) (q : List UInt8) (hx : a.eval x = .slice A m c) (hm : m = q.length) (hq : Byt w A q) (hn : A = none → c = 0) (hsz : d.length + q.length ≤ 140737488355328)
    (h : ∀ v' w', Own w' w0.heap.size v' (d ++ q) → Below w0.heap.size w0 w' → w.grownBy w' v.ownBlock → (v'.ownBlock = v.ownBlock ∨ v'.ownBlock = some w.heap.size) → wpList Tryd.prog ops Q rest (a.put o.dst v') w') : wpList Tryd.prog ops Q (o :: rest) a w := by
  obtain ⟨i0, hti, hz0, hz1, hz2⟩ := info_parts Tryd.info5
  subst hm
  cases A with
  | none =>
    obtain rfl := hq.nil
    obtain rfl := hn rfl
    refine wpList_append_own_none hgd s x 24 ho w0.heap.size 5 i0 1 Tryd.underlying24 hti v d.length (u8s d) hs hown hx (h v w ?_ hbel (World.grownBy.refl w _) (.inl rfl))
    rw [List.append_nil]; exact hown
  | some ad =>
    refine wpList_append_own_at w hgd s x 24 ho w0.heap.size 5 i0 (.int .u8 0) 1 1 Tryd.underlying24 hti hz0 hz1 hz2 rfl (by decide) v d.length (u8s d) hs hown ad q.length c (u8s q) hx (by rw [u8s_len]; omega) hq.news (u8s_one q) (by unfold maxLen; omega) (by omega) hbel.size ?_
    intro v' w' h1 h2 h5 h6
    obtain ⟨h3, h4⟩ := own_step hbel hown h1 h2
    exact h v' w' h3 h4 h2 h6
theorem ne_at {v v' : Value} {w : World} {X : Nat} (h : v'.ownBlock = v.ownBlock ∨ v'.ownBlock = some w.heap.size) (hv : v.ownBlock ≠ some X) (hX : X < w.heap.size) : v'.ownBlock ≠ some X := by
  rcases h with h | h
  · rw [h]; exact hv
  · rw [h]; intro e; injection e with e; omega
theorem sgn_nil (m : Int) : ([] : List UInt8) ++ num (zig m) = sgn m := rfl

set_option maxRecDepth 100000 in
set_option maxHeartbeats 8000000 in
/-- layPacked, with the first number and the steps. -/
theorem lp_steps (Ab A : Option Addr) (cb cap : Nat) (b : List UInt8) (l : List Int) (W0 W : World) (hown : Own W W0.heap.size (.slice Ab b.length cb) b) (hbel : Below W0.heap.size W0 W) (hbl : b.length ≤ 1000) (hl : Ints W A l) (h64 : All64 l) (hn : l.length ≤ 4096) (h0 : l ≠ []) (hT : TabAt W) :
    Calls Tryd.prog 20 #[.slice Ab b.length cb, .slice A l.length cap, .func (.func 21) #[] #[], .func (.func 22) #[] #[]] W (LaidI W0 (b ++ (sgn (l.headD 0) ++ packD (stepsL l)))) := by
  have hpos : 0 < l.length := List.length_pos_iff.2 h0
  have hdl : (stepsL l).length ≤ 4096 := by cases l with | nil => exact absurd rfl h0 | cons a t => rw [stepsL_len]; rw [List.length_cons] at hn; omega
  have hbase : ∀ w1, Below W.heap.size W w1 → Calls Tryd.prog 21 #[.slice A l.length cap] w1 fun e w' => e = .returned (.int .i64 (l.headD 0)) ∧ w1 = w' := fun w1 h => by cases l with | nil => exact absurd rfl h0 | cons a t => exact first_any A cap a t w1 (hl.keep h) (by omega)
  have hdiff := steps_any A cap l W hl (by omega) hpos
  have hb64 : I64 (l.headD 0) := by cases l with | nil => exact absurd rfl h0 | cons a t => exact h64 a (by simp)
  have hsig := fun (w1 : World) => signed_any none 0 (l.headD 0) [] w1 (Byt.empty _ _) (fun _ => rfl) (by simp) hb64.1 hb64.2
  simp only [sgn_nil, List.length_nil] at hsig
  generalize l.headD 0 = m at *
  generalize stepsL l = d at *
  have hwl := widL_le d
  have hwid := fun w1 (h : Num w1 (some ⟨W.heap.size, 0, none⟩) d) => width_any (some ⟨W.heap.size, 0, none⟩) d.length d w1 h (by omega)
  have hpk : ∀ w1, Num w1 (some ⟨W.heap.size, 0, none⟩) d → Below W.heap.size W w1 → Calls Tryd.prog 39 #[.int .i64 (widL d : Int), .slice (some ⟨W.heap.size, 0, none⟩) d.length d.length] w1 fun e W' => e = .returned (.tuple #[.slice (some ⟨w1.heap.size, 0, none⟩) (pkB (widL d : Int) d).length (pkB (widL d : Int) d).length, .int .i64 0]) ∧ Blk W' w1.heap.size 5 (u8s (pkB (widL d : Int) d)) ∧ Below w1.heap.size w1 W' := fun w1 h h2 => by
    have hh := pack_good (widL d) (some ⟨W.heap.size, 0, none⟩) d.length d w1 h hwl hdl (Nat.le_refl _) (hT.keep h2)
    have e : pkB (widL d : Int) d = packL ((d.length * widL d + 7) / 8) (bitsP (widL d) d) := if_pos (pkE_zero.1 (packE_self hdl))
    rw [e, packL_len]
    exact hh
  have hps := pkB_small (w := (widL d : Int)) hdl (by omega)
  have hsl := sgn_len m
  have hcv : IntKind.u8.wrap ((widL d : Nat) : Int) = ((UInt8.ofNat (widL d)).toNat : Int) := by rw [IntKind.wrap_u8, UInt8.toNat_ofNat']; omega
  have hfin : b ++ (sgn m ++ packD d) = ((b ++ sgn m) ++ [UInt8.ofNat (widL d)]) ++ pkB (widL d : Int) d := by unfold packD; simp
  rw [hfin]
  obtain ⟨wc, hwc⟩ : ∃ wc, UInt8.ofNat (widL d) = wc := ⟨_, rfl⟩
  rw [hwc] at hcv ⊢
  generalize widL d = wd at *
  obtain ⟨pk, hpke⟩ : ∃ pk, pkB (wd : Int) d = pk := ⟨_, rfl⟩
  rw [hpke] at hpk hps ⊢
  obtain ⟨sg, hsge⟩ : ∃ sg, sgn m = sg := ⟨_, rfl⟩
  rw [hsge] at hsl hsig ⊢
  have HBASE := Lib.hid hbase
  have HDIFF := Lib.hid hdiff
  have HSIG := Lib.hid hsig
  have HWID := Lib.hid hwid
  have HPK := Lib.hid hpk
  have HCV := Lib.hid hcv
  have HOWN := Lib.hid hown
  have HBEL := Lib.hid hbel
  have HLEN : Hid (b.length ≤ 1000 ∧ sg.length ≤ 10 ∧ pk.length ≤ 32769) := ⟨hbl, hsl, hps⟩
  have hz : ¬ l.length = 0 := by omega
  have hWB : W0.heap.size ≤ W.heap.size := hbel.size
  have HWB := Lib.hid hWB
  clear hbase hdiff hsig hwid hpk hcv hown hbel hbl hsl hps hl h64 hT hdl hb64 hfin hwc hpke hsge hwl h0 hWB
  generalize l.length = n at *
  have hzi : ((n : Int) == 0) = false := by rw [beq_eq_false_iff_ne]; omega
  obtain ⟨bl, hble⟩ : ∃ bl, b.length = bl := ⟨_, rfl⟩
  have HBLE := Lib.hid hble
  obtain ⟨nd, hnd⟩ : ∃ nd, d.length = nd := ⟨_, rfl⟩
  rw [hnd] at HDIFF HWID HPK
  obtain ⟨np, hnp⟩ : ∃ np, pk.length = np := ⟨_, rfl⟩
  have HNP := Lib.hid hnp
  rw [hnp] at HPK
  rw [hble] at HOWN ⊢
  obtain ⟨b6, hb6⟩ : ∃ x, b ++ sg = x := ⟨_, rfl⟩
  rw [hb6]
  obtain ⟨b7, hb7⟩ : ∃ x, b6 ++ [wc] = x := ⟨_, rfl⟩
  rw [hb7]
  obtain ⟨b8, hb8⟩ : ∃ x, b7 ++ pk = x := ⟨_, rfl⟩
  rw [hb8]
  have hl6 : b6.length ≤ 1010 := by have := HLEN.out; rw [← hb6, List.length_append]; omega
  have hl7 : b7.length ≤ 1011 := by rw [← hb7, List.length_append]; simp; omega
  have HL6 := Lib.hid hl6
  have HL7 := Lib.hid hl7
  have HB6 := Lib.hid hb6
  have HB7 := Lib.hid hb7
  have HB8 := Lib.hid hb8
  obtain ⟨n6, hn6⟩ : ∃ x, b6.length = x := ⟨_, rfl⟩
  have HN6 := Lib.hid hn6
  obtain ⟨n7, hn7⟩ : ∃ x, b7.length = x := ⟨_, rfl⟩
  have HN7 := Lib.hid hn7
  clear hble hnd hnp hb6 hb7 hb8 hl6 hl7 hn6 hn7
  go_enter Tryd.func20, Tryd.ntmps20
  go_wp2_with (first | (go_at_call 22; refine HDIFF.out.mono ?_; rintro e w1 ⟨rfl, hnum, hb1⟩; have HNUM := Lib.hid hnum; have HB1 := Lib.hid hb1; clear HDIFF hnum hb1) | (go_at_call 38; refine (HWID.out _ HNUM.out).mono ?_; rintro e w2 ⟨rfl, rfl⟩; clear HWID) | (go_at_call 39; refine (HPK.out _ HNUM.out HB1.out).mono ?_; rintro e w3 ⟨rfl, y3, hb3⟩; have Y3 := Lib.hid y3; have HX := Lib.hid HB1.out.size; obtain ⟨X, hX⟩ : ∃ X, w2.heap.size = X := ⟨_, rfl⟩; rw [hX] at Y3 HX ⊢; have HB3 := Lib.hid (HB1.out.trans (hb3.mono HB1.out.size)); have O3 := Lib.hid (HOWN.out.below HB3.out); have HNX : Hid ((Value.slice Ab bl cb).ownBlock ≠ some X) := (fun e => by have h1 := (World.ownsRow.lt HOWN.out X e).2; have := HX.out; omega); have E3 := Lib.hid (HBEL.out.trans (HB3.out.mono HWB.out)); clear HPK y3 hb3 hX) | (go_at_call 21; refine (HBASE.out _ HB3.out).mono ?_; rintro e w4 ⟨rfl, rfl⟩; clear HBASE) | (go_at_call 17; refine (HSIG.out _).mono ?_; rintro e w5 ⟨v5, rfl, hown5, hb5⟩; obtain ⟨A5, c5, rfl, y5, n5, l5, _⟩ := hown5.form; have Y5 := Lib.hid y5; have N5 := Lib.hid n5; have Y35 := Lib.hid (Y3.out.below hb5 (lt_of_block Y3.out)); have O5 := Lib.hid (O3.out.below hb5); have E5 := Lib.hid (E3.out.trans (hb5.mono E3.out.size)); clear HSIG y5 n5 l5 hb5 hown5) | (refine app_at W0 rfl (.tmp 31) (.tmp 35) rfl (.slice Ab bl cb) b rfl O5.out E5.out A5 sg.length c5 sg rfl rfl Y5.out N5.out (by have := HLEN.out; omega) ?_; intro v6 w6 hown6 hbel6 hg6 hat6; rw [HB6.out] at hown6; have Y6 := Lib.hid (grown_blk hg6 Y35.out HNX.out); have NX6 : Hid (v6.ownBlock ≠ some X) := ne_at hat6 HNX.out (lt_of_block Y35.out); obtain ⟨A6, c6, rfl, _, _, _, _⟩ := hown6.form; rw [HN6.out] at hown6 NX6 ⊢; have O6 := Lib.hid hown6; have E6 := Lib.hid hbel6; clear hown6 hbel6 hg6 hat6) | (refine app_at W0 rfl (.tmp 37) (.tmp 40) rfl (.slice A6 n6 c6) b6 rfl (O6.out.alloc _) (E6.out.alloc E6.out.size _) (some ⟨w6.heap.size, 0, none⟩) 1 1 [wc] rfl rfl (byt_one w6 wc _ HCV.out) (by simp) (by have := HL6.out; simp; omega) ?_; intro v7 w7 hown7 hbel7 hg7 hat7; rw [HB7.out] at hown7; have Y7 := Lib.hid (grown_blk hg7 (Y6.out.later _) NX6.out); have NX7 : Hid (v7.ownBlock ≠ some X) := ne_at hat7 NX6.out (lt_of_block (Y6.out.later _)); obtain ⟨A7, c7, rfl, _, _, _, _⟩ := hown7.form; rw [HN7.out] at hown7 NX7 ⊢; have O7 := Lib.hid hown7; have E7 := Lib.hid hbel7; clear hown7 hbel7 hg7 hat7) | (refine app_at W0 rfl (.tmp 42) (.tmp 43) rfl (.slice A7 n7 c7) b7 rfl O7.out E7.out (some ⟨X, 0, none⟩) np np pk rfl HNP.out.symm Y7.out.byt (by simp) (by have := HLEN.out; have := HL7.out; omega) ?_; intro v8 w8 hown8 hbel8 _ _; rw [HB8.out] at hown8; have O8 := Lib.hid hown8; have E8 := Lib.hid hbel8; clear hown8 hbel8))
  go_ret2
  exact ⟨_, rfl, O8.out, E8.out⟩

set_option maxRecDepth 100000 in
set_option maxHeartbeats 8000000 in
/-- layPacked, with the least number and the numbers held against it. -/
theorem lp_frame (Ab A : Option Addr) (cb cap : Nat) (b : List UInt8) (l : List Int) (W0 W : World) (hown : Own W W0.heap.size (.slice Ab b.length cb) b) (hbel : Below W0.heap.size W0 W) (hbl : b.length ≤ 1000) (hl : Ints W A l) (h64 : All64 l) (hn : l.length ≤ 4096) (h0 : l ≠ []) (hT : TabAt W) :
    Calls Tryd.prog 20 #[.slice Ab b.length cb, .slice A l.length cap, .func (.func 23) #[] #[], .func (.func 24) #[] #[]] W (LaidI W0 (b ++ (sgn (minL l) ++ packD (l.map (offW (minL l)))))) := by
  have hpos : 0 < l.length := List.length_pos_iff.2 h0
  have hdl : (l.map (offW (minL l))).length ≤ 4096 := by rw [List.length_map]; exact hn
  have hbase : ∀ w1, Below W.heap.size W w1 → Calls Tryd.prog 23 #[.slice A l.length cap] w1 fun e w' => e = .returned (.int .i64 (minL l)) ∧ w1 = w' := fun w1 h => min_any A cap l w1 (hl.keep h) (by omega) hpos
  have hdiff := offs_any A cap l W hl (by omega) hpos
  have hb64 : I64 (minL l) := minL_64 h64 h0
  have hsig := fun (w1 : World) => signed_any none 0 (minL l) [] w1 (Byt.empty _ _) (fun _ => rfl) (by simp) hb64.1 hb64.2
  simp only [sgn_nil, List.length_nil] at hsig
  generalize minL l = m at *
  generalize l.map (offW m) = d at *
  have hwl := widL_le d
  have hwid := fun w1 (h : Num w1 (some ⟨W.heap.size, 0, none⟩) d) => width_any (some ⟨W.heap.size, 0, none⟩) d.length d w1 h (by omega)
  have hpk : ∀ w1, Num w1 (some ⟨W.heap.size, 0, none⟩) d → Below W.heap.size W w1 → Calls Tryd.prog 39 #[.int .i64 (widL d : Int), .slice (some ⟨W.heap.size, 0, none⟩) d.length d.length] w1 fun e W' => e = .returned (.tuple #[.slice (some ⟨w1.heap.size, 0, none⟩) (pkB (widL d : Int) d).length (pkB (widL d : Int) d).length, .int .i64 0]) ∧ Blk W' w1.heap.size 5 (u8s (pkB (widL d : Int) d)) ∧ Below w1.heap.size w1 W' := fun w1 h h2 => by
    have hh := pack_good (widL d) (some ⟨W.heap.size, 0, none⟩) d.length d w1 h hwl hdl (Nat.le_refl _) (hT.keep h2)
    have e : pkB (widL d : Int) d = packL ((d.length * widL d + 7) / 8) (bitsP (widL d) d) := if_pos (pkE_zero.1 (packE_self hdl))
    rw [e, packL_len]
    exact hh
  have hps := pkB_small (w := (widL d : Int)) hdl (by omega)
  have hsl := sgn_len m
  have hcv : IntKind.u8.wrap ((widL d : Nat) : Int) = ((UInt8.ofNat (widL d)).toNat : Int) := by rw [IntKind.wrap_u8, UInt8.toNat_ofNat']; omega
  have hfin : b ++ (sgn m ++ packD d) = ((b ++ sgn m) ++ [UInt8.ofNat (widL d)]) ++ pkB (widL d : Int) d := by unfold packD; simp
  rw [hfin]
  obtain ⟨wc, hwc⟩ : ∃ wc, UInt8.ofNat (widL d) = wc := ⟨_, rfl⟩
  rw [hwc] at hcv ⊢
  generalize widL d = wd at *
  obtain ⟨pk, hpke⟩ : ∃ pk, pkB (wd : Int) d = pk := ⟨_, rfl⟩
  rw [hpke] at hpk hps ⊢
  obtain ⟨sg, hsge⟩ : ∃ sg, sgn m = sg := ⟨_, rfl⟩
  rw [hsge] at hsl hsig ⊢
  have HBASE := Lib.hid hbase
  have HDIFF := Lib.hid hdiff
  have HSIG := Lib.hid hsig
  have HWID := Lib.hid hwid
  have HPK := Lib.hid hpk
  have HCV := Lib.hid hcv
  have HOWN := Lib.hid hown
  have HBEL := Lib.hid hbel
  have HLEN : Hid (b.length ≤ 1000 ∧ sg.length ≤ 10 ∧ pk.length ≤ 32769) := ⟨hbl, hsl, hps⟩
  have hz : ¬ l.length = 0 := by omega
  have hWB : W0.heap.size ≤ W.heap.size := hbel.size
  have HWB := Lib.hid hWB
  clear hbase hdiff hsig hwid hpk hcv hown hbel hbl hsl hps hl h64 hT hdl hb64 hfin hwc hpke hsge hwl h0 hWB
  generalize l.length = n at *
  have hzi : ((n : Int) == 0) = false := by rw [beq_eq_false_iff_ne]; omega
  obtain ⟨bl, hble⟩ : ∃ bl, b.length = bl := ⟨_, rfl⟩
  have HBLE := Lib.hid hble
  obtain ⟨nd, hnd⟩ : ∃ nd, d.length = nd := ⟨_, rfl⟩
  rw [hnd] at HDIFF HWID HPK
  obtain ⟨np, hnp⟩ : ∃ np, pk.length = np := ⟨_, rfl⟩
  have HNP := Lib.hid hnp
  rw [hnp] at HPK
  rw [hble] at HOWN ⊢
  obtain ⟨b6, hb6⟩ : ∃ x, b ++ sg = x := ⟨_, rfl⟩
  rw [hb6]
  obtain ⟨b7, hb7⟩ : ∃ x, b6 ++ [wc] = x := ⟨_, rfl⟩
  rw [hb7]
  obtain ⟨b8, hb8⟩ : ∃ x, b7 ++ pk = x := ⟨_, rfl⟩
  rw [hb8]
  have hl6 : b6.length ≤ 1010 := by have := HLEN.out; rw [← hb6, List.length_append]; omega
  have hl7 : b7.length ≤ 1011 := by rw [← hb7, List.length_append]; simp; omega
  have HL6 := Lib.hid hl6
  have HL7 := Lib.hid hl7
  have HB6 := Lib.hid hb6
  have HB7 := Lib.hid hb7
  have HB8 := Lib.hid hb8
  obtain ⟨n6, hn6⟩ : ∃ x, b6.length = x := ⟨_, rfl⟩
  have HN6 := Lib.hid hn6
  obtain ⟨n7, hn7⟩ : ∃ x, b7.length = x := ⟨_, rfl⟩
  have HN7 := Lib.hid hn7
  clear hble hnd hnp hb6 hb7 hb8 hl6 hl7 hn6 hn7
  go_enter Tryd.func20, Tryd.ntmps20
  go_wp2_with (first | (go_at_call 24; refine HDIFF.out.mono ?_; rintro e w1 ⟨rfl, hnum, hb1⟩; have HNUM := Lib.hid hnum; have HB1 := Lib.hid hb1; clear HDIFF hnum hb1) | (go_at_call 38; refine (HWID.out _ HNUM.out).mono ?_; rintro e w2 ⟨rfl, rfl⟩; clear HWID) | (go_at_call 39; refine (HPK.out _ HNUM.out HB1.out).mono ?_; rintro e w3 ⟨rfl, y3, hb3⟩; have Y3 := Lib.hid y3; have HX := Lib.hid HB1.out.size; obtain ⟨X, hX⟩ : ∃ X, w2.heap.size = X := ⟨_, rfl⟩; rw [hX] at Y3 HX ⊢; have HB3 := Lib.hid (HB1.out.trans (hb3.mono HB1.out.size)); have O3 := Lib.hid (HOWN.out.below HB3.out); have HNX : Hid ((Value.slice Ab bl cb).ownBlock ≠ some X) := (fun e => by have h1 := (World.ownsRow.lt HOWN.out X e).2; have := HX.out; omega); have E3 := Lib.hid (HBEL.out.trans (HB3.out.mono HWB.out)); clear HPK y3 hb3 hX) | (go_at_call 23; refine (HBASE.out _ HB3.out).mono ?_; rintro e w4 ⟨rfl, rfl⟩; clear HBASE) | (go_at_call 17; refine (HSIG.out _).mono ?_; rintro e w5 ⟨v5, rfl, hown5, hb5⟩; obtain ⟨A5, c5, rfl, y5, n5, l5, _⟩ := hown5.form; have Y5 := Lib.hid y5; have N5 := Lib.hid n5; have Y35 := Lib.hid (Y3.out.below hb5 (lt_of_block Y3.out)); have O5 := Lib.hid (O3.out.below hb5); have E5 := Lib.hid (E3.out.trans (hb5.mono E3.out.size)); clear HSIG y5 n5 l5 hb5 hown5) | (refine app_at W0 rfl (.tmp 31) (.tmp 35) rfl (.slice Ab bl cb) b rfl O5.out E5.out A5 sg.length c5 sg rfl rfl Y5.out N5.out (by have := HLEN.out; omega) ?_; intro v6 w6 hown6 hbel6 hg6 hat6; rw [HB6.out] at hown6; have Y6 := Lib.hid (grown_blk hg6 Y35.out HNX.out); have NX6 : Hid (v6.ownBlock ≠ some X) := ne_at hat6 HNX.out (lt_of_block Y35.out); obtain ⟨A6, c6, rfl, _, _, _, _⟩ := hown6.form; rw [HN6.out] at hown6 NX6 ⊢; have O6 := Lib.hid hown6; have E6 := Lib.hid hbel6; clear hown6 hbel6 hg6 hat6) | (refine app_at W0 rfl (.tmp 37) (.tmp 40) rfl (.slice A6 n6 c6) b6 rfl (O6.out.alloc _) (E6.out.alloc E6.out.size _) (some ⟨w6.heap.size, 0, none⟩) 1 1 [wc] rfl rfl (byt_one w6 wc _ HCV.out) (by simp) (by have := HL6.out; simp; omega) ?_; intro v7 w7 hown7 hbel7 hg7 hat7; rw [HB7.out] at hown7; have Y7 := Lib.hid (grown_blk hg7 (Y6.out.later _) NX6.out); have NX7 : Hid (v7.ownBlock ≠ some X) := ne_at hat7 NX6.out (lt_of_block (Y6.out.later _)); obtain ⟨A7, c7, rfl, _, _, _, _⟩ := hown7.form; rw [HN7.out] at hown7 NX7 ⊢; have O7 := Lib.hid hown7; have E7 := Lib.hid hbel7; clear hown7 hbel7 hg7 hat7) | (refine app_at W0 rfl (.tmp 42) (.tmp 43) rfl (.slice A7 n7 c7) b7 rfl O7.out E7.out (some ⟨X, 0, none⟩) np np pk rfl HNP.out.symm Y7.out.byt (by simp) (by have := HLEN.out; have := HL7.out; omega) ?_; intro v8 w8 hown8 hbel8 _ _; rw [HB8.out] at hown8; have O8 := Lib.hid hown8; have E8 := Lib.hid hbel8; clear hown8 hbel8))
  go_ret2
  exact ⟨_, rfl, O8.out, E8.out⟩
end Go.Proofs.YtdchaojgldfagaaDoor
