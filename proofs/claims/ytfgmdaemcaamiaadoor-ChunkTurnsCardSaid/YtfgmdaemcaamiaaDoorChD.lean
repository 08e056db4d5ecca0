/- Numbers and texts of the values that are not null, gathered: the document's others. -/
import Derived.Test.YtfgmdaemcaamiaaDoorChC
import Derived.Test.YtfgmdaemcaamiaaDoorRowM
import Derived.Test.YtfgmdaemcaamiaaDoorDcZ
import Derived.Test.YtfgmdaemcaamiaaDoorInZB
import Derived.Test.YtfgmdaemcaamiaaDoorInZA
namespace Go.Proofs.YtfgmdaemcaamiaaDoor
open Go.RowKit
set_option linter.unusedVariables false

theorem row_beside {w w' : World} {B B2 : Nat} {e e2 : TypeId} {z z2 : Nat} {v v2 : Value} {k k2 : Nat} {xs xs2 : List Value} (h : w.ownsRow B e z v k xs) (h2 : w.ownsRow B2 e2 z2 v2 k2 xs2) (hne : e ≠ e2) (hg : w.grownBy w' v2.ownBlock) : w'.ownsRow B e z v k xs :=
  row_kept h fun g hg1 => by
    obtain ⟨cur, hc, _⟩ := row_at h hg1
    refine hg.block g (Array.getElem?_eq_some_iff.1 hc).1 fun ej => ?_
    obtain ⟨cur2, hc2, _⟩ := row_at h2 ej.symm
    rw [hc] at hc2
    simp only [Option.some.injEq, Obj.cells.injEq] at hc2
    exact hne hc2.2.1
theorem app1_i64 {ops : Array Oper} {rest : List Oper} {o : Oper} {a : Act} {Q : Exit → Act → World → Prop} {w : World} (w0 : World) (hgd : o.guard = none) (s x : Operand)
    (ho : o.op = .call { callee := .builtin .append, args := #[s, x], argTypes := #[69, 69] }) (v : Value) (d : List Int) (hs : a.eval s = v) (hown : OwnI w w0.heap.size v d) (hbel : Below w0.heap.size w0 w)
    (g c : Nat) (q : Int) (hx : a.eval x = .slice (some ⟨g, 0, none⟩) 1 c) (hq : w.cell? ⟨g, 0, none⟩ = some (.int .i64 q)) (hsz : d.length ≤ 4000000000000)
    (h : ∀ v' w', OwnI w' w0.heap.size v' (d ++ [q]) → Below w0.heap.size w0 w' → w.grownBy w' v.ownBlock → wpList Tryd.prog ops Q rest (a.put o.dst v') w') : wpList Tryd.prog ops Q (o :: rest) a w := by
  obtain ⟨i0, hti, hz0, hz1, hz2⟩ := info_parts info_i64
  refine wpList_append_own w hgd s x 69 ho w0.heap.size 2 i0 (.int .i64 0) 1 8 Tryd.underlying69 hti hz0 hz1 hz2 rfl (by decide) v d.length (i64s d) hs hown ⟨g, 0, none⟩ 1 c [.int .i64 q] hx rfl
    (fun j u hj => by
      match j, hj with
      | 0, hj => simp at hj; subst hj; rw [Addr.add_lit]; exact hq)
    (fun u hu => by simp at hu; subst hu; rfl) (by unfold maxLen; omega) (by omega) hbel.size ?_
  intro v' w' h1 h2 h5
  refine h v' w' ?_ (hbel.grown h2 hbel.size (fun k hk => (row_lt hown hk).1)) h2
  show w'.ownsRow w0.heap.size 2 1 v' (d ++ [q]).length (i64s (d ++ [q]))
  rw [List.length_append, i64s_app]; exact h1
theorem app1_str {ops : Array Oper} {rest : List Oper} {o : Oper} {a : Act} {Q : Exit → Act → World → Prop} {w : World} (w0 : World) (hgd : o.guard = none) (s x : Operand)
    (ho : o.op = .call { callee := .builtin .append, args := #[s, x], argTypes := #[70, 70] }) (v : Value) (d : List Tx) (hs : a.eval s = v) (hown : OwnS w w0.heap.size v d) (hbel : Below w0.heap.size w0 w)
    (g c : Nat) (q : Tx) (t : ByteArray) (hx : a.eval x = .slice (some ⟨g, 0, none⟩) 1 c) (hq : w.cell? ⟨g, 0, none⟩ = some (.string t)) (ht : t.data.toList = q) (hsz : d.length ≤ 40000000000)
    (h : ∀ v' w', OwnS w' w0.heap.size v' (d ++ [q]) → Below w0.heap.size w0 w' → w.grownBy w' v.ownBlock → wpList Tryd.prog ops Q rest (a.put o.dst v') w') : wpList Tryd.prog ops Q (o :: rest) a w := by
  obtain ⟨i0, hti, hz0, hz1, hz2⟩ := info_parts info_str
  have hte : Value.string t = encStr q := by subst ht; rfl
  refine wpList_append_own w hgd s x 70 ho w0.heap.size 9 i0 (.string ⟨#[]⟩) 1 16 Tryd.underlying70 hti hz0 hz1 hz2 rfl (by decide) v d.length (d.map encStr) hs hown ⟨g, 0, none⟩ 1 c [encStr q] hx rfl
    (fun j u hj => by
      match j, hj with
      | 0, hj => simp at hj; subst hj; rw [Addr.add_lit, ← hte]; exact hq)
    (fun u hu => by simp at hu; subst hu; rfl) (by unfold maxLen; omega) (by omega) hbel.size ?_
  intro v' w' h1 h2 h5
  refine h v' w' ?_ (hbel.grown h2 hbel.size (fun k hk => (row_lt hown hk).1)) h2
  show w'.ownsRow w0.heap.size 9 1 v' (d ++ [q]).length ((d ++ [q]).map encStr)
  rw [List.length_append, List.map_append]; exact h1
theorem oth_snoc (l : List Vl) (k : Nat) (h : k < l.length) : othL (l.take (k + 1)) = othL (l.take k) ++ if l[k].kind = 0 then [] else [l[k]] := by
  rw [List.take_succ_eq_append_getElem h, othL_app]
  congr 1
  unfold othL
  by_cases e : l[k].kind = 0
  · rw [List.filter_cons, if_neg (by simp [e]), if_pos e]; rfl
  · rw [List.filter_cons, if_pos (by simp [e]), if_neg e]; rfl

set_option maxRecDepth 100000 in
set_option maxHeartbeats 4000000 in
theorem refoth_any (kind : Int) (A : Option Addr) (cap : Nat) (l : List Vl) (W : World) (hl : Vls W A l) (hr : colR kind l = true) (hlt0 : nulN l < l.length) (hT : TabAt W) :
    Calls Tryd.prog 27 #[.int .i64 kind, .slice A l.length cap] W (Made W (othB kind l)) := by
  obtain ⟨n, hln⟩ : ∃ n, l.length = n := ⟨_, rfl⟩
  have hn4 : n ≤ 1024 := by rw [← hln]; exact (colR_iff.1 hr).2.1
  have HL := Lib.hid hl
  have HLN := Lib.hid hln
  have HR := Lib.hid hr
  have HT := Lib.hid hT
  have HLT0 := Lib.hid hlt0
  rw [hln]
  clear hl hln hr hT hlt0
  obtain ⟨NL, hNL⟩ : ∃ NL : Nat → List Int, NL = fun k => numsL (l.take k) := ⟨_, rfl⟩
  obtain ⟨TL, hTL⟩ : ∃ TL : Nat → List Tx, TL = fun k => txtsL (l.take k) := ⟨_, rfl⟩
  have hNk : ∀ k, (NL k).length ≤ k := fun k => by rw [hNL]; simp only; rw [nums_len]; have := othL_le (l.take k); rw [List.length_take] at this; omega
  have hTk : ∀ k, (TL k).length ≤ k := fun k => by rw [hTL]; simp only; rw [txts_len]; have := othL_le (l.take k); rw [List.length_take] at this; omega
  have HNK := Lib.hid hNk
  have HTK := Lib.hid hTk
  have HNE : Hid (NL n = numsL l) := by show _ = _; rw [hNL]; simp only; rw [List.take_of_length_le (by rw [HLN.out]; omega)]
  have HTE : Hid (TL n = txtsL l) := by show _ = _; rw [hTL]; simp only; rw [List.take_of_length_le (by rw [HLN.out]; omega)]
  have HN0 : Hid (NL 0 = []) := by show _ = _; rw [hNL]; rfl
  have HT0 : Hid (TL 0 = []) := by show _ = _; rw [hTL]; rfl
  have HST : Hid (∀ k (h : k < l.length), (l[k].kind = 0 → NL (k + 1) = NL k ∧ TL (k + 1) = TL k) ∧ (l[k].kind ≠ 0 → NL (k + 1) = NL k ++ [l[k].num] ∧ TL (k + 1) = TL k ++ [l[k].text.data.toList])) := fun k h => by
    rw [hNL, hTL]
    simp only [numsL, txtsL]
    rw [oth_snoc l k h]
    refine ⟨fun e => ?_, fun e => ?_⟩
    · rw [if_pos e]; simp
    · rw [if_neg e]; simp
  clear hNL hTL hNk hTk
  go_enter Tryd.func27, Tryd.ntmps27
  go_wp2
  go_loopw [5, 6, 7] (fun v u x wr => ∃ k : Nat, k ≤ n ∧ x = .int .i64 k ∧ OwnI wr W.heap.size v (NL k) ∧ OwnS wr W.heap.size u (TL k) ∧ Below W.heap.size W wr) (fun _ _ x _ => n - (intOf x).toNat)
  case atStart => exact ⟨0, by omega, rfl, by rw [HN0.out]; exact World.ownsRow_nil _ _ _ _, by rw [HT0.out]; exact World.ownsRow_nil _ _ _ _, Below.refl _ _⟩
  case round =>
    obtain ⟨k, hk, rfl, ho1, ho2, hbel⟩ := hrel
    by_cases hlt : k < n
    · have hk1 : k < l.length := by rw [HLN.out]; exact hlt
      obtain ⟨b, o, rfl, hvb⟩ := HL.out k hk1
      obtain ⟨v0, v1, v2⟩ := hvb.keep hbel hvb.lt
      have HBEL := Lib.hid hbel
      have hst := HST.out k hk1
      have HV2 : Hid (∀ w3, Below W.heap.size W w3 → w3.cell? ⟨b, o + k * 3 + 2, none⟩ = some (.string (l[k]).text)) := fun w3 h => (hvb.keep h hvb.lt).2.2
      generalize l[k] = v at v0 v1 v2 hst HV2
      generalize v.kind = kd at v0 hst
      generalize v.num = nm at v1 hst
      generalize v.text = tx at v2 hst HV2
      have hK : Hid (k < n) := hlt
      have HO1 := Lib.hid ho1
      have HO2 := Lib.hid ho2
      have hm1 := HNK.out k
      have hm2 := HTK.out k
      obtain ⟨m1, hm1e⟩ : ∃ m1, (NL k).length = m1 := ⟨_, rfl⟩
      obtain ⟨m2, hm2e⟩ : ∃ m2, (TL k).length = m2 := ⟨_, rfl⟩
      obtain ⟨A1, c1, rfl, _, _, _⟩ := ho1.form
      obtain ⟨A2, c2, rfl, _, _, _, _⟩ := ho2.form
      rw [hm1e] at hm1 HO1 ⊢
      rw [hm2e] at hm2 HO2 ⊢
      have HM1 := Lib.hid hm1e
      have HM2 := Lib.hid hm2e
      clear hvb ho1 ho2 hbel hm1e hm2e
      by_cases e : kd = 0
      · have HS := Lib.hid (hst.1 e)
        subst e
        clear hst
        go_wp2
        go_roundw
        case rel => exact ⟨k + 1, hK.out, by go_num, by rw [HS.out.1]; exact HO1.out, by rw [HS.out.2]; exact HO2.out, HBEL.out⟩
        case measure => simp [intOf]; have := hK.out; omega
      · have HS := Lib.hid (hst.2 e)
        have q1 : (kd == 0) = false := by rw [beq_eq_false_iff_ne]; exact e
        have q3 : (kd != 0) = true := by rw [bne, q1]; rfl
        clear hst e q1 v2
        go_wp2_with (first | (refine app1_i64 W rfl _ _ rfl _ (NL k) rfl (World.ownsRow.alloc HO1.out _) (HBEL.out.alloc HBEL.out.size _) wr.heap.size 1 nm rfl ((Blk.born wr 2 [.int .i64 nm]).at_ 0) (by rw [HM1.out]; omega) ?_; intro v3 w3 ho3 hb3 hg3; have O2 := Lib.hid (row_beside (World.ownsRow.alloc HO2.out _) (World.ownsRow.alloc HO1.out _) (by decide) hg3); have y2 := HV2.out w3 hb3; obtain ⟨A3, c3, rfl, _, _, _⟩ := ho3.form; have O3 := Lib.hid ho3; have B3 := Lib.hid hb3; clear ho3 hb3 hg3) | (refine app1_str W rfl _ _ rfl _ (TL k) rfl (World.ownsRow.alloc O2.out _) (B3.out.alloc B3.out.size _) w3.heap.size 1 tx.data.toList tx rfl ((Blk.born w3 9 [.string tx]).at_ 0) rfl (by rw [HM2.out]; omega) ?_; intro v4 w4 ho4 hb4 hg4; have O5 := Lib.hid (row_beside (World.ownsRow.alloc O3.out _) (World.ownsRow.alloc O2.out _) (by decide) hg4); obtain ⟨A4, c4, rfl, _, _, _, _⟩ := ho4.form; have O4 := Lib.hid ho4; have B4 := Lib.hid hb4; clear ho4 hb4 hg4))
        go_roundw
        case rel => exact ⟨k + 1, hK.out, by go_num, by rw [HS.out.1]; have h := O5.out; rw [List.length_append] at h; unfold OwnI; rw [List.length_append]; exact h, by rw [HS.out.2]; have h := O4.out; unfold OwnS at h ⊢; rw [List.length_append] at h ⊢; exact h, B4.out⟩
        case measure => simp [intOf]; have := hK.out; omega
    · obtain rfl : k = n := by omega
      rw [HNE.out] at ho1
      rw [HTE.out] at ho2
      have HBEL := Lib.hid hbel
      have hr := HR.out
      have htr := txts_right hr
      have hbt := bstT_lt (txtsL l)
      have hkd := (colR_iff.1 hr).1
      have hnl : (numsL l).length ≤ 4096 := by rw [nums_len]; have := othL_le l; rw [HLN.out] at this; omega
      have h64 := nums_64 l
      obtain ⟨A1, c1, rfl, hi1, _, hc1⟩ := ho1.form
      obtain ⟨A2, c2, rfl, hs2, _, hc2, _⟩ := ho2.form
      have hT2 := HT.out.keep hbel
      have hlt0 := HLT0.out
      obtain ⟨ob, hob⟩ : ∃ ob, othB kind l = ob := ⟨_, rfl⟩
      have HOB := Lib.hid hob
      unfold othB at hob
      rw [if_pos hlt0] at hob
      by_cases h3 : kind = 3
      · subst h3
        rw [if_pos rfl] at hob
        have hbv : bestT (txtsL l) = (bstT (txtsL l) : Int) := by unfold bestT bstT; split <;> rfl
        have hB1 : ∀ w, Below wr.heap.size wr w → Calls Tryd.prog 47 #[.slice A2 (txtsL l).length c2] w fun e W' => e = .returned (.tuple #[.int .i64 (bstT (txtsL l) : Int), .int .i64 0]) ∧ Below w.heap.size w W' := fun w h => by
          rw [← hbv]
          exact rbest_yes A2 c2 (txtsL l) w (hs2.keep h) htr (hT2.keep h)
        have hE1 : ∀ w, Below wr.heap.size wr w → Calls Tryd.prog 48 #[.int .i64 (bstT (txtsL l) : Int), .slice A2 (txtsL l).length c2] w (LaidI w ob) := fun w h => by
          rw [← hob]
          have : bstT (txtsL l) = 0 ∨ bstT (txtsL l) = 1 := by omega
          rcases this with e | e
          · rw [e]; exact renc0_any A2 c2 (txtsL l) w (hs2.keep h) htr
          · rw [e]; exact renc1_any A2 c2 (txtsL l) w (hs2.keep h) htr
        have HB1 := Lib.hid hB1
        have HE1 := Lib.hid hE1
        clear hB1 hE1 hob hs2 htr hi1 h64 ho1 ho2 hT2 hbel hr hbt hlt0 hbv HNE HTE HST HN0 HT0
        generalize (txtsL l).length = m at *
        generalize bstT (txtsL l) = f at *
        unfold LaidI at HE1
        go_wp2_with (first | (go_at_call 47; refine (HB1.out _ (Below.refl _ _)).mono ?_; rintro e w1 ⟨rfl, hb1⟩; have B1 := Lib.hid hb1; clear hb1) | (go_at_call 48; refine (HE1.out w1 B1.out).mono ?_; rintro e w2 ⟨v2, rfl, ho2, hb2⟩; have O2 := Lib.hid ho2; have B2 := Lib.hid hb2; clear ho2 hb2))
        go_ret
        have hz := HBEL.out.size
        have hz1 := B1.out.size
        exact ⟨v2, rfl, by rw [HOB.out]; exact O2.out.base (Nat.le_trans hz hz1), HBEL.out.trans ((B1.out.trans (B2.out.mono hz1)).mono hz)⟩
      · rw [if_neg h3] at hob
        have hbf := (bestL_spec (numsL l)).1
        have hB1 : ∀ w, Below wr.heap.size wr w → Calls Tryd.prog 49 #[.slice A1 (numsL l).length c1] w fun e W' => e = .returned (.tuple #[.int .i64 (bestL (numsL l) : Int), .int .i64 0]) ∧ Below w.heap.size w W' := fun w h => refbest_any A1 c1 (numsL l) w (hi1.keep h) h64 hnl
        have hE1 : ∀ w, Below wr.heap.size wr w → Calls Tryd.prog 50 #[.int .i64 (bestL (numsL l) : Int), .slice A1 (numsL l).length c1] w (LaidI w ob) := fun w h => by
          rw [← hob]
          exact refenc_any _ hbf A1 c1 (numsL l) w (hi1.keep h) h64 hnl
        have HB1 := Lib.hid hB1
        have HE1 := Lib.hid hE1
        have q3 : (kind == 3) = false := by rw [beq_eq_false_iff_ne]; exact h3
        clear hB1 hE1 hob hs2 htr hi1 h64 ho1 ho2 hT2 hbel hr hbt hlt0 hbf HNE HTE HST HN0 HT0 h3 hkd
        generalize (numsL l).length = m at *
        generalize bestL (numsL l) = f at *
        unfold LaidI at HE1
        go_wp2_with (first | (go_at_call 49; refine (HB1.out _ (Below.refl _ _)).mono ?_; rintro e w1 ⟨rfl, hb1⟩; have B1 := Lib.hid hb1; clear hb1) | (go_at_call 50; refine (HE1.out w1 B1.out).mono ?_; rintro e w2 ⟨v2, rfl, ho2, hb2⟩; have O2 := Lib.hid ho2; have B2 := Lib.hid hb2; clear ho2 hb2))
        go_ret
        have hz := HBEL.out.size
        have hz1 := B1.out.size
        exact ⟨v2, rfl, by rw [HOB.out]; exact O2.out.base (Nat.le_trans hz hz1), HBEL.out.trans ((B1.out.trans (B2.out.mono hz1)).mono hz)⟩
end Go.Proofs.YtfgmdaemcaamiaaDoor
