/- The walk of the document's Encode of a column. -/
import Derived.Test.YtfgmdaemcaamiaaDoorChF
import Derived.Test.YtfgmdaemcaamiaaDoorRefNum
namespace Go.Proofs.YtfgmdaemcaamiaaDoor
open Go.RowKit
set_option linter.unusedVariables false

set_option maxHeartbeats 2000000 in
theorem renc8_no (kind : Int) (A : Option Addr) (cap : Nat) (l : List Vl) (W : World) (hl : Vls W A l) (hn : l.length ≤ 4000000000000000000) (h : colR kind l = false) :
    Calls Tryd.prog 10 #[.int .i64 kind, .slice A l.length cap] W fun e W' => e = .returned (.tuple #[.slice none 0 0, .int .i64 2]) ∧ Below W.heap.size W W' := by
  have h1 := refcol_any kind A cap l W hl hn
  rw [h] at h1
  have HC := Lib.hid h1
  clear h1 hl h
  generalize l.length = n at *
  go_enter Tryd.func10, Tryd.ntmps10
  go_wp2_with (go_at_call 23; refine HC.out.mono ?_; rintro e w1 ⟨rfl, hb1⟩; have B1 := Lib.hid hb1; clear hb1)
  go_ret2
  exact ⟨rfl, B1.out⟩
theorem app1_num {ops : Array Oper} {rest : List Oper} {o : Oper} {a : Act} {Q : Exit → Act → World → Prop} {w : World} (w0 : World) (hgd : o.guard = none) (s x : Operand)
    (ho : o.op = .call { callee := .builtin .append, args := #[s, x], argTypes := #[45, 45] }) (v : Value) (d : List W64) (hs : a.eval s = v) (hown : OwnN w w0.heap.size v d) (hbel : Below w0.heap.size w0 w)
    (g c : Nat) (q : W64) (hx : a.eval x = .slice (some ⟨g, 0, none⟩) 1 c) (hq : w.cell? ⟨g, 0, none⟩ = some (.int .u64 (q.toNat : Int))) (hsz : d.length ≤ 4000000000000)
    (h : ∀ v' w', OwnN w' w0.heap.size v' (d ++ [q]) → Below w0.heap.size w0 w' → w.grownBy w' v.ownBlock → wpList Tryd.prog ops Q rest (a.put o.dst v') w') : wpList Tryd.prog ops Q (o :: rest) a w := by
  obtain ⟨i0, hti, hz0, hz1, hz2⟩ := info_parts info52
  refine wpList_append_own w hgd s x 45 ho w0.heap.size 43 i0 (.int .u64 0) 1 8 Tryd.underlying45 hti hz0 hz1 hz2 rfl (by decide) v d.length (n64s d) hs hown ⟨g, 0, none⟩ 1 c [.int .u64 (q.toNat : Int)] hx rfl
    (fun j u hj => by
      match j, hj with
      | 0, hj => simp at hj; subst hj; rw [Addr.add_lit]; exact hq)
    (fun u hu => by simp at hu; subst hu; rfl) (by unfold maxLen; omega) (by omega) hbel.size ?_
  intro v' w' h1 h2 h5
  refine h v' w' ?_ (hbel.grown h2 hbel.size (fun k hk => (row_lt hown hk).1)) h2
  show w'.ownsRow w0.heap.size 43 1 v' (d ++ [q]).length (n64s (d ++ [q]))
  rw [List.length_append, n64s_app]; exact h1

set_option maxRecDepth 100000 in
set_option maxHeartbeats 8000000 in
theorem renc8_a (kind : Int) (A : Option Addr) (cap : Nat) (l : List Vl) (W : World) (hl : Vls W A l) (hr : colR kind l = true) (h0 : 0 < nulN l) (h1 : nulN l < l.length) (hT : TabAt W) :
    Calls Tryd.prog 10 #[.int .i64 kind, .slice A l.length cap] W (LaidI W (encC kind l)) := by
  obtain ⟨kn, rfl⟩ : ∃ kn : Nat, kind = (kn : Int) := ⟨kind.toNat, by have := (colR_iff.1 hr).1; omega⟩
  have hkn : 1 ≤ kn ∧ kn ≤ 3 := by have := (colR_iff.1 hr).1; omega
  have hn := (colR_iff.1 hr).2.1
  have hbl := bodyC_len hr
  have hbk : bodyC (kn : Int) l = ((([UInt8.ofNat kn] ++ num l.length) ++ num (nulN l)) ++ maskB l) ++ othB (kn : Int) l := by
    unfold bodyC tailC
    simp only [Int.toNat_natCast, List.cons_append, List.nil_append, List.append_assoc]
  have hc1 := refcol_any (kn : Int) A cap l W hl (by omega)
  rw [hr] at hc1
  have HC := Lib.hid hc1
  have HNU := Lib.hid (fun w (h : Below W.heap.size W w) => refnul_any A cap l w (hl.keep h) (by omega))
  have hkb : ((UInt8.ofNat kn).toNat : Int) = (kn : Int) := by rw [UInt8.toNat_ofNat']; omega
  obtain ⟨kb, hkbe⟩ : ∃ kb, UInt8.ofNat kn = kb := ⟨_, rfl⟩
  rw [hkbe] at hkb hbk
  have HN1 := Lib.hid (fun w => refnumber_any (some ⟨w.heap.size, 0, none⟩) 1 l.length [kb] (w.alloc (.cells #[Value.int .u8 (kn : Int)] 5)) (byt_one w kb _ hkb.symm) (by simp) (by simp) (by omega))
  have hnum1 := num_len l.length
  have hnum2 := num_len (nulN l)
  have hno := nulN_oth l
  have hmk : maskB l = packL ((l.length + 7) / 8) (bitsP 1 (maskL l)) := by unfold maskB; rw [if_pos ⟨h0, h1⟩]
  have hmkl := maskL_len l
  have hmw := maskL_wid l
  have hmbl := maskB_len l hn
  have HPK := Lib.hid (fun (A2 : Option Addr) (c2 : Nat) (w : World) (hm : Num w A2 (maskL l)) => refpack_any 1 A2 c2 (maskL l) w hm (by omega) (by omega))
  have HMT := Lib.hid (fun k (h : k < l.length) => mask_snoc l k h)
  have HOT := Lib.hid (fun w (h : Below W.heap.size W w) => refoth_any (kn : Int) A cap l w (hl.keep h) hr h1 (hT.keep h))
  have hobl := othB_len hr
  obtain ⟨bd, hbd⟩ : ∃ bd, bodyC (kn : Int) l = bd := ⟨_, rfl⟩
  have HRES : Hid (encC (kn : Int) l = bd ++ sumB bd) := by show _ = _; rw [← hbd]; rfl
  rw [hbd] at hbk hbl
  have HSU := Lib.hid (fun (A2 : Option Addr) (c2 nb : Nat) (w : World) (hnb : bd.length = nb) (hb : Byt w A2 bd) (hA : A2 = none → c2 = 0) => by have h := refsum_any A2 c2 bd w hb (by unfold maxLen; omega); rw [hnb] at h; exact h)
  rw [show (maskL l).length = l.length from hmkl] at HPK
  rw [Nat.mul_one, ← hmk] at HPK
  have HMW := Lib.hid hmw
  have HMLE := Lib.hid hmkl
  have HL := Lib.hid hl
  have HML : Hid ((maskB l).length = (l.length + 7) / 8) := by show _ = _; rw [hmk, packL_len]
  have HBK := Lib.hid hbk
  generalize maskB l = mb at *
  generalize othB (kn : Int) l = ob at *
  obtain ⟨n, hne⟩ : ∃ n, l.length = n := ⟨_, rfl⟩
  obtain ⟨m, hme⟩ : ∃ m, nulN l = m := ⟨_, rfl⟩
  rw [hne] at hn h1 hnum1 hbk hno ⊢
  rw [hme] at h0 h1 hnum2 hbk hno
  clear hl hr hT hc1 hbk hbd hkbe
  have HNE := Lib.hid hne
  have HME := Lib.hid hme
  rw [hne] at HC HNU HN1 HBK
  rw [hme] at HNU HBK
  rw [hne] at HPK HML
  have hml := HML.out
  have hml1 : (num n).length ≤ 10 := hnum1.2
  have hml2 : (num m).length ≤ 10 := hnum2.2
  have HL1 := Lib.hid hml1
  have HL2 := Lib.hid hml2
  have hlt : (m : Int) < (n : Int) := by omega
  rw [hne] at HOT
  have hpos : (0 : Int) < (m : Int) := by omega
  have hkw : (kn : Int) % 256 = (kn : Int) := by omega
  clear hne hme hkb hnum1 hnum2 hml1 hml2 hmk
  unfold LaidI
  go_enter Tryd.func10, Tryd.ntmps10
  go_wp2_with fail
  go_at_call 23
  refine HC.out.mono ?_
  rintro e w1 ⟨rfl, hb1⟩
  have B1 := Lib.hid hb1
  clear hb1
  go_wp2_with fail
  go_at_call 24
  refine (HNU.out w1 B1.out).mono ?_
  rintro e w2 ⟨rfl, hb2⟩
  have B2 := Lib.hid (below_to B1.out hb2)
  clear hb2
  go_wp2_with fail
  refine (HN1.out w2).mono ?_
  rintro e w3 ⟨v3, rfl, ho3, hb3⟩
  have hb3 := below_to B2.out (((Below.refl _ w2).alloc (Nat.le_refl _) _).trans (hb3.mono (by simp)))
  have ho3 := ho3.base (B' := W.heap.size) (by have := B2.out.size; simp; omega)
  have hp1 : ([kb] ++ num n).length ≤ 11 := by have := HL1.out; simp; omega
  obtain ⟨b3, hb3e⟩ : ∃ b3, [kb] ++ num n = b3 := ⟨_, rfl⟩
  rw [hb3e] at ho3 hp1 HBK
  obtain ⟨A3, c3, rfl, hy3, ha3, hc3, hm3⟩ := ho3.form
  have HN2 := Lib.hid (refnumber_any A3 c3 m b3 w3 hy3 ha3 (by omega) (by omega))
  have B3 := Lib.hid hb3
  have hp2 : (b3 ++ num m).length ≤ 21 := by have := HL2.out; rw [List.length_append]; omega
  obtain ⟨p3, hp3⟩ : ∃ p3, b3.length = p3 := ⟨_, rfl⟩
  rw [hp3] at HN2 ⊢
  clear hb3 ho3 hy3 ha3 hp3 hb3e hp1 hc3 hm3 HN1
  go_wp2_with fail
  refine HN2.out.mono ?_
  rintro e w4 ⟨v4, rfl, ho4, hb4⟩
  have hb4 := below_to B3.out hb4
  have ho4 := ho4.base (B' := W.heap.size) B3.out.size
  obtain ⟨b4, hb4e⟩ : ∃ b4, b3 ++ num m = b4 := ⟨_, rfl⟩
  rw [hb4e] at ho4 hp2 HBK
  obtain ⟨A4, c4, rfl, hy4, ha4, hc4, hm4⟩ := ho4.form
  have B4 := Lib.hid hb4
  have O4 := Lib.hid ho4
  obtain ⟨p4, hp4⟩ : ∃ p4, b4.length = p4 := ⟨_, rfl⟩
  have HP4 := Lib.hid hp4
  rw [hp4] at O4 hp2 ⊢
  clear hb4 ho4 hy4 ha4 hp4 hb4e hc4 hm4 HN2
  have HVL := Lib.hid (HL.out.keep B4.out)
  go_wp2_with fail
  go_loopw [9, 10, 11] (fun v i u wr => ∃ k : Nat, k ≤ n ∧ i = .int .i64 k ∧ OwnN wr W.heap.size v ((maskL l).take k) ∧ Own wr W.heap.size (.slice A4 p4 c4) b4 ∧ Below W.heap.size W wr) (fun _ i _ _ => n - (intOf i).toNat)
  case atStart => exact ⟨0, by omega, rfl, World.ownsRow_nil _ _ _ _, O4.out, B4.out⟩
  case round =>
    obtain ⟨k, hk, rfl, hor, ho4, hbel⟩ := hrel
    by_cases hlt2 : k < n
    · have hk1 : k < l.length := by rw [HNE.out]; exact hlt2
      obtain ⟨b, o, rfl, hvb⟩ := HL.out k hk1
      obtain ⟨v0, v1, v2⟩ := hvb.keep hbel hvb.lt
      have hst := HMT.out k hk1
      generalize l[k] = v at v0 hst
      generalize v.kind = kd at v0 hst
      have hK : Hid (k < n) := hlt2
      have HOR := Lib.hid hor
      have HO4 := Lib.hid ho4
      have HBEL := Lib.hid hbel
      have htl : ((maskL l).take k).length = k := by rw [List.length_take, HMLE.out]; omega
      have HTL := Lib.hid htl
      obtain ⟨A1, c1, rfl, _, _⟩ := hor.form
      rw [htl]
      clear hvb v1 v2 hor ho4 hbel htl
      by_cases e : kd = 0
      · rw [if_pos e] at hst
        have HST := Lib.hid hst
        subst e
        clear hst
        go_wp2_with (refine app1_num W rfl _ _ rfl _ ((maskL l).take k) rfl (by have h := World.ownsRow.alloc HOR.out (Obj.cells #[Value.int .u64 1] 43); rw [HTL.out] at h; unfold OwnN; rw [HTL.out]; exact h) (HBEL.out.alloc HBEL.out.size _) wr.heap.size 1 1#64 rfl ((Blk.born wr 43 [.int .u64 1]).at_ 0) (by rw [HTL.out]; omega) ?_; intro v3 w3 ho3 hb3 hg3; refine Hid.out ?_)
        refine Lib.hid ?_
        rw [← HST.out] at ho3
        have ho9 := HOR.out
        unfold OwnN at ho9
        rw [HTL.out] at ho9
        have H4 := Lib.hid (row_beside (World.ownsRow.alloc HO4.out _) (World.ownsRow.alloc ho9 _) (by decide) hg3)
        obtain ⟨A3, c3, rfl, _, _⟩ := ho3.form
        have htl3 : ((maskL l).take (k + 1)).length = k + 1 := by rw [List.length_take, HMLE.out, HNE.out]; omega
        have H3 := Lib.hid ho3
        have HB3 := Lib.hid hb3
        rw [htl3] at H3 ⊢
        clear ho3 ho9 hb3 hg3 htl3
        go_wp2_with fail
        go_roundw
        case rel => exact ⟨k + 1, hK.out, by go_num, H3.out, H4.out, HB3.out⟩
        case measure => simp [intOf]; have := hK.out; omega
      · rw [if_neg e] at hst
        have HST := Lib.hid hst
        have q1 : (kd == 0) = false := by rw [beq_eq_false_iff_ne]; exact e
        clear hst e
        go_wp2_with (refine app1_num W rfl _ _ rfl _ ((maskL l).take k) rfl (by have h := World.ownsRow.alloc HOR.out (Obj.cells #[Value.int .u64 0] 43); rw [HTL.out] at h; unfold OwnN; rw [HTL.out]; exact h) (HBEL.out.alloc HBEL.out.size _) wr.heap.size 1 0#64 rfl ((Blk.born wr 43 [.int .u64 0]).at_ 0) (by rw [HTL.out]; omega) ?_; intro v3 w3 ho3 hb3 hg3; refine Hid.out ?_)
        refine Lib.hid ?_
        rw [← HST.out] at ho3
        have ho9 := HOR.out
        unfold OwnN at ho9
        rw [HTL.out] at ho9
        have H4 := Lib.hid (row_beside (World.ownsRow.alloc HO4.out _) (World.ownsRow.alloc ho9 _) (by decide) hg3)
        obtain ⟨A3, c3, rfl, _, _⟩ := ho3.form
        have htl3 : ((maskL l).take (k + 1)).length = k + 1 := by rw [List.length_take, HMLE.out, HNE.out]; omega
        have H3 := Lib.hid ho3
        have HB3 := Lib.hid hb3
        rw [htl3] at H3 ⊢
        clear ho3 ho9 hb3 hg3 htl3
        go_wp2_with fail
        go_roundw
        case rel => exact ⟨k + 1, hK.out, by go_num, H3.out, H4.out, HB3.out⟩
        case measure => simp [intOf]; have := hK.out; omega
    · obtain rfl : k = n := by omega
      rw [List.take_of_length_le (by rw [HMLE.out, HNE.out]; omega)] at hor
      obtain ⟨A5, c5, rfl, hnm5, _⟩ := hor.form
      have hlm : (maskL l).length = k := by rw [HMLE.out, HNE.out]
      have HPK5 := HPK.out A5 c5 wr hnm5
      rw [hlm]
      have HPK6 := Lib.hid HPK5
      have O4 := Lib.hid ho4
      have B5 := Lib.hid hbel
      clear hor hnm5 hlm HPK5 ho4 hbel
      go_wp2_with fail
      refine HPK6.out.mono ?_
      rintro e w6 (⟨_, rfl, hm6, hb6⟩ | ⟨hbad, _⟩)
      rotate_left
      · exact absurd hbad (by have := HMW.out; omega)
      have O4 := Lib.hid (O4.out.below hb6)
      have B6 := Lib.hid (below_to B5.out hb6)
      have hy6 : Byt w6 (some ⟨wr.heap.size, 0, none⟩) mb := by
        intro k hk
        refine ⟨wr.heap.size, 0, rfl, ?_⟩
        rw [Nat.zero_add, hm6.at_]
        simp [u8s, hk]
      have HY6 := Lib.hid hy6
      clear hm6 hb6 hy6
      go_wp2_with (refine app_byt W rfl _ _ rfl _ b4 rfl O4.out B6.out _ _ _ mb rfl HML.out.symm HY6.out (by simp) (by rw [HP4.out]; omega) ?_; intro v7 w7 ho7 hb7 hg7; refine Hid.out ?_)
      refine Lib.hid ?_
      clear hg7
      have hp7 : (b4 ++ mb).length ≤ 300 := by (rw [List.length_append, HP4.out, HML.out]; omega)
      obtain ⟨b7, hb7e⟩ : ∃ b7, b4 ++ mb = b7 := ⟨_, rfl⟩
      rw [hb7e] at ho7 hp7 HBK
      obtain ⟨A7, c7, rfl, hy7, ha7, hc7, hm7⟩ := ho7.form
      obtain ⟨p7, hp7e⟩ : ∃ p7, b7.length = p7 := ⟨_, rfl⟩
      have HP7 := Lib.hid hp7e
      have O7 := Lib.hid ho7
      rw [hp7e] at hp7 O7 ⊢
      have B7 := Lib.hid hb7
      clear ho7 hb7 hy7 ha7 hc7 hm7 hb7e hp7e
      go_wp2_with fail
      go_at_call 27
      refine (HOT.out w7 B7.out).mono ?_
      rintro e w8 ⟨v8, rfl, ho8, hb8⟩
      have O7 := Lib.hid (O7.out.below hb8)
      have B8 := Lib.hid (below_to B7.out hb8)
      obtain ⟨A8, c8, rfl, hy8, ha8, hc8, hm8⟩ := ho8.form
      have HY8 := Lib.hid hy8
      have HA8 := Lib.hid ha8
      obtain ⟨p8, hp8⟩ : ∃ p8, ob.length = p8 := ⟨_, rfl⟩
      have HP8 := Lib.hid hp8
      rw [hp8] at hobl ⊢
      clear ho8 hb8 hy8 ha8 hc8 hm8 hp8
      go_wp2_with (refine app_byt W rfl _ _ rfl _ b7 rfl O7.out B8.out _ _ _ ob rfl HP8.out.symm HY8.out HA8.out (by rw [HP7.out, HP8.out]; omega) ?_; intro v9 w9 ho9 hb9 hg9; refine Hid.out ?_)
      refine Lib.hid ?_
      clear hg9
      rw [← HBK.out] at ho9
      obtain ⟨A9, c9, rfl, hy9, ha9, hc9, hm9⟩ := ho9.form
      obtain ⟨p9, hp9e⟩ : ∃ p9, bd.length = p9 := ⟨_, rfl⟩
      have HP9 := Lib.hid hp9e
      have O9 := Lib.hid ho9
      have HSU9 := Lib.hid (HSU.out A9 c9 p9 w9 hp9e hy9 ha9)
      rw [hp9e] at O9 hbl ⊢
      have B9 := Lib.hid hb9
      clear ho9 hb9 hy9 ha9 hc9 hm9 hp9e
      go_wp2_with fail
      refine HSU9.out.mono ?_
      rintro e w10 ⟨rfl, rfl⟩
      have hslt := (crcN bd).isLt
      obtain ⟨s, hs⟩ : ∃ s, (crcN bd).toNat = s := ⟨_, rfl⟩
      have hsb : sumB bd = [UInt8.ofNat (s % 256), UInt8.ofNat (s / 256 % 256), UInt8.ofNat (s / 65536 % 256), UInt8.ofNat (s / 16777216 % 256)] := by rw [← hs]; rfl
      rw [hs] at hslt ⊢
      have hsu : (u8s (sumB bd)).toArray = #[Value.int .u8 ((s : Int) % 256), Value.int .u8 ((s : Int) / 256 % 256), Value.int .u8 ((s : Int) / 65536 % 256), Value.int .u8 ((s : Int) / 16777216)] := by
        rw [hsb]
        simp only [u8s, List.map_cons, List.map_nil]
        rw [u8_ofNat _ (by omega), u8_ofNat _ (by omega), u8_ofNat _ (by omega), u8_ofNat _ (by omega)]
        rw [show ((s / 16777216 % 256 : Nat) : Int) = (s : Int) / 16777216 by omega]
        rfl
      have hy10 : Byt (w9.alloc (Obj.cells #[Value.int .u8 ((s : Int) % 256), Value.int .u8 ((s : Int) / 256 % 256), Value.int .u8 ((s : Int) / 65536 % 256), Value.int .u8 ((s : Int) / 16777216)] 5)) (some ⟨w9.heap.size, 0, none⟩) (sumB bd) := by
        rw [← hsu]
        intro k hk
        refine ⟨w9.heap.size, 0, rfl, ?_⟩
        rw [Nat.zero_add, (Blk.born w9 5 (u8s (sumB bd))).at_]
        simp [u8s, hk]
      have HY10 := Lib.hid hy10
      have hp10 := sumB_len bd
      have HP10 := Lib.hid hp10
      clear hp10 hy10 hsu hsb hs
      go_wp2_with (refine app_byt W rfl _ _ rfl _ bd rfl (World.ownsRow.alloc O9.out _) (B9.out.alloc B9.out.size _) _ _ _ (sumB bd) rfl HP10.out.symm HY10.out (by simp) (by rw [HP9.out, HP10.out]; omega) ?_; intro v11 w11 ho11 hb11 hg11; refine Hid.out ?_)
      refine Lib.hid ?_
      clear hg11
      rw [← HRES.out] at ho11
      obtain ⟨A11, c11, rfl, _, _, _, _⟩ := ho11.form
      have O11 := Lib.hid ho11
      have B11 := Lib.hid hb11
      clear ho11 hb11
      go_wp2_with fail
      go_ret2
      exact ⟨_, rfl, O11.out, B11.out⟩

set_option maxRecDepth 100000 in
set_option maxHeartbeats 8000000 in
theorem renc8_b (kind : Int) (A : Option Addr) (cap : Nat) (l : List Vl) (W : World) (hl : Vls W A l) (hr : colR kind l = true) (h0 : 0 < nulN l) (h1 : ¬ nulN l < l.length) (hT : TabAt W) :
    Calls Tryd.prog 10 #[.int .i64 kind, .slice A l.length cap] W (LaidI W (encC kind l)) := by
  obtain ⟨kn, rfl⟩ : ∃ kn : Nat, kind = (kn : Int) := ⟨kind.toNat, by have := (colR_iff.1 hr).1; omega⟩
  have hkn : 1 ≤ kn ∧ kn ≤ 3 := by have := (colR_iff.1 hr).1; omega
  have hn := (colR_iff.1 hr).2.1
  have hbl := bodyC_len hr
  have hbk : bodyC (kn : Int) l = ((([UInt8.ofNat kn] ++ num l.length) ++ num (nulN l)) ++ maskB l) ++ othB (kn : Int) l := by
    unfold bodyC tailC
    simp only [Int.toNat_natCast, List.cons_append, List.nil_append, List.append_assoc]
  have hc1 := refcol_any (kn : Int) A cap l W hl (by omega)
  rw [hr] at hc1
  have HC := Lib.hid hc1
  have HNU := Lib.hid (fun w (h : Below W.heap.size W w) => refnul_any A cap l w (hl.keep h) (by omega))
  have hkb : ((UInt8.ofNat kn).toNat : Int) = (kn : Int) := by rw [UInt8.toNat_ofNat']; omega
  obtain ⟨kb, hkbe⟩ : ∃ kb, UInt8.ofNat kn = kb := ⟨_, rfl⟩
  rw [hkbe] at hkb hbk
  have HN1 := Lib.hid (fun w => refnumber_any (some ⟨w.heap.size, 0, none⟩) 1 l.length [kb] (w.alloc (.cells #[Value.int .u8 (kn : Int)] 5)) (byt_one w kb _ hkb.symm) (by simp) (by simp) (by omega))
  have hnum1 := num_len l.length
  have hnum2 := num_len (nulN l)
  have hno := nulN_oth l
  have hmk : maskB l = [] := by unfold maskB; rw [if_neg (by omega)]
  have hot : othB (kn : Int) l = [] := by unfold othB; rw [if_neg h1]
  obtain ⟨bd, hbd⟩ : ∃ bd, bodyC (kn : Int) l = bd := ⟨_, rfl⟩
  have HRES : Hid (encC (kn : Int) l = bd ++ sumB bd) := by show _ = _; rw [← hbd]; rfl
  rw [hbd] at hbk hbl
  have HSU := Lib.hid (fun (A2 : Option Addr) (c2 nb : Nat) (w : World) (hnb : bd.length = nb) (hb : Byt w A2 bd) (hA : A2 = none → c2 = 0) => by have h := refsum_any A2 c2 bd w hb (by unfold maxLen; omega); rw [hnb] at h; exact h)
  rw [hmk, List.append_nil] at hbk
  rw [hot, List.append_nil] at hbk
  have HBK := Lib.hid hbk
  generalize maskB l = mb at *
  generalize othB (kn : Int) l = ob at *
  obtain ⟨n, hne⟩ : ∃ n, l.length = n := ⟨_, rfl⟩
  obtain ⟨m, hme⟩ : ∃ m, nulN l = m := ⟨_, rfl⟩
  rw [hne] at hn h1 hnum1 hbk hno ⊢
  rw [hme] at h0 h1 hnum2 hbk hno
  clear hl hr hT hc1 hbk hbd hkbe
  have HNE := Lib.hid hne
  have HME := Lib.hid hme
  rw [hne] at HC HNU HN1 HBK
  rw [hme] at HNU HBK
  have hml1 : (num n).length ≤ 10 := hnum1.2
  have hml2 : (num m).length ≤ 10 := hnum2.2
  have HL1 := Lib.hid hml1
  have HL2 := Lib.hid hml2
  have hlt : ¬ (m : Int) < (n : Int) := by omega
  have hpos : (0 : Int) < (m : Int) := by omega
  have hkw : (kn : Int) % 256 = (kn : Int) := by omega
  clear hne hme hkb hnum1 hnum2 hml1 hml2 hmk
  unfold LaidI
  go_enter Tryd.func10, Tryd.ntmps10
  go_wp2_with fail
  go_at_call 23
  refine HC.out.mono ?_
  rintro e w1 ⟨rfl, hb1⟩
  have B1 := Lib.hid hb1
  clear hb1
  go_wp2_with fail
  go_at_call 24
  refine (HNU.out w1 B1.out).mono ?_
  rintro e w2 ⟨rfl, hb2⟩
  have B2 := Lib.hid (below_to B1.out hb2)
  clear hb2
  go_wp2_with fail
  refine (HN1.out w2).mono ?_
  rintro e w3 ⟨v3, rfl, ho3, hb3⟩
  have hb3 := below_to B2.out (((Below.refl _ w2).alloc (Nat.le_refl _) _).trans (hb3.mono (by simp)))
  have ho3 := ho3.base (B' := W.heap.size) (by have := B2.out.size; simp; omega)
  have hp1 : ([kb] ++ num n).length ≤ 11 := by have := HL1.out; simp; omega
  obtain ⟨b3, hb3e⟩ : ∃ b3, [kb] ++ num n = b3 := ⟨_, rfl⟩
  rw [hb3e] at ho3 hp1 HBK
  obtain ⟨A3, c3, rfl, hy3, ha3, hc3, hm3⟩ := ho3.form
  have HN2 := Lib.hid (refnumber_any A3 c3 m b3 w3 hy3 ha3 (by omega) (by omega))
  have B3 := Lib.hid hb3
  have hp2 : (b3 ++ num m).length ≤ 21 := by have := HL2.out; rw [List.length_append]; omega
  obtain ⟨p3, hp3⟩ : ∃ p3, b3.length = p3 := ⟨_, rfl⟩
  rw [hp3] at HN2 ⊢
  clear hb3 ho3 hy3 ha3 hp3 hb3e hp1 hc3 hm3 HN1
  go_wp2_with fail
  refine HN2.out.mono ?_
  rintro e w4 ⟨v4, rfl, ho4, hb4⟩
  have hb4 := below_to B3.out hb4
  have ho4 := ho4.base (B' := W.heap.size) B3.out.size
  obtain ⟨b4, hb4e⟩ : ∃ b4, b3 ++ num m = b4 := ⟨_, rfl⟩
  rw [hb4e] at ho4 hp2 HBK
  obtain ⟨A4, c4, rfl, hy4, ha4, hc4, hm4⟩ := ho4.form
  have B4 := Lib.hid hb4
  have O4 := Lib.hid ho4
  obtain ⟨p4, hp4⟩ : ∃ p4, b4.length = p4 := ⟨_, rfl⟩
  have HP4 := Lib.hid hp4
  rw [hp4] at O4 hp2 ⊢
  clear hb4 ho4 hy4 ha4 hp4 hb4e hc4 hm4 HN2
  obtain ⟨b7, hb7⟩ : ∃ b7, b7 = b4 := ⟨_, rfl⟩
  obtain ⟨w7, hw7⟩ : ∃ w7, w7 = w4 := ⟨_, rfl⟩
  obtain ⟨p7, hp7⟩ : ∃ p7, p7 = p4 := ⟨_, rfl⟩
  obtain ⟨A7, hA7⟩ : ∃ A7, A7 = A4 := ⟨_, rfl⟩
  obtain ⟨c7, hc7⟩ : ∃ c7, c7 = c4 := ⟨_, rfl⟩
  have O7 := O4
  have HP7 := HP4
  have B7 := B4
  rw [← hb7] at O7 HBK HP7
  rw [← hp7] at O7 HP7 hp2 ⊢
  rw [← hw7] at O7 B7 ⊢
  rw [← hA7, ← hc7] at O7 ⊢
  have hp7b : p7 ≤ 300 := by omega
  clear hb7 hw7 hp7 hA7 hc7 O4 HP4 B4
  obtain ⟨A9, hA9⟩ : ∃ A9, A9 = A7 := ⟨_, rfl⟩
  have ho9 := O7.out
  have hp9e := HP7.out
  rw [← HBK.out] at ho9 hp9e
  have O9 := Lib.hid ho9
  have HP9 := Lib.hid hp9e
  have hfo := ho9.form
  rw [hp9e] at hfo
  obtain ⟨A9', c9', he9, hy9, ha9, _, _⟩ := hfo
  injection he9 with he9 _ he9c
  subst he9 he9c
  have HSU9 := Lib.hid (HSU.out A7 c7 p7 w7 hp9e hy9 ha9)
  have B9 := B7
  clear hA9 ho9 hp9e hy9 ha9
  obtain ⟨w9, hw9⟩ : ∃ w9, w9 = w7 := ⟨_, rfl⟩
  rw [← hw9] at HSU9 B9 O9 ⊢
  clear hw9
  go_wp2_with fail
  refine HSU9.out.mono ?_
  rintro e w10 ⟨rfl, rfl⟩
  have hslt := (crcN bd).isLt
  obtain ⟨s, hs⟩ : ∃ s, (crcN bd).toNat = s := ⟨_, rfl⟩
  have hsb : sumB bd = [UInt8.ofNat (s % 256), UInt8.ofNat (s / 256 % 256), UInt8.ofNat (s / 65536 % 256), UInt8.ofNat (s / 16777216 % 256)] := by rw [← hs]; rfl
  rw [hs] at hslt ⊢
  have hsu : (u8s (sumB bd)).toArray = #[Value.int .u8 ((s : Int) % 256), Value.int .u8 ((s : Int) / 256 % 256), Value.int .u8 ((s : Int) / 65536 % 256), Value.int .u8 ((s : Int) / 16777216)] := by
    rw [hsb]
    simp only [u8s, List.map_cons, List.map_nil]
    rw [u8_ofNat _ (by omega), u8_ofNat _ (by omega), u8_ofNat _ (by omega), u8_ofNat _ (by omega)]
    rw [show ((s / 16777216 % 256 : Nat) : Int) = (s : Int) / 16777216 by omega]
    rfl
  have hy10 : Byt (w9.alloc (Obj.cells #[Value.int .u8 ((s : Int) % 256), Value.int .u8 ((s : Int) / 256 % 256), Value.int .u8 ((s : Int) / 65536 % 256), Value.int .u8 ((s : Int) / 16777216)] 5)) (some ⟨w9.heap.size, 0, none⟩) (sumB bd) := by
    rw [← hsu]
    intro k hk
    refine ⟨w9.heap.size, 0, rfl, ?_⟩
    rw [Nat.zero_add, (Blk.born w9 5 (u8s (sumB bd))).at_]
    simp [u8s, hk]
  have HY10 := Lib.hid hy10
  have hp10 := sumB_len bd
  have HP10 := Lib.hid hp10
  clear hp10 hy10 hsu hsb hs
  go_wp2_with (refine app_byt W rfl _ _ rfl _ bd rfl (World.ownsRow.alloc O9.out _) (B9.out.alloc B9.out.size _) _ _ _ (sumB bd) rfl HP10.out.symm HY10.out (by simp) (by rw [HP9.out, HP10.out]; omega) ?_; intro v11 w11 ho11 hb11 hg11; refine Hid.out ?_)
  refine Lib.hid ?_
  clear hg11
  rw [← HRES.out] at ho11
  obtain ⟨A11, c11, rfl, _, _, _, _⟩ := ho11.form
  have O11 := Lib.hid ho11
  have B11 := Lib.hid hb11
  clear ho11 hb11
  go_wp2_with fail
  go_ret2
  exact ⟨_, rfl, O11.out, B11.out⟩

set_option maxRecDepth 100000 in
set_option maxHeartbeats 8000000 in
theorem renc8_c (kind : Int) (A : Option Addr) (cap : Nat) (l : List Vl) (W : World) (hl : Vls W A l) (hr : colR kind l = true) (h0 : ¬ 0 < nulN l) (h1 : nulN l < l.length) (hT : TabAt W) :
    Calls Tryd.prog 10 #[.int .i64 kind, .slice A l.length cap] W (LaidI W (encC kind l)) := by
  obtain ⟨kn, rfl⟩ : ∃ kn : Nat, kind = (kn : Int) := ⟨kind.toNat, by have := (colR_iff.1 hr).1; omega⟩
  have hkn : 1 ≤ kn ∧ kn ≤ 3 := by have := (colR_iff.1 hr).1; omega
  have hn := (colR_iff.1 hr).2.1
  have hbl := bodyC_len hr
  have hbk : bodyC (kn : Int) l = ((([UInt8.ofNat kn] ++ num l.length) ++ num (nulN l)) ++ maskB l) ++ othB (kn : Int) l := by
    unfold bodyC tailC
    simp only [Int.toNat_natCast, List.cons_append, List.nil_append, List.append_assoc]
  have hc1 := refcol_any (kn : Int) A cap l W hl (by omega)
  rw [hr] at hc1
  have HC := Lib.hid hc1
  have HNU := Lib.hid (fun w (h : Below W.heap.size W w) => refnul_any A cap l w (hl.keep h) (by omega))
  have hkb : ((UInt8.ofNat kn).toNat : Int) = (kn : Int) := by rw [UInt8.toNat_ofNat']; omega
  obtain ⟨kb, hkbe⟩ : ∃ kb, UInt8.ofNat kn = kb := ⟨_, rfl⟩
  rw [hkbe] at hkb hbk
  have HN1 := Lib.hid (fun w => refnumber_any (some ⟨w.heap.size, 0, none⟩) 1 l.length [kb] (w.alloc (.cells #[Value.int .u8 (kn : Int)] 5)) (byt_one w kb _ hkb.symm) (by simp) (by simp) (by omega))
  have hnum1 := num_len l.length
  have hnum2 := num_len (nulN l)
  have hno := nulN_oth l
  have hmk : maskB l = [] := by unfold maskB; rw [if_neg (by omega)]
  have HOT := Lib.hid (fun w (h : Below W.heap.size W w) => refoth_any (kn : Int) A cap l w (hl.keep h) hr h1 (hT.keep h))
  have hobl := othB_len hr
  obtain ⟨bd, hbd⟩ : ∃ bd, bodyC (kn : Int) l = bd := ⟨_, rfl⟩
  have HRES : Hid (encC (kn : Int) l = bd ++ sumB bd) := by show _ = _; rw [← hbd]; rfl
  rw [hbd] at hbk hbl
  have HSU := Lib.hid (fun (A2 : Option Addr) (c2 nb : Nat) (w : World) (hnb : bd.length = nb) (hb : Byt w A2 bd) (hA : A2 = none → c2 = 0) => by have h := refsum_any A2 c2 bd w hb (by unfold maxLen; omega); rw [hnb] at h; exact h)
  rw [hmk, List.append_nil] at hbk
  have HBK := Lib.hid hbk
  generalize maskB l = mb at *
  generalize othB (kn : Int) l = ob at *
  obtain ⟨n, hne⟩ : ∃ n, l.length = n := ⟨_, rfl⟩
  obtain ⟨m, hme⟩ : ∃ m, nulN l = m := ⟨_, rfl⟩
  rw [hne] at hn h1 hnum1 hbk hno ⊢
  rw [hme] at h0 h1 hnum2 hbk hno
  clear hl hr hT hc1 hbk hbd hkbe
  have HNE := Lib.hid hne
  have HME := Lib.hid hme
  rw [hne] at HC HNU HN1 HBK
  rw [hme] at HNU HBK
  have hml1 : (num n).length ≤ 10 := hnum1.2
  have hml2 : (num m).length ≤ 10 := hnum2.2
  have HL1 := Lib.hid hml1
  have HL2 := Lib.hid hml2
  have hlt : (m : Int) < (n : Int) := by omega
  rw [hne] at HOT
  have hpos : ¬ (0 : Int) < (m : Int) := by omega
  have hkw : (kn : Int) % 256 = (kn : Int) := by omega
  clear hne hme hkb hnum1 hnum2 hml1 hml2 hmk
  unfold LaidI
  go_enter Tryd.func10, Tryd.ntmps10
  go_wp2_with fail
  go_at_call 23
  refine HC.out.mono ?_
  rintro e w1 ⟨rfl, hb1⟩
  have B1 := Lib.hid hb1
  clear hb1
  go_wp2_with fail
  go_at_call 24
  refine (HNU.out w1 B1.out).mono ?_
  rintro e w2 ⟨rfl, hb2⟩
  have B2 := Lib.hid (below_to B1.out hb2)
  clear hb2
  go_wp2_with fail
  refine (HN1.out w2).mono ?_
  rintro e w3 ⟨v3, rfl, ho3, hb3⟩
  have hb3 := below_to B2.out (((Below.refl _ w2).alloc (Nat.le_refl _) _).trans (hb3.mono (by simp)))
  have ho3 := ho3.base (B' := W.heap.size) (by have := B2.out.size; simp; omega)
  have hp1 : ([kb] ++ num n).length ≤ 11 := by have := HL1.out; simp; omega
  obtain ⟨b3, hb3e⟩ : ∃ b3, [kb] ++ num n = b3 := ⟨_, rfl⟩
  rw [hb3e] at ho3 hp1 HBK
  obtain ⟨A3, c3, rfl, hy3, ha3, hc3, hm3⟩ := ho3.form
  have HN2 := Lib.hid (refnumber_any A3 c3 m b3 w3 hy3 ha3 (by omega) (by omega))
  have B3 := Lib.hid hb3
  have hp2 : (b3 ++ num m).length ≤ 21 := by have := HL2.out; rw [List.length_append]; omega
  obtain ⟨p3, hp3⟩ : ∃ p3, b3.length = p3 := ⟨_, rfl⟩
  rw [hp3] at HN2 ⊢
  clear hb3 ho3 hy3 ha3 hp3 hb3e hp1 hc3 hm3 HN1
  go_wp2_with fail
  refine HN2.out.mono ?_
  rintro e w4 ⟨v4, rfl, ho4, hb4⟩
  have hb4 := below_to B3.out hb4
  have ho4 := ho4.base (B' := W.heap.size) B3.out.size
  obtain ⟨b4, hb4e⟩ : ∃ b4, b3 ++ num m = b4 := ⟨_, rfl⟩
  rw [hb4e] at ho4 hp2 HBK
  obtain ⟨A4, c4, rfl, hy4, ha4, hc4, hm4⟩ := ho4.form
  have B4 := Lib.hid hb4
  have O4 := Lib.hid ho4
  obtain ⟨p4, hp4⟩ : ∃ p4, b4.length = p4 := ⟨_, rfl⟩
  have HP4 := Lib.hid hp4
  rw [hp4] at O4 hp2 ⊢
  clear hb4 ho4 hy4 ha4 hp4 hb4e hc4 hm4 HN2
  obtain ⟨b7, hb7⟩ : ∃ b7, b7 = b4 := ⟨_, rfl⟩
  obtain ⟨w7, hw7⟩ : ∃ w7, w7 = w4 := ⟨_, rfl⟩
  obtain ⟨p7, hp7⟩ : ∃ p7, p7 = p4 := ⟨_, rfl⟩
  obtain ⟨A7, hA7⟩ : ∃ A7, A7 = A4 := ⟨_, rfl⟩
  obtain ⟨c7, hc7⟩ : ∃ c7, c7 = c4 := ⟨_, rfl⟩
  have O7 := O4
  have HP7 := HP4
  have B7 := B4
  rw [← hb7] at O7 HBK HP7
  rw [← hp7] at O7 HP7 hp2 ⊢
  rw [← hw7] at O7 B7 ⊢
  rw [← hA7, ← hc7] at O7 ⊢
  have hp7b : p7 ≤ 300 := by omega
  clear hb7 hw7 hp7 hA7 hc7 O4 HP4 B4
  go_wp2_with fail
  go_at_call 27
  refine (HOT.out w7 B7.out).mono ?_
  rintro e w8 ⟨v8, rfl, ho8, hb8⟩
  have O7 := Lib.hid (O7.out.below hb8)
  have B8 := Lib.hid (below_to B7.out hb8)
  obtain ⟨A8, c8, rfl, hy8, ha8, hc8, hm8⟩ := ho8.form
  have HY8 := Lib.hid hy8
  have HA8 := Lib.hid ha8
  obtain ⟨p8, hp8⟩ : ∃ p8, ob.length = p8 := ⟨_, rfl⟩
  have HP8 := Lib.hid hp8
  rw [hp8] at hobl ⊢
  clear ho8 hb8 hy8 ha8 hc8 hm8 hp8
  go_wp2_with (refine app_byt W rfl _ _ rfl _ b7 rfl O7.out B8.out _ _ _ ob rfl HP8.out.symm HY8.out HA8.out (by rw [HP7.out, HP8.out]; omega) ?_; intro v9 w9 ho9 hb9 hg9; refine Hid.out ?_)
  refine Lib.hid ?_
  clear hg9
  rw [← HBK.out] at ho9
  obtain ⟨A9, c9, rfl, hy9, ha9, hc9, hm9⟩ := ho9.form
  obtain ⟨p9, hp9e⟩ : ∃ p9, bd.length = p9 := ⟨_, rfl⟩
  have HP9 := Lib.hid hp9e
  have O9 := Lib.hid ho9
  have HSU9 := Lib.hid (HSU.out A9 c9 p9 w9 hp9e hy9 ha9)
  rw [hp9e] at O9 hbl ⊢
  have B9 := Lib.hid hb9
  clear ho9 hb9 hy9 ha9 hc9 hm9 hp9e
  go_wp2_with fail
  refine HSU9.out.mono ?_
  rintro e w10 ⟨rfl, rfl⟩
  have hslt := (crcN bd).isLt
  obtain ⟨s, hs⟩ : ∃ s, (crcN bd).toNat = s := ⟨_, rfl⟩
  have hsb : sumB bd = [UInt8.ofNat (s % 256), UInt8.ofNat (s / 256 % 256), UInt8.ofNat (s / 65536 % 256), UInt8.ofNat (s / 16777216 % 256)] := by rw [← hs]; rfl
  rw [hs] at hslt ⊢
  have hsu : (u8s (sumB bd)).toArray = #[Value.int .u8 ((s : Int) % 256), Value.int .u8 ((s : Int) / 256 % 256), Value.int .u8 ((s : Int) / 65536 % 256), Value.int .u8 ((s : Int) / 16777216)] := by
    rw [hsb]
    simp only [u8s, List.map_cons, List.map_nil]
    rw [u8_ofNat _ (by omega), u8_ofNat _ (by omega), u8_ofNat _ (by omega), u8_ofNat _ (by omega)]
    rw [show ((s / 16777216 % 256 : Nat) : Int) = (s : Int) / 16777216 by omega]
    rfl
  have hy10 : Byt (w9.alloc (Obj.cells #[Value.int .u8 ((s : Int) % 256), Value.int .u8 ((s : Int) / 256 % 256), Value.int .u8 ((s : Int) / 65536 % 256), Value.int .u8 ((s : Int) / 16777216)] 5)) (some ⟨w9.heap.size, 0, none⟩) (sumB bd) := by
    rw [← hsu]
    intro k hk
    refine ⟨w9.heap.size, 0, rfl, ?_⟩
    rw [Nat.zero_add, (Blk.born w9 5 (u8s (sumB bd))).at_]
    simp [u8s, hk]
  have HY10 := Lib.hid hy10
  have hp10 := sumB_len bd
  have HP10 := Lib.hid hp10
  clear hp10 hy10 hsu hsb hs
  go_wp2_with (refine app_byt W rfl _ _ rfl _ bd rfl (World.ownsRow.alloc O9.out _) (B9.out.alloc B9.out.size _) _ _ _ (sumB bd) rfl HP10.out.symm HY10.out (by simp) (by rw [HP9.out, HP10.out]; omega) ?_; intro v11 w11 ho11 hb11 hg11; refine Hid.out ?_)
  refine Lib.hid ?_
  clear hg11
  rw [← HRES.out] at ho11
  obtain ⟨A11, c11, rfl, _, _, _, _⟩ := ho11.form
  have O11 := Lib.hid ho11
  have B11 := Lib.hid hb11
  clear ho11 hb11
  go_wp2_with fail
  go_ret2
  exact ⟨_, rfl, O11.out, B11.out⟩

set_option maxRecDepth 100000 in
set_option maxHeartbeats 8000000 in
theorem renc8_d (kind : Int) (A : Option Addr) (cap : Nat) (l : List Vl) (W : World) (hl : Vls W A l) (hr : colR kind l = true) (h0 : ¬ 0 < nulN l) (h1 : ¬ nulN l < l.length) (hT : TabAt W) :
    Calls Tryd.prog 10 #[.int .i64 kind, .slice A l.length cap] W (LaidI W (encC kind l)) := by
  obtain ⟨kn, rfl⟩ : ∃ kn : Nat, kind = (kn : Int) := ⟨kind.toNat, by have := (colR_iff.1 hr).1; omega⟩
  have hkn : 1 ≤ kn ∧ kn ≤ 3 := by have := (colR_iff.1 hr).1; omega
  have hn := (colR_iff.1 hr).2.1
  have hbl := bodyC_len hr
  have hbk : bodyC (kn : Int) l = ((([UInt8.ofNat kn] ++ num l.length) ++ num (nulN l)) ++ maskB l) ++ othB (kn : Int) l := by
    unfold bodyC tailC
    simp only [Int.toNat_natCast, List.cons_append, List.nil_append, List.append_assoc]
  have hc1 := refcol_any (kn : Int) A cap l W hl (by omega)
  rw [hr] at hc1
  have HC := Lib.hid hc1
  have HNU := Lib.hid (fun w (h : Below W.heap.size W w) => refnul_any A cap l w (hl.keep h) (by omega))
  have hkb : ((UInt8.ofNat kn).toNat : Int) = (kn : Int) := by rw [UInt8.toNat_ofNat']; omega
  obtain ⟨kb, hkbe⟩ : ∃ kb, UInt8.ofNat kn = kb := ⟨_, rfl⟩
  rw [hkbe] at hkb hbk
  have HN1 := Lib.hid (fun w => refnumber_any (some ⟨w.heap.size, 0, none⟩) 1 l.length [kb] (w.alloc (.cells #[Value.int .u8 (kn : Int)] 5)) (byt_one w kb _ hkb.symm) (by simp) (by simp) (by omega))
  have hnum1 := num_len l.length
  have hnum2 := num_len (nulN l)
  have hno := nulN_oth l
  have hmk : maskB l = [] := by unfold maskB; rw [if_neg (by omega)]
  have hot : othB (kn : Int) l = [] := by unfold othB; rw [if_neg h1]
  obtain ⟨bd, hbd⟩ : ∃ bd, bodyC (kn : Int) l = bd := ⟨_, rfl⟩
  have HRES : Hid (encC (kn : Int) l = bd ++ sumB bd) := by show _ = _; rw [← hbd]; rfl
  rw [hbd] at hbk hbl
  have HSU := Lib.hid (fun (A2 : Option Addr) (c2 nb : Nat) (w : World) (hnb : bd.length = nb) (hb : Byt w A2 bd) (hA : A2 = none → c2 = 0) => by have h := refsum_any A2 c2 bd w hb (by unfold maxLen; omega); rw [hnb] at h; exact h)
  rw [hmk, List.append_nil] at hbk
  rw [hot, List.append_nil] at hbk
  have HBK := Lib.hid hbk
  generalize maskB l = mb at *
  generalize othB (kn : Int) l = ob at *
  obtain ⟨n, hne⟩ : ∃ n, l.length = n := ⟨_, rfl⟩
  obtain ⟨m, hme⟩ : ∃ m, nulN l = m := ⟨_, rfl⟩
  rw [hne] at hn h1 hnum1 hbk hno ⊢
  rw [hme] at h0 h1 hnum2 hbk hno
  clear hl hr hT hc1 hbk hbd hkbe
  have HNE := Lib.hid hne
  have HME := Lib.hid hme
  rw [hne] at HC HNU HN1 HBK
  rw [hme] at HNU HBK
  have hml1 : (num n).length ≤ 10 := hnum1.2
  have hml2 : (num m).length ≤ 10 := hnum2.2
  have HL1 := Lib.hid hml1
  have HL2 := Lib.hid hml2
  have hlt : ¬ (m : Int) < (n : Int) := by omega
  have hpos : ¬ (0 : Int) < (m : Int) := by omega
  have hkw : (kn : Int) % 256 = (kn : Int) := by omega
  clear hne hme hkb hnum1 hnum2 hml1 hml2 hmk
  unfold LaidI
  go_enter Tryd.func10, Tryd.ntmps10
  go_wp2_with fail
  go_at_call 23
  refine HC.out.mono ?_
  rintro e w1 ⟨rfl, hb1⟩
  have B1 := Lib.hid hb1
  clear hb1
  go_wp2_with fail
  go_at_call 24
  refine (HNU.out w1 B1.out).mono ?_
  rintro e w2 ⟨rfl, hb2⟩
  have B2 := Lib.hid (below_to B1.out hb2)
  clear hb2
  go_wp2_with fail
  refine (HN1.out w2).mono ?_
  rintro e w3 ⟨v3, rfl, ho3, hb3⟩
  have hb3 := below_to B2.out (((Below.refl _ w2).alloc (Nat.le_refl _) _).trans (hb3.mono (by simp)))
  have ho3 := ho3.base (B' := W.heap.size) (by have := B2.out.size; simp; omega)
  have hp1 : ([kb] ++ num n).length ≤ 11 := by have := HL1.out; simp; omega
  obtain ⟨b3, hb3e⟩ : ∃ b3, [kb] ++ num n = b3 := ⟨_, rfl⟩
  rw [hb3e] at ho3 hp1 HBK
  obtain ⟨A3, c3, rfl, hy3, ha3, hc3, hm3⟩ := ho3.form
  have HN2 := Lib.hid (refnumber_any A3 c3 m b3 w3 hy3 ha3 (by omega) (by omega))
  have B3 := Lib.hid hb3
  have hp2 : (b3 ++ num m).length ≤ 21 := by have := HL2.out; rw [List.length_append]; omega
  obtain ⟨p3, hp3⟩ : ∃ p3, b3.length = p3 := ⟨_, rfl⟩
  rw [hp3] at HN2 ⊢
  clear hb3 ho3 hy3 ha3 hp3 hb3e hp1 hc3 hm3 HN1
  go_wp2_with fail
  refine HN2.out.mono ?_
  rintro e w4 ⟨v4, rfl, ho4, hb4⟩
  have hb4 := below_to B3.out hb4
  have ho4 := ho4.base (B' := W.heap.size) B3.out.size
  obtain ⟨b4, hb4e⟩ : ∃ b4, b3 ++ num m = b4 := ⟨_, rfl⟩
  rw [hb4e] at ho4 hp2 HBK
  obtain ⟨A4, c4, rfl, hy4, ha4, hc4, hm4⟩ := ho4.form
  have B4 := Lib.hid hb4
  have O4 := Lib.hid ho4
  obtain ⟨p4, hp4⟩ : ∃ p4, b4.length = p4 := ⟨_, rfl⟩
  have HP4 := Lib.hid hp4
  rw [hp4] at O4 hp2 ⊢
  clear hb4 ho4 hy4 ha4 hp4 hb4e hc4 hm4 HN2
  obtain ⟨b7, hb7⟩ : ∃ b7, b7 = b4 := ⟨_, rfl⟩
  obtain ⟨w7, hw7⟩ : ∃ w7, w7 = w4 := ⟨_, rfl⟩
  obtain ⟨p7, hp7⟩ : ∃ p7, p7 = p4 := ⟨_, rfl⟩
  obtain ⟨A7, hA7⟩ : ∃ A7, A7 = A4 := ⟨_, rfl⟩
  obtain ⟨c7, hc7⟩ : ∃ c7, c7 = c4 := ⟨_, rfl⟩
  have O7 := O4
  have HP7 := HP4
  have B7 := B4
  rw [← hb7] at O7 HBK HP7
  rw [← hp7] at O7 HP7 hp2 ⊢
  rw [← hw7] at O7 B7 ⊢
  rw [← hA7, ← hc7] at O7 ⊢
  have hp7b : p7 ≤ 300 := by omega
  clear hb7 hw7 hp7 hA7 hc7 O4 HP4 B4
  obtain ⟨A9, hA9⟩ : ∃ A9, A9 = A7 := ⟨_, rfl⟩
  have ho9 := O7.out
  have hp9e := HP7.out
  rw [← HBK.out] at ho9 hp9e
  have O9 := Lib.hid ho9
  have HP9 := Lib.hid hp9e
  have hfo := ho9.form
  rw [hp9e] at hfo
  obtain ⟨A9', c9', he9, hy9, ha9, _, _⟩ := hfo
  injection he9 with he9 _ he9c
  subst he9 he9c
  have HSU9 := Lib.hid (HSU.out A7 c7 p7 w7 hp9e hy9 ha9)
  have B9 := B7
  clear hA9 ho9 hp9e hy9 ha9
  obtain ⟨w9, hw9⟩ : ∃ w9, w9 = w7 := ⟨_, rfl⟩
  rw [← hw9] at HSU9 B9 O9 ⊢
  clear hw9
  go_wp2_with fail
  refine HSU9.out.mono ?_
  rintro e w10 ⟨rfl, rfl⟩
  have hslt := (crcN bd).isLt
  obtain ⟨s, hs⟩ : ∃ s, (crcN bd).toNat = s := ⟨_, rfl⟩
  have hsb : sumB bd = [UInt8.ofNat (s % 256), UInt8.ofNat (s / 256 % 256), UInt8.ofNat (s / 65536 % 256), UInt8.ofNat (s / 16777216 % 256)] := by rw [← hs]; rfl
  rw [hs] at hslt ⊢
  have hsu : (u8s (sumB bd)).toArray = #[Value.int .u8 ((s : Int) % 256), Value.int .u8 ((s : Int) / 256 % 256), Value.int .u8 ((s : Int) / 65536 % 256), Value.int .u8 ((s : Int) / 16777216)] := by
    rw [hsb]
    simp only [u8s, List.map_cons, List.map_nil]
    rw [u8_ofNat _ (by omega), u8_ofNat _ (by omega), u8_ofNat _ (by omega), u8_ofNat _ (by omega)]
    rw [show ((s / 16777216 % 256 : Nat) : Int) = (s : Int) / 16777216 by omega]
    rfl
  have hy10 : Byt (w9.alloc (Obj.cells #[Value.int .u8 ((s : Int) % 256), Value.int .u8 ((s : Int) / 256 % 256), Value.int .u8 ((s : Int) / 65536 % 256), Value.int .u8 ((s : Int) / 16777216)] 5)) (some ⟨w9.heap.size, 0, none⟩) (sumB bd) := by
    rw [← hsu]
    intro k hk
    refine ⟨w9.heap.size, 0, rfl, ?_⟩
    rw [Nat.zero_add, (Blk.born w9 5 (u8s (sumB bd))).at_]
    simp [u8s, hk]
  have HY10 := Lib.hid hy10
  have hp10 := sumB_len bd
  have HP10 := Lib.hid hp10
  clear hp10 hy10 hsu hsb hs
  go_wp2_with (refine app_byt W rfl _ _ rfl _ bd rfl (World.ownsRow.alloc O9.out _) (B9.out.alloc B9.out.size _) _ _ _ (sumB bd) rfl HP10.out.symm HY10.out (by simp) (by rw [HP9.out, HP10.out]; omega) ?_; intro v11 w11 ho11 hb11 hg11; refine Hid.out ?_)
  refine Lib.hid ?_
  clear hg11
  rw [← HRES.out] at ho11
  obtain ⟨A11, c11, rfl, _, _, _, _⟩ := ho11.form
  have O11 := Lib.hid ho11
  have B11 := Lib.hid hb11
  clear ho11 hb11
  go_wp2_with fail
  go_ret2
  exact ⟨_, rfl, O11.out, B11.out⟩

theorem renc8_yes (kind : Int) (A : Option Addr) (cap : Nat) (l : List Vl) (W : World) (hl : Vls W A l) (hr : colR kind l = true) (hT : TabAt W) :
    Calls Tryd.prog 10 #[.int .i64 kind, .slice A l.length cap] W (LaidI W (encC kind l)) := by
  by_cases h0 : 0 < nulN l
  · by_cases h1 : nulN l < l.length
    · exact renc8_a kind A cap l W hl hr h0 h1 hT
    · exact renc8_b kind A cap l W hl hr h0 h1 hT
  · by_cases h1 : nulN l < l.length
    · exact renc8_c kind A cap l W hl hr h0 h1 hT
    · exact renc8_d kind A cap l W hl hr h0 h1 hT
end Go.Proofs.YtfgmdaemcaamiaaDoor
