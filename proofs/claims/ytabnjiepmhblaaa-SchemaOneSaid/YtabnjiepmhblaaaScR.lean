/- The document's Lay of a schema. -/
import Derived.Test.YtabnjiepmhblaaaScK
import Derived.Test.YtabnjiepmhblaaaScV
import Derived.Test.YtabnjiepmhblaaaRefNum
import Derived.Test.YtabnjiepmhblaaaText
namespace Go.Proofs.Ytabnjiepmhblaaa
open Go.RowKit Go.Shelf Go.Maps
set_option linter.unusedVariables false

theorem reflay_no (B : Option Addr) (A : Option Addr) (blen bcap cap : Nat) (l : List Col) (W : World) (hl : Cols W A l) (hn : l.length ≤ 4000000000000000000) (hr : rightC l = false) :
    Calls Try.prog 18 #[.slice B blen bcap, .slice A l.length cap] W fun e W' => e = .returned (.tuple #[.slice none 0 0, .int .i64 50]) ∧ W = W' := by
  have hri := refrightC_any A cap l W hl hn
  rw [hr] at hri
  have HR := Lib.hid hri
  clear hri hl hr
  generalize l.length = n at HR hn
  go_enter Try.func18, Try.ntmps18
  go_wp2_with (first | (go_at_call 10; refine HR.out.mono ?_; rintro e w1 ⟨rfl, rfl⟩; clear HR))
  go_ret2
  exact ⟨rfl, rfl⟩

theorem flat_take (l : List Col) (k : Nat) (h : k < l.length) : (l.take (k + 1)).flatMap encC = (l.take k).flatMap encC ++ encC l[k] := by
  rw [List.take_add_one, List.flatMap_append, List.getElem?_eq_getElem h]
  simp
theorem flat_take_len {l : List Col} (h : rightC l = true) : ∀ k, ((l.take k).flatMap encC).length ≤ k * 36
  | 0 => by simp
  | k + 1 => by
    have h1 := flat_take_len h k
    by_cases hk : k < l.length
    · rw [flat_take l k hk, List.length_append]
      have := (encC_len (cols_ok h l[k] (List.getElem_mem hk))).1
      omega
    · rw [List.take_of_length_le (by omega)] at h1 ⊢
      omega

set_option maxRecDepth 100000 in
set_option maxHeartbeats 4000000 in
theorem reflay_ok (B : Option Addr) (A : Option Addr) (bcap cap : Nat) (b : List UInt8) (l : List Col) (W : World) (hy : Byt W B b) (hB : B = none → bcap = 0) (hbl : b.length + 2000 ≤ 140737488355328) (hl : Cols W A l) (hr : rightC l = true) :
    Calls Try.prog 18 #[.slice B b.length bcap, .slice A l.length cap] W (MadeT W (b ++ layC l)) := by
  have hlen : 1 ≤ l.length ∧ l.length ≤ 16 := by
    apply Classical.byContradiction
    intro h
    rw [rightC_len h] at hr
    cases hr
  have hri := refrightC_any A cap l W hl (by omega)
  rw [hr] at hri
  obtain ⟨n, hn⟩ : ∃ n, l.length = n := ⟨_, rfl⟩
  have hnum := refnumber_any B bcap n b W hy hB (by omega) (by omega)
  have hnl := num_len n
  have hfin : b ++ layC l = b ++ (num n ++ (l.take n).flatMap encC) := by unfold layC; rw [hn, List.take_of_length_le (by omega)]
  have h0 : b ++ num n = b ++ (num n ++ (l.take 0).flatMap encC) := by simp
  have hstep : ∀ k (h : k < l.length), b ++ (num n ++ (l.take (k + 1)).flatMap encC) = (b ++ (num n ++ (l.take k).flatMap encC)) ++ (num l[k].name.size ++ l[k].name.data.toList) ++ [UInt8.ofNat l[k].kind.toNat, nullB l[k].null] := fun k h => by
    rw [flat_take l k h]; unfold encC; simp
  have hdl : ∀ k, k ≤ 16 → (b ++ (num n ++ (l.take k).flatMap encC)).length ≤ b.length + 10 + 576 := fun k h => by
    have := flat_take_len hr k
    rw [List.length_append, List.length_append]; omega
  have hbl2 : b.length ≤ 140737488353328 := by omega
  have hok := cols_ok hr
  rw [hfin, hn]
  rw [hn] at hri hlen
  rw [h0] at hnum
  have hcv : IntKind.u64.wrap (n : Int) = (n : Int) := by rw [IntKind.wrap_u64]; omega
  generalize hDD : (fun k => b ++ (num n ++ (l.take k).flatMap encC)) = DD
  have hD : ∀ k, b ++ (num n ++ (l.take k).flatMap encC) = DD k := fun k => by rw [← hDD]
  simp only [hD] at hnum hstep hdl ⊢
  have HR := Lib.hid hri
  have HNUM := Lib.hid hnum
  have HS := Lib.hid hstep
  have HDL := Lib.hid hdl
  have HL := Lib.hid hl
  have HN := Lib.hid hn
  have HOK := Lib.hid hok
  have HBL := Lib.hid hbl2
  clear hri hnum hstep hdl hl hn hok hr hfin h0 hnl hy hDD hD hbl hbl2
  go_enter Try.func18, Try.ntmps18
  go_wp2_with (first | (go_at_call 10; refine HR.out.mono ?_; rintro e w1 ⟨rfl, rfl⟩; clear HR) | (go_at_call 38; refine HNUM.out.mono ?_; rintro e w2 ⟨v, rfl, hown, hbel⟩; have HO2 := Lib.hid hown; have HB2 := Lib.hid hbel; clear hown hbel HNUM))
  go_loopw [7, 8, 9] (fun v i u wr => ∃ k : Nat, k ≤ n ∧ i = .int .i64 k ∧ Own wr W.heap.size v (DD k) ∧ Below W.heap.size W wr) (fun _ i _ _ => n - (intOf i).toNat)
  case atStart => exact ⟨0, by omega, rfl, HO2.out, HB2.out⟩
  case round =>
    obtain ⟨k, hk, rfl, hown, hbel⟩ := hrel
    have HBEL := Lib.hid hbel
    obtain ⟨Av, cv, rfl, hyv, hnv, hcv2, _⟩ := hown.form
    clear HO2 HB2
    by_cases hlt : k < n
    · have h1 : k < l.length := by rw [HN.out]; exact hlt
      obtain ⟨b1, o, rfl, hcb⟩ := HL.out k h1
      obtain ⟨c0, c1, c2⟩ := hcb.keep hbel hcb.lt
      have HK : Hid (k < n) := hlt
      have hxo := encC_len (HOK.out _ (List.getElem_mem h1))
      have hS := HS.out k h1
      have hd1 := HDL.out k (by omega)
      have hbl3 := HBL.out
      obtain ⟨nm, hnm⟩ : ∃ nm, l[k].name = nm := ⟨_, rfl⟩
      obtain ⟨kd, hkd⟩ : ∃ kd, l[k].kind = kd := ⟨_, rfl⟩
      obtain ⟨cn, hcn⟩ : ∃ cn, l[k].null = cn := ⟨_, rfl⟩
      rw [hnm, hkd, hcn] at hS
      rw [hnm] at c0 hxo
      rw [hkd] at c1 hxo
      rw [hcn] at c2
      obtain ⟨kb, hkb⟩ : ∃ kb, UInt8.ofNat kd.toNat = kb := ⟨_, rfl⟩
      have hkw : IntKind.u8.wrap kd = (kb.toNat : Int) := by
        rw [← hkb, UInt8.toNat_ofNat']
        have := hxo.2.2
        simp [IntKind.wrap, IntKind.signed, IntKind.bits]
        omega
      have hT := reftext_any Av cv nm (DD k) wr (by omega) hyv hnv (by omega)
      have hnml := num_len nm.size
      have hsz24 := hxo.2.1
      have hql : (DD k ++ num nm.size ++ nm.data.toList).length ≤ b.length + 10 + 576 + 40 := by rw [List.length_append, List.length_append, sz_list]; omega
      rw [hkb, ← List.append_assoc] at hS
      obtain ⟨d2, hd2⟩ : ∃ d2, DD k ++ num nm.size ++ nm.data.toList = d2 := ⟨_, rfl⟩
      rw [hd2] at hT hql hS
      generalize DD k = d at hT hyv hcv2 ⊢
      have HT := Lib.hid hT
      have HS2 := Lib.hid hS
      have HQL := Lib.hid hql
      have HBL3 := Lib.hid hbl3
      have HCB := Lib.hid (And.intro c1 c2)
      clear hT hS hql hyv hown hbel hxo hcb hd1 hbl3 hnm hkd hcn hkb hnml hsz24 hd2 c1 c2 HDL HOK
      cases cn with
      | false =>
        go_wp2_with (first | (go_at_call 39; refine HT.out.mono ?_; rintro e w2 ⟨v2, rfl, hown2, hbel2⟩; have z1 := cell_below hbel2 HCB.out.1; have z2 := cell_below hbel2 HCB.out.2; have hB2 := HBEL.out.trans (hbel2.mono HBEL.out.size); have hO2 := hown2.base HBEL.out.size; obtain ⟨A2, c2, rfl, _, _, _, _⟩ := hO2.form; have HO3 : Hid (Own (w2.alloc (Obj.cells #[Value.int .u8 (kb.toNat : Int), Value.int .u8 0] 5)) W.heap.size (.slice A2 d2.length c2) d2) := hO2.alloc _; have HB3 : Hid (Below W.heap.size W (w2.alloc (Obj.cells #[Value.int .u8 (kb.toNat : Int), Value.int .u8 0] 5))) := hB2.alloc hB2.size _; have HY3 : Hid (Byt (w2.alloc (Obj.cells #[Value.int .u8 (kb.toNat : Int), Value.int .u8 0] 5)) (some ⟨w2.heap.size, 0, none⟩) [kb, 0]) := blk_byt (l := [kb, 0]) (Blk.born w2 5 (u8s [kb, 0])); clear hown2 hbel2 hB2 hO2 HT HCB) | (at_builtin; refine app_byt W rfl _ _ rfl _ d2 rfl HO3.out HB3.out (some ⟨w2.heap.size, 0, none⟩) 2 2 [kb, 0] rfl rfl HY3.out (fun h => by cases h) (by have := HQL.out; have := HBL3.out; simp; omega) ?_; intro v4 w4 hown4 hbel4 _; have HO4 := Lib.hid hown4; have HB4 := Lib.hid hbel4; clear hown4 hbel4 HO3 HB3 HY3))
        go_roundw
        case rel => exact ⟨k + 1, HK.out, by go_num, by rw [HS2.out]; exact HO4.out, HB4.out⟩
        case measure => have := HK.out; simp [intOf]; omega
      | true =>
        go_wp2_with (first | (go_at_call 39; refine HT.out.mono ?_; rintro e w2 ⟨v2, rfl, hown2, hbel2⟩; have z1 := cell_below hbel2 HCB.out.1; have z2 := cell_below hbel2 HCB.out.2; have hB2 := HBEL.out.trans (hbel2.mono HBEL.out.size); have hO2 := hown2.base HBEL.out.size; obtain ⟨A2, c2, rfl, _, _, _, _⟩ := hO2.form; have HO3 : Hid (Own (w2.alloc (Obj.cells #[Value.int .u8 (kb.toNat : Int), Value.int .u8 1] 5)) W.heap.size (.slice A2 d2.length c2) d2) := hO2.alloc _; have HB3 : Hid (Below W.heap.size W (w2.alloc (Obj.cells #[Value.int .u8 (kb.toNat : Int), Value.int .u8 1] 5))) := hB2.alloc hB2.size _; have HY3 : Hid (Byt (w2.alloc (Obj.cells #[Value.int .u8 (kb.toNat : Int), Value.int .u8 1] 5)) (some ⟨w2.heap.size, 0, none⟩) [kb, 1]) := blk_byt (l := [kb, 1]) (Blk.born w2 5 (u8s [kb, 1])); clear hown2 hbel2 hB2 hO2 HT HCB) | (at_builtin; refine app_byt W rfl _ _ rfl _ d2 rfl HO3.out HB3.out (some ⟨w2.heap.size, 0, none⟩) 2 2 [kb, 1] rfl rfl HY3.out (fun h => by cases h) (by have := HQL.out; have := HBL3.out; simp; omega) ?_; intro v4 w4 hown4 hbel4 _; have HO4 := Lib.hid hown4; have HB4 := Lib.hid hbel4; clear hown4 hbel4 HO3 HB3 HY3))
        go_roundw
        case rel => exact ⟨k + 1, HK.out, by go_num, by rw [HS2.out]; exact HO4.out, HB4.out⟩
        case measure => have := HK.out; simp [intOf]; omega
    · obtain rfl : k = n := by omega
      have HO := Lib.hid hown
      clear hown hbel hyv
      generalize DD k = d at *
      go_wp2
      go_ret2
      exact ⟨_, rfl, HO.out, HBEL.out⟩
end Go.Proofs.Ytabnjiepmhblaaa
