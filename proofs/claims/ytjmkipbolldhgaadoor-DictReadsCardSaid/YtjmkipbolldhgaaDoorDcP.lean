/- The document's rising. -/
import Derived.Test.YtjmkipbolldhgaaDoorDcI
namespace Go.Proofs.YtjmkipbolldhgaaDoor
open Go.RowKit
set_option linter.unusedVariables false

theorem ins_same {R : List Tx} (hR : Rise R) {x : Tx} (h : x ∈ R) : insT R x = R :=
  rise_uniq (insT_rise hR x) hR fun y => by
    rw [insT_mem]
    exact ⟨fun h' => h'.elim (fun e => e ▸ h) id, .inr⟩
theorem ins_split {R : List Tx} (hR : Rise R) {x : Tx} (h : x ∉ R) : insT R x = R.take (plc R x) ++ x :: R.drop (plc R x) := by
  refine rise_uniq (insT_rise hR x) ?_ fun y => ?_
  · have h1 : ∀ a ∈ R.take (plc R x), ltT a x = true := fun a ha => by
      obtain ⟨i, hi, rfl⟩ := List.getElem_of_mem ha
      rw [List.length_take] at hi
      rw [List.getElem_take]
      exact ((plc_iff hR x i).1 (by omega)).2
    have h2 : ∀ b ∈ R.drop (plc R x), ltT x b = true := fun b hb => by
      obtain ⟨i, hi, rfl⟩ := List.getElem_of_mem hb
      rw [List.length_drop] at hi
      rw [List.getElem_drop]
      have hn : ltT R[plc R x + i] x = false := by
        cases hh : ltT R[plc R x + i] x with
        | false => rfl
        | true => have := (plc_iff hR x (plc R x + i)).2 ⟨by omega, hh⟩; omega
      cases hh : ltT x R[plc R x + i] with
      | true => rfl
      | false => exact absurd (by rw [ltT_tri hh hn]; exact List.getElem_mem _) h
    unfold Rise at hR ⊢
    rw [List.pairwise_append, List.pairwise_cons]
    refine ⟨hR.sublist (List.take_sublist _ _), ⟨h2, hR.sublist (List.drop_sublist _ _)⟩, ?_⟩
    intro a ha b hb
    rcases List.mem_cons.1 hb with rfl | hb
    · exact h1 a ha
    · exact ltT_trans (h1 a ha) (h2 b hb)
  · rw [insT_mem, List.mem_append, List.mem_cons]
    have hs : y ∈ R ↔ y ∈ R.take (plc R x) ∨ y ∈ R.drop (plc R x) := by rw [← List.mem_append, List.take_append_drop]
    rw [hs]
    constructor
    · rintro (h | h | h)
      · exact .inr (.inl h)
      · exact .inl h
      · exact .inr (.inr h)
    · rintro (h | h | h)
      · exact .inr (.inl h)
      · exact .inl h
      · exact .inr (.inr h)
theorem OwnS.below {w w' : World} {B : Nat} {v : Value} {l : List Tx} (h : OwnS w B v l) (hb : Below w.heap.size w w') : OwnS w' B v l := by
  refine ⟨h.1, ?_⟩
  rcases h.2 with hn | ⟨g, cap, cur, rfl, hg0, hg, rest⟩
  · exact .inl hn
  · exact .inr ⟨g, cap, cur, rfl, hg0, (hb.block g (lt_of_block hg)).trans hg, rest⟩
theorem OwnS.base {w : World} {B B' : Nat} {v : Value} {l : List Tx} (h : OwnS w B v l) (hB : B' ≤ B) : OwnS w B' v l := by
  refine ⟨h.1, ?_⟩
  rcases h.2 with hn | ⟨g, cap, cur, rfl, hb, rest⟩
  · exact .inl hn
  · exact .inr ⟨g, cap, cur, rfl, by omega, rest⟩
theorem Strs.take {w : World} {A : Option Addr} {l : List Tx} (h : Strs w A l) (p : Nat) : Strs w A (l.take p) := by
  intro k hk
  rw [List.length_take] at hk
  obtain ⟨b, o, e, hc⟩ := h k (by omega)
  exact ⟨b, o, e, by rw [List.getElem_take]; exact hc⟩
/-- Where a slice from some place on lies. -/
def offA : Option Addr → Nat → Option Addr
  | none, _ => none
  | some ⟨b, o, s⟩, p => some ⟨b, o + p, s⟩
theorem Strs.drop {w : World} {A : Option Addr} {l : List Tx} (h : Strs w A l) (p : Nat) : Strs w (offA A p) (l.drop p) := by
  intro k hk
  rw [List.length_drop] at hk
  obtain ⟨b, o, rfl, hc⟩ := h (p + k) (by omega)
  refine ⟨b, o + p, rfl, ?_⟩
  rw [List.getElem_drop, show o + p + k = o + (p + k) by omega]
  exact hc
theorem rise_end (l : List Tx) (k : Nat) (h : k < l.length) : riseL (l.take (k + 1)) = insT (riseL (l.take k)) l[k] := by
  rw [List.take_succ_eq_append_getElem h, riseL_snoc]

set_option maxRecDepth 100000 in
set_option maxHeartbeats 4000000 in
theorem rising_any (A : Option Addr) (cap : Nat) (l : List Tx) (W : World) (hl : Strs W A l) (hr : rightT l) :
    Calls Tryd.prog 22 #[.slice A l.length cap] W fun e W' => ∃ v, e = .returned v ∧ OwnS W' W.heap.size v (riseL l) ∧ Below W.heap.size W W' := by
  have HL := Lib.hid hl
  obtain ⟨RR, hRR⟩ : ∃ RR : Nat → List Tx, RR = fun k => riseL (l.take k) := ⟨_, rfl⟩
  have h0 : RR 0 = [] := by rw [hRR]; rfl
  have hfin : riseL l = RR l.length := by rw [hRR]; simp only [List.take_length]
  have hstep : ∀ k (h : k < l.length), RR (k + 1) = insT (RR k) l[k] := fun k h => by rw [hRR]; exact rise_end l k h
  have hrise : ∀ k, Rise (RR k) := fun k => by rw [hRR]; exact rise_rise _
  have hlen : ∀ k, k ≤ l.length → (RR k).length ≤ k := fun k h => by rw [hRR]; exact Nat.le_trans (rise_len _) (by rw [List.length_take]; omega)
  rw [hfin]
  obtain ⟨n, hn2⟩ : ∃ n, l.length = n := ⟨_, rfl⟩
  have HN := Lib.hid hn2
  have hn96 : n ≤ 4096 := by rw [← hn2]; exact hr.1
  have HREF : Hid (Below W.heap.size W W) := Below.refl _ _
  rw [hn2] at hlen ⊢
  have H0 := Lib.hid h0
  have HSTEP := Lib.hid hstep
  have HRISE := Lib.hid hrise
  have HLEN := Lib.hid hlen
  clear hl hn2 hr hRR h0 hfin hstep hrise hlen
  go_enter Tryd.func22, Tryd.ntmps22
  go_wp2
  go_loopw [3, 4] (fun v i wr => ∃ k : Nat, k ≤ n ∧ i = .int .i64 k ∧ OwnS wr W.heap.size v (RR k) ∧ Below W.heap.size W wr) (fun _ i _ => n - (intOf i).toNat)
  case atStart => exact ⟨0, by omega, rfl, by rw [H0.out]; exact World.ownsRow_nil W _ _ _, HREF.out⟩
  case round =>
    obtain ⟨k, hk, rfl, hown, hbel⟩ := hrel
    obtain ⟨A5, c5, rfl, hi5, hn5, hl5, ha5⟩ := hown.form
    have HA5 := Lib.hid ha5
    clear ha5
    have hlen := HLEN.out k hk
    have hri := HRISE.out k
    have HBEL := Lib.hid hbel
    by_cases hlt : k < n
    · have hk1 : k < l.length := by rw [HN.out]; exact hlt
      have hst := HSTEP.out k hk1
      obtain ⟨b, o, rfl, hca⟩ := HL.out k hk1
      have hcell := cell_lo hbel hca
      obtain ⟨x, hx⟩ : ∃ x, l[k] = x := ⟨_, rfl⟩
      rw [hx] at hst hcell
      obtain ⟨RS, hRS⟩ : ∃ RS, RR k = RS := ⟨_, rfl⟩
      rw [hRS] at hst hri hlen hown hi5 hl5 ⊢
      have hpla := fun (w : World) (h : Strs w A5 RS) => place_any A5 c5 RS x w h hri (by omega)
      obtain ⟨p, hp⟩ : ∃ p, plc RS x = p := ⟨_, rfl⟩
      have hpm := plc_le RS x
      rw [hp] at hpla hpm
      obtain ⟨m, hm⟩ : ∃ m, RS.length = m := ⟨_, rfl⟩
      rw [hm] at hpla hpm hlen hl5 ⊢
      have HM := Lib.hid hm
      have HI5 := Lib.hid hi5
      have HN5 := Lib.hid hn5
      have HK : Hid (k < n) := hlt
      have HST := Lib.hid hst
      have HOWN := Lib.hid hown
      have hm96 : m ≤ 4096 := by omega
      have HM96 := Lib.hid hm96
      have HPM := Lib.hid hpm
      by_cases hxm : x ∈ RS
      · rw [decide_eq_true hxm] at hpla
        have HP := Lib.hid hpla
        have HS2 : Hid (RR (k + 1) = RS) := by show _ = _; rw [hst]; exact ins_same hri hxm
        obtain ⟨sx, hsx⟩ : ∃ sx, str x = sx := ⟨_, rfl⟩
        rw [hsx] at HP hcell
        clear hpla hxm hst hri hRS hx hm hown hi5 hn5 hca hbel hk1 hp hpm
        go_wp2_with (go_at_call 25; refine (HP.out _ HI5.out).mono ?_; rintro e w1 ⟨rfl, hb1⟩; have HB1 := Lib.hid hb1; clear hb1)
        go_roundw
        case rel => exact ⟨k + 1, HK.out, by go_num, by rw [HS2.out, ← HM.out]; exact HOWN.out.below HB1.out, HBEL.out.trans (HB1.out.mono HBEL.out.size)⟩
        case measure => simp [intOf]; have := HK.out; omega
      · rw [decide_eq_false hxm] at hpla
        have HP := Lib.hid hpla
        have HS2 : Hid (RR (k + 1) = RS.take p ++ [x] ++ RS.drop p) := by show _ = _; rw [hst, ← hp, ins_split hri hxm]; simp
        obtain ⟨sx, hsx⟩ : ∃ sx, str x = sx := ⟨_, rfl⟩
        rw [hsx] at HP hcell
        have HSX := Lib.hid hsx.symm
        have hmw : IntKind.i64.wrap ((m : Int) + 1) = (m : Int) + 1 := by rw [IntKind.wrap_i64]; omega
        have hpi : (p : Int) ≤ (m : Int) := by omega
        have hpc : (p : Int) ≤ (c5 : Int) := by omega
        have hpc2 : p ≤ c5 := by omega
        have HBX : Hid (W.cell? ⟨b, o + k, none⟩ = some (.string sx)) := by rw [← hsx, ← hx]; exact hca
        clear hpla hxm hst hri hRS hx hm hown hi5 hn5 hca hbel hk1 hp hsx
        go_upto_region 7 with (go_at_call 25; refine (HP.out _ HI5.out).mono ?_; rintro e w1 ⟨rfl, hb1⟩; have HB1 := Lib.hid hb1; clear hb1)
        refine wpS_start (fun W' => Below wr.heap.size wr W') 9 (by kernel_rfl) rfl (fun RG HR => ?_)
        refine wpS_take HR (i := 0) (v := .slice A5 m c5) rfl (by decide +kernel) (by decide +kernel) (by decide +kernel) (fun _ _ _ h => h) (by rfl) (HB1.out.drew) (fun W' hW => by go_simp) ?_
        go_simp
        refine wpS_take HR (i := 1) (v := .int .i64 (m : Int)) rfl (by decide +kernel) (by decide +kernel) (by decide +kernel) (fun _ _ _ h => h) (by rfl) (HB1.out.drew) (fun W' hW => by go_simp) ?_
        go_simp
        refine wpS_take HR (i := 2) (v := .int .i64 ((m : Int) + 1)) rfl (by decide +kernel) (by decide +kernel) (by decide +kernel) (fun _ _ _ h => h) (by rfl) (HB1.out.drew) (fun W' hW => by go_simp) ?_
        go_simp
        refine wpS_take HR (i := 4) (v := .slice A5 m c5) rfl (by decide +kernel) (by decide +kernel) (by decide +kernel) (fun _ _ _ h => h) (by rfl) (HB1.out.drew) (fun W' hW => by go_simp) ?_
        go_simp
        refine wpS_take HR (i := 5) (v := .int .i64 (p : Int)) rfl (by decide +kernel) (by decide +kernel) (by decide +kernel) (fun _ _ _ h => h) (by rfl) (HB1.out.drew) (fun W' hW => by go_simp) ?_
        go_simp
        refine wpS_take HR (i := 6) (v := .slice A5 p c5) rfl (by decide +kernel) (by decide +kernel) (by decide +kernel) (fun _ _ _ h => h) (by rfl) (HB1.out.drew) (fun W' hW => by go_simp) ?_
        go_simp
        refine wpS_step1 HR (i := 3) (by decide +kernel) ?_
        refine stepS_list HR rfl rfl ?_
        intro K hK
        refine mk_strc wr rfl _ _ rfl _ (m + 1) rfl rfl (by omega) (by have := HM96.out; omega) HB1.out.drew ?_
        intro v2 w2 hown2 hbel2
        have O2 := Lib.hid hown2
        have E2 := Lib.hid hbel2
        clear hown2 hbel2
        refine (hK _ _ (E2.out) ?_)
        clear hK K
        go_simp
        refine wpS_step1 HR (i := 7) (by decide +kernel) ?_
        refine stepS_list HR rfl rfl ?_
        intro K hK
        refine app_strs wr rfl _ _ rfl v2 [] rfl O2.out E2.out A5 p c5 (RS.take p) rfl (by rw [List.length_take, HM.out]; have := HPM.out; omega) ((HI5.out.keep E2.out).take p) HN5.out (by rw [List.length_take]; have := HM96.out; have := HPM.out; simp; omega) ?_
        intro v3 w3 hown3 hbel3
        rw [List.nil_append] at hown3
        have O3 := Lib.hid hown3
        have E3 := Lib.hid hbel3
        clear hown3 hbel3
        refine (hK _ _ (E3.out) ?_)
        clear hK K
        go_simp
        refine wpS_take HR (i := 8) (v := v3) rfl (by decide +kernel) (by decide +kernel) (by decide +kernel) (fun _ _ _ h => h) (by rfl) (E3.out) (fun W' hW => by go_simp) ?_
        go_simp
        refine wpS_done HR (by decide +kernel) ?_
        have hc3 := cell_lo E3.out hcell
        clear hcell
        have HSZ1 : Hid ((RS.take p).length + [x].length ≤ 1700000000000) := by
          show _ ≤ _
          have := HM96.out; have := HPM.out
          rw [List.length_take, List.length_singleton]; omega
        have HSZ2 : Hid ((RS.take p ++ [x]).length + (RS.drop p).length ≤ 1700000000000) := by
          show _ ≤ _
          have := HM96.out; have := HPM.out; have := HM.out
          rw [List.length_append, List.length_take, List.length_singleton, List.length_drop]; omega
        have HDL : Hid (m - p = (RS.drop p).length) := by show _ = _; rw [List.length_drop, HM.out]
        rcases A5 with _ | ⟨b5, o5, s5⟩
        · obtain rfl := HI5.out.nil
          obtain rfl : m = 0 := HM.out.symm
          obtain rfl : p = 0 := by omega
          obtain rfl := HN5.out rfl
          go_upto_region 9 with ((refine app_strs wr rfl _ _ rfl v3 (([] : List Tx).take 0) rfl (World.ownsRow.alloc O3.out _) (E3.out.alloc E3.out.size _) (some ⟨_, 0, none⟩) 1 1 [x] rfl rfl (strs_one _ 9 x sx HSX.out) (by simp) HSZ1.out ?_; intro v4 w4 hown4 hbel4; have O4 := Lib.hid hown4; have E4 := Lib.hid hbel4; clear hown4 hbel4))
          go_wp2_with ((refine app_strs wr rfl _ _ rfl v4 (([] : List Tx).take 0 ++ [x]) rfl O4.out E4.out none _ _ (([] : List Tx).drop 0) rfl (by rw [List.length_drop, HM.out]) ((HI5.out.keep E4.out).drop 0) (fun _ => rfl) HSZ2.out ?_; intro v5 w5 hown5 hbel5; rw [← HS2.out] at hown5; have O5 := Lib.hid hown5; have E5 := Lib.hid hbel5; clear hown5 hbel5))
          go_roundw
          case rel => exact ⟨k + 1, HK.out, by go_num, O5.out.base HBEL.out.size, HBEL.out.trans (E5.out.mono HBEL.out.size)⟩
          case measure => simp [intOf]; have := HK.out; omega
        · have ho5 : o5 = 0 ∧ s5 = none := by
            have e := (HA5.out _ rfl).2
            injection e with _ e2 e3
            exact ⟨e2, e3⟩
          obtain ⟨rfl, rfl⟩ := ho5
          go_upto_region 9 with ((refine app_strs wr rfl _ _ rfl v3 (RS.take p) rfl (World.ownsRow.alloc O3.out _) (E3.out.alloc E3.out.size _) (some ⟨_, 0, none⟩) 1 1 [x] rfl rfl (strs_one _ 9 x sx HSX.out) (by simp) HSZ1.out ?_; intro v4 w4 hown4 hbel4; have O4 := Lib.hid hown4; have E4 := Lib.hid hbel4; clear hown4 hbel4))
          by_cases hpe : p = c5
          · obtain rfl : p = m := by have := HPM.out; omega
            subst hpe
            go_wp2_with ((refine app_strs wr rfl _ _ rfl v4 (RS.take p ++ [x]) rfl O4.out E4.out _ _ _ (RS.drop p) rfl (by have := HDL.out; omega) (fun k hk => absurd hk (by have := HDL.out; omega)) (fun h => by cases h) HSZ2.out ?_; intro v5 w5 hown5 hbel5; rw [← HS2.out] at hown5; have O5 := Lib.hid hown5; have E5 := Lib.hid hbel5; clear hown5 hbel5))
            go_roundw
            case rel => exact ⟨k + 1, HK.out, by go_num, O5.out.base HBEL.out.size, HBEL.out.trans (E5.out.mono HBEL.out.size)⟩
            case measure => simp [intOf]; have := HK.out; omega
          · have hpe2 : ¬ (p : Int) = (c5 : Int) := by omega
            have hpe3 : p < c5 := by omega
            go_wp2_with ((refine app_strs wr rfl _ _ rfl v4 (RS.take p ++ [x]) rfl O4.out E4.out (some ⟨b5, p, none⟩) _ _ (RS.drop p) rfl HDL.out (by have h : Strs w4 (some ⟨b5, 0 + p, none⟩) (RS.drop p) := (HI5.out.keep E4.out).drop p; rwa [Nat.zero_add] at h) (fun h => by cases h) HSZ2.out ?_; intro v5 w5 hown5 hbel5; rw [← HS2.out] at hown5; have O5 := Lib.hid hown5; have E5 := Lib.hid hbel5; clear hown5 hbel5))
            go_roundw
            case rel => exact ⟨k + 1, HK.out, by go_num, O5.out.base HBEL.out.size, HBEL.out.trans (E5.out.mono HBEL.out.size)⟩
            case measure => simp [intOf]; have := HK.out; omega
    · obtain rfl : k = n := by omega
      have HOWN := Lib.hid hown
      clear hown hi5 hn5 hl5 hlen hri hbel
      go_wp2
      go_ret
      exact ⟨_, rfl, HOWN.out, HBEL.out⟩
end Go.Proofs.YtjmkipbolldhgaaDoor
