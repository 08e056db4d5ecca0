/- The document's Take of a schema. -/
import Derived.Test.YtabnjiepmhblaaaScU
import Derived.Test.YtabnjiepmhblaaaRowG
namespace Go.Proofs.Ytabnjiepmhblaaa
open Go.RowKit Go.Shelf Go.Maps
set_option linter.unusedVariables false

/-- Columns in a row of the call's own. -/
def OwnC (w : World) (B : Nat) (v : Value) (l : List Col) : Prop := w.ownsRow B 47 3 v l.length (l.flatMap colC)
theorem OwnC.form {w : World} {B : Nat} {v : Value} {l : List Col} (h : OwnC w B v l) : ∃ A c, v = .slice A l.length c ∧ Cols w A l ∧ (A = none → c = 0) ∧ l.length ≤ c := by
  obtain ⟨A, c, e, hA, hc, _, hcl⟩ := row_form h
  refine ⟨A, c, e, ?_, fun h => (hA h).1, hc⟩
  intro k hk
  have a0 := flatC_at l k 0 hk (by omega)
  have a1 := flatC_at l k 1 hk (by omega)
  have a2 := flatC_at l k 2 hk (by omega)
  obtain ⟨g, e0, b0⟩ := hcl _ _ a0
  obtain ⟨g1, e1, b1⟩ := hcl _ _ a1
  obtain ⟨g2, e2, b2⟩ := hcl _ _ a2
  subst e0
  injection e1 with e1
  injection e1 with e1
  injection e2 with e2
  injection e2 with e2
  subst e1 e2
  exact ⟨g, 0, rfl, by rw [Nat.zero_add]; exact b0, by rw [Nat.zero_add]; exact b1, by rw [Nat.zero_add]; exact b2⟩
theorem colC_one (c : Col) : ∀ u ∈ colC c, u.oneCell' = true := one_c _ _ _
theorem app_col {ops : Array Oper} {rest : List Oper} {o : Oper} {a : Act} {Q : Exit → Act → World → Prop} {w : World} (w0 : World) (hgd : o.guard = none) (s x : Operand)
    (ho : o.op = .call { callee := .builtin .append, args := #[s, x], argTypes := #[22, 22] }) (v : Value) (d : List Col) (hs : a.eval s = v) (hown : OwnC w w0.heap.size v d) (hbel : Below w0.heap.size w0 w)
    (g c : Nat) (q : Col) (hx : a.eval x = .slice (some ⟨g, 0, none⟩) 1 c) (hq : Blk w g 47 (colC q)) (hsz : d.length ≤ 4000)
    (h : ∀ v' w', OwnC w' w0.heap.size v' (d ++ [q]) → Below w0.heap.size w0 w' → wpList Try.prog ops Q rest (a.put o.dst v') w') : wpList Try.prog ops Q (o :: rest) a w := by
  obtain ⟨i0, hti, hz0, hz1, hz2⟩ := info_parts info_col
  refine wpList_append_own w hgd s x 22 ho w0.heap.size 47 i0 _ 3 32 Try.underlying22 hti hz0 hz1 hz2 rfl (by decide) v d.length (d.flatMap colC) hs hown ⟨g, 0, none⟩ 1 c (colC q) hx rfl
    (fun j u hj => by rw [Addr.add_lit, Nat.zero_add, hq.at_]; exact hj) (colC_one q) (by unfold maxLen; omega) (by omega) hbel.size ?_
  intro v' w' h1 h2 h5
  refine h v' w' ?_ (hbel.grown h2 hbel.size (fun k hk => (World.ownsRow.lt hown k hk).1))
  show w'.ownsRow w0.heap.size 47 3 v' (d ++ [q]).length ((d ++ [q]).flatMap colC)
  rw [List.length_append, List.flatMap_append, List.flatMap_cons, List.flatMap_nil, List.append_nil]
  exact h1

set_option maxRecDepth 100000 in
set_option maxHeartbeats 8000000 in
theorem reftakes_any (A : Option Addr) (cap : Nat) (at_ : Int) (l : List UInt8) (W : World) (hb : Byt W A l) (hn : A = none → cap = 0) (hc : l.length ≤ cap) (hm : cap ≤ 140737488351232) (h63 : at_ ≤ 9223372036854775807) :
    Calls Try.prog 20 #[.slice A l.length cap, .int .i64 at_] W (TookSc W l at_) := by
  have hT := reftake_any A cap at_ l W hb hc hm h63
  unfold Took at hT
  have hts : takeS l at_ = match takeO l at_ with
    | none => none
    | some (n, c) => if 16 < n then none else match takeCs l (at_ + c) n with
      | none => none
      | some (r, p) => if rightC r then some (r, p) else none := rfl
  cases ht : takeO l at_ with
  | none =>
    rw [ht] at hts
    simp only [tV, tP, tE, ht] at hT
    have HT := Lib.hid hT
    have HNO : Hid (∀ W', Below W.heap.size W W' → TookSc W l at_ (.returned (.tuple #[.slice none 0 0, .int .i64 0, .int .i64 52])) W') := fun W' h => tooks_no hts h
    clear hT hts ht hb
    generalize l.length = len at *
    go_enter Try.func20, Try.ntmps20
    go_wp2_with (first | (go_at_call 42; refine HT.out.mono ?_; rintro e w1 ⟨rfl, rfl⟩; clear HT))
    refine bodyPost_ret (v := .tuple #[.slice none 0 0, .int .i64 0, .int .i64 52]) ?_ rfl (HNO.out _ (Below.refl _ _))
    rw [results_tmp3 rfl]
    rfl
  | some x =>
    obtain ⟨n, c⟩ := x
    rw [ht] at hts
    simp only at hts
    simp only [tV, tP, tE, ht] at hT
    have HT := Lib.hid hT
    have h0 : 0 ≤ at_ ∧ at_ + c ≤ l.length := takeO_in ht
    by_cases hn16 : 16 < n
    · rw [if_pos hn16] at hts
      have HNO : Hid (∀ W', Below W.heap.size W W' → TookSc W l at_ (.returned (.tuple #[.slice none 0 0, .int .i64 0, .int .i64 52])) W') := fun W' h => tooks_no hts h
      have hgt : (16 : Int) < (n : Int) := by omega
      clear hT hts ht hb h0
      generalize l.length = len at *
      go_enter Try.func20, Try.ntmps20
      go_wp2_with (first | (go_at_call 42; refine HT.out.mono ?_; rintro e w1 ⟨rfl, rfl⟩; clear HT))
      refine bodyPost_ret (v := .tuple #[.slice none 0 0, .int .i64 0, .int .i64 52]) ?_ rfl (HNO.out _ (Below.refl _ _))
      rw [results_tmp3 rfl]
      rfl
    · rw [if_neg hn16] at hts
      obtain ⟨at2, hat2⟩ : ∃ a2, at_ + (c : Int) = a2 := ⟨_, rfl⟩
      rw [hat2] at hts
      have hgt : ¬ (16 : Int) < (n : Int) := by omega
      have hcv : IntKind.i64.wrap (n : Int) = (n : Int) := by rw [IntKind.wrap_i64]; omega
      have HTS := Lib.hid hts
      have HBY := Lib.hid hb
      have HIN : Hid (at2 ≤ l.length ∧ 0 ≤ at2) := ⟨by omega, by omega⟩
      have HLC : Hid (l.length ≤ 140737488351232) := by show _ ≤ _; omega
      clear hT hts ht hb h0
      rw [hat2] at HT
      clear hat2
      go_enter Try.func20, Try.ntmps20
      go_wp2_with (first | (go_at_call 42; refine HT.out.mono ?_; rintro e w1 ⟨rfl, rfl⟩; clear HT))
      go_loopw [8, 10, 11, 12, 13, 14] (fun x8 x10 x11 x12 x13 x14 wr => ∃ k : Nat, k ≤ n ∧ x11 = .int .i64 k ∧ ∃ r p, takeCs l at2 k = some (r, p) ∧ x8 = .int .i64 p ∧ OwnC wr W.heap.size x10 r ∧ Below W.heap.size W wr) (fun _ _ x _ _ _ _ => n - (intOf x).toNat)
      case atStart => exact ⟨0, by omega, rfl, [], at2, rfl, rfl, World.ownsRow_nil W _ 47 3, Below.refl _ _⟩
      case round =>
        obtain ⟨k, hk, rfl, r, p, htk, rfl, hown, hbel⟩ := hrel
        have hfr := takeCs_form HIN.out.1 htk
        have HBEL := Lib.hid hbel
        have HOWN := Lib.hid hown
        have HTK := Lib.hid htk
        obtain ⟨Av, cv, rfl, hcols, hAv, hcv2⟩ := hown.form
        have HCOLS := Lib.hid hcols
        have hr1 := hfr.1
        have hin := HIN.out
        have hpl : p ≤ 140737488351232 := by have := HLC.out; have := hfr.2.2.1; omega
        clear hown htk hcols
        by_cases hlt : k < n
        · have hcol := reftaketext_any A cap p 24 l wr (HBY.out.keep hbel) hn hc hm (by omega)
          have HK : Hid (k < n) := hlt
          unfold TookT at hcol
          cases htc : textO l p 24 with
          | none =>
            have hno : takeS l at_ = none := by
              rw [HTS.out, takeCs_none (k := k + 1) (by simp only [takeCs]; rw [HTK.out]; simp only [takeC, htc]) n hlt]
            have HNO := Lib.hid (fun W' (h : Below W.heap.size W W') => tooks_no hno h)
            simp only [txS, txP, txE, htc] at hcol
            have HCOL := Lib.hid hcol
            clear hcol htc hno hfr hr1 hbel
            go_wp2_with (first | (go_at_call 43; refine HCOL.out.mono ?_; rintro e w2 ⟨rfl, rfl⟩; clear HCOL))
            refine bodyPost_ret (v := .tuple #[.slice none 0 0, .int .i64 0, .int .i64 52]) ?_ rfl (HNO.out _ HBEL.out)
            rw [results_tmp3 rfl]
            rfl
          | some y =>
            obtain ⟨t, q⟩ := y
            obtain ⟨f1, f2, f3, f4⟩ := textO_form htc
            obtain ⟨m, rfl⟩ : ∃ m : Nat, q = (m : Int) := ⟨q.toNat, by omega⟩
            have htcol : takeC l p = if (l.length : Int) < (m : Int) + 2 then none else if 1 < (l.getD (m + 1) 0).toNat then none else some (colOf t (l.getD m 0) (l.getD (m + 1) 0), (m : Int) + 2) := by
              unfold takeC
              rw [htc]
              simp only [Int.toNat_natCast]
            have htk24 : t.take 24 = t := List.take_of_length_le (by omega)
            simp only [txS, txP, txE, htc] at hcol
            have HCOL := Lib.hid hcol
            have hms : IntKind.i64.wrap ((l.length : Int) - (m : Int)) = (l.length : Int) - (m : Int) := by rw [IntKind.wrap_i64]; omega
            by_cases hp : (l.length : Int) < (m : Int) + 2
            · rw [if_pos hp] at htcol
              have hno : takeS l at_ = none := by
                rw [HTS.out, takeCs_none (k := k + 1) (by simp only [takeCs]; rw [HTK.out]; simp only [htcol]) n hlt]
              have hlt2 : (l.length : Int) - (m : Int) < 2 := by omega
              have HNO := Lib.hid (fun W' (h : Below W.heap.size W W') => tooks_no hno h)
              clear hcol htc hno hfr hr1 hbel htcol
              go_wp2_with (first | (go_at_call 43; refine HCOL.out.mono ?_; rintro e w2 ⟨rfl, rfl⟩; clear HCOL))
              refine bodyPost_ret (v := .tuple #[.slice none 0 0, .int .i64 0, .int .i64 52]) ?_ rfl (HNO.out _ HBEL.out)
              rw [results_tmp3 rfl]
              rfl
            · rw [if_neg hp] at htcol
              obtain ⟨b, o, rfl, e0⟩ := HBY.out m (by omega)
              obtain ⟨b', o', e', e1⟩ := HBY.out (m + 1) (by omega)
              simp only [Option.some.injEq, Addr.mk.injEq, and_true] at e'
              obtain ⟨rfl, rfl⟩ := e'
              have hbN : b < W.heap.size := World.block_lt_of_cell? W _ e0
              have d0 := (hbel.cell (p := ⟨b, o + m, none⟩) hbN).trans e0
              have d1 := (hbel.cell (p := ⟨b, o + (m + 1), none⟩) hbN).trans e1
              have q0 : l.getD m 0 = l[m]'(by omega) := by simp [List.getD, List.getElem?_eq_getElem (show m < l.length by omega)]
              have q1 : l.getD (m + 1) 0 = l[m + 1]'(by omega) := by simp [List.getD, List.getElem?_eq_getElem (show m + 1 < l.length by omega)]
              rw [q0, q1] at htcol
              clear q0 q1
              generalize l[m] = kb at e0 d0 htcol
              generalize l[m + 1] = nb at e1 d1 htcol
              have hkb := kb.toNat_lt
              have hnb := nb.toNat_lt
              have hlt2 : ¬ (l.length : Int) - (m : Int) < 2 := by omega
              have hml : m + 1 < l.length := by omega
              by_cases hg : 1 < nb.toNat
              · rw [if_pos hg] at htcol
                have hno : takeS l at_ = none := by
                  rw [HTS.out, takeCs_none (k := k + 1) (by simp only [takeCs]; rw [HTK.out]; simp only [htcol]) n hlt]
                have HNO := Lib.hid (fun W' (h : Below W.heap.size W W') => tooks_no hno h)
                clear hcol htc hno hfr hr1 hbel htcol
                go_wp2_with (first | (go_at_call 43; refine HCOL.out.mono ?_; rintro e w2 ⟨rfl, rfl⟩; clear HCOL))
                refine bodyPost_ret (v := .tuple #[.slice none 0 0, .int .i64 0, .int .i64 52]) ?_ rfl (HNO.out _ HBEL.out)
                rw [results_tmp3 rfl]
                rfl
              · rw [if_neg hg] at htcol
                obtain ⟨nq, hnq⟩ : ∃ nq, (((nb.toNat : Nat) : Int) == 1) = nq := ⟨_, rfl⟩
                have hcC : colC (colOf t kb nb) = [.string (str t), .int .i64 (kb.toNat : Int), .bool nq] := by
                  have e2 : (nb == 1) = nq := by
                    rw [← hnq]
                    by_cases e : nb = 1
                    · subst e; rfl
                    · rw [beq_eq_false_iff_ne.2 e]; symm; rw [beq_eq_false_iff_ne]; intro h; exact e (UInt8.toNat_inj.1 (by show nb.toNat = 1; omega))
                  unfold colC colOf
                  simp only [htk24, e2]
                have hstep : takeCs l at2 (k + 1) = some (r ++ [colOf t kb nb], (m : Int) + 2) := by simp only [takeCs]; rw [HTK.out]; simp only [htcol]
                have HSTEP := Lib.hid hstep
                have HCC := Lib.hid hcC
                generalize colOf t kb nb = cc at HSTEP HCC
                have HRL : Hid (r.length ≤ 4000) := by show r.length ≤ 4000; omega
                clear hcol htc hfr hr1 htcol hstep hcC
                go_upto_region 11 with (first | (go_at_call 43; refine HCOL.out.mono ?_; rintro e w2 ⟨rfl, rfl⟩; clear HCOL))
                have hS : Below W.heap.size W wr.drew := hbel.drew
                have hO9 : OwnC (wr.alloc (Obj.cells #[Value.string (str t), Value.int .i64 (kb.toNat : Int), Value.bool nq] 47)).drew W.heap.size (.slice Av r.length cv) r := World.ownsRow.alloc (w := wr) HOWN.out (Obj.cells #[Value.string (str t), Value.int .i64 (kb.toNat : Int), Value.bool nq] 47)
                have hB9 : Below W.heap.size W (wr.alloc (Obj.cells #[Value.string (str t), Value.int .i64 (kb.toNat : Int), Value.bool nq] 47)).drew := (hbel.alloc hbel.size (Obj.cells #[Value.string (str t), Value.int .i64 (kb.toNat : Int), Value.bool nq] 47)).drew
                have hQ9 : Blk (wr.alloc (Obj.cells #[Value.string (str t), Value.int .i64 (kb.toNat : Int), Value.bool nq] 47)).drew wr.heap.size 47 (colC cc) := by rw [HCC.out]; exact Blk.born wr _ _
                have HO9 := Lib.hid hO9
                have HB9 := Lib.hid hB9
                have HQ9 := Lib.hid hQ9
                clear hO9 hB9 hQ9
                refine wpS_start (fun W' => Below W.heap.size W W') 17 (by kernel_rfl) rfl (fun RG HR => ?_)
                refine wpS_take HR (i := 0) (v := .slice Av r.length cv) rfl (by decide +kernel) (by decide +kernel) (by decide +kernel) (fun _ _ _ h => h) (by rfl) hS (fun W hW => by go_simp) ?_
                go_simp
                refine wpS_take HR (i := 1) (v := .string (str t)) rfl (by decide +kernel) (by decide +kernel) (by decide +kernel) (fun _ _ _ h => h) (by rfl) hS (fun W hW => by go_simp) ?_
                go_simp
                refine wpS_take HR (i := 2) (v := .slice (some ⟨b, o, none⟩) l.length cap) rfl (by decide +kernel) (by decide +kernel) (by decide +kernel) (fun _ _ _ h => h) (by rfl) hS (fun W hW => by go_simp) ?_
                go_simp
                refine wpS_take HR (i := 3) (v := .int .i64 (m : Int)) rfl (by decide +kernel) (by decide +kernel) (by decide +kernel) (fun _ _ _ h => h) (by rfl) hS (fun W hW => by go_simp) ?_
                go_simp
                refine wpS_take HR (i := 4) (v := .pointer (some ⟨b, o + m, none⟩)) rfl (by decide +kernel) (by decide +kernel) (by decide +kernel) (fun _ _ _ h => h) (by rfl) hS (fun W hW => by first | (go_simp; done) | (go_simp; intro hx; exact absurd hx (by omega)) | (go_simp; rw [if_pos ⟨by omega, by omega⟩]; done)) ?_
                go_simp
                refine wpS_take HR (i := 5) (v := .int .u8 (kb.toNat : Int)) rfl (by decide +kernel) (by decide +kernel) (by decide +kernel) (fun _ _ _ h => h) (by rfl) hS (fun W hW => by have q := (hW.cell (p := ⟨b, o + m, none⟩) hbN).trans e0; go_simp) ?_
                go_simp
                refine wpS_take HR (i := 6) (v := .int .i64 (kb.toNat : Int)) rfl (by decide +kernel) (by decide +kernel) (by decide +kernel) (fun _ _ _ h => h) (by rfl) hS (fun W hW => by go_simp; exact IntWalk.i64_in _ ⟨by omega, by omega⟩) ?_
                go_simp
                refine wpS_take HR (i := 7) (v := .slice (some ⟨b, o, none⟩) l.length cap) rfl (by decide +kernel) (by decide +kernel) (by decide +kernel) (fun _ _ _ h => h) (by rfl) hS (fun W hW => by go_simp) ?_
                go_simp
                refine wpS_take HR (i := 8) (v := .int .i64 (m : Int)) rfl (by decide +kernel) (by decide +kernel) (by decide +kernel) (fun _ _ _ h => h) (by rfl) hS (fun W hW => by go_simp) ?_
                go_simp
                refine wpS_take HR (i := 9) (v := .int .i64 ((m : Int) + 1)) rfl (by decide +kernel) (by decide +kernel) (by decide +kernel) (fun _ _ _ h => h) (by rfl) hS (fun W hW => by go_simp; exact IntWalk.i64_in _ ⟨by omega, by omega⟩) ?_
                go_simp
                refine wpS_take HR (i := 10) (v := .pointer (some ⟨b, o + (m + 1), none⟩)) rfl (by decide +kernel) (by decide +kernel) (by decide +kernel) (fun _ _ _ h => h) (by rfl) hS (fun W hW => by first | (go_simp; done) | (go_simp; intro hx; exact absurd hx (by omega)) | (go_simp; rw [if_pos ⟨by omega, by omega⟩]; done)) ?_
                go_simp
                refine wpS_take HR (i := 11) (v := .int .u8 (nb.toNat : Int)) rfl (by decide +kernel) (by decide +kernel) (by decide +kernel) (fun _ _ _ h => h) (by rfl) hS (fun W hW => by have q := (hW.cell (p := ⟨b, o + (m + 1), none⟩) hbN).trans e1; go_simp) ?_
                go_simp
                refine wpS_take HR (i := 12) (v := .bool nq) rfl (by decide +kernel) (by decide +kernel) (by decide +kernel) (fun _ _ _ h => h) (by rfl) hS (fun W hW => by go_simp) ?_
                go_simp
                refine wpS_take HR (i := 13) (v := .agg #[.string (str t), .int .i64 (kb.toNat : Int), .bool nq]) rfl (by decide +kernel) (by decide +kernel) (by decide +kernel) (fun _ _ _ h => h) (by rfl) hS (fun W hW => by go_simp) ?_
                go_simp
                refine wpS_step1 HR (i := 14) (by decide +kernel) ?_
                refine stepS_list HR rfl rfl ?_
                intro K hK
                go_wp2
                refine hK _ _ HB9.out ?_
                clear hK K hS
                have hS := HB9.out
                refine wpS_step1 HR (i := 15) (by decide +kernel) ?_
                refine stepS_list HR rfl rfl ?_
                intro K hK
                refine app_col W rfl _ _ rfl _ r rfl HO9.out HB9.out wr.heap.size 1 cc rfl HQ9.out HRL.out ?_
                intro v9 w9 hown9 hbel9
                obtain ⟨A9, c9, rfl, _, _, _⟩ := hown9.form
                refine wpList_nil (hK _ _ hbel9 ?_)
                clear hK K hS
                have hS := hbel9
                rw [List.length_append, List.length_cons, List.length_nil] at hown9
                have HO10 := Lib.hid hown9
                clear hown9 hbel9
                go_simp
                refine wpS_step1 HR (i := 16) (by decide +kernel) ?_
                refine stepS_list HR rfl rfl ?_
                intro K hK
                go_wp2
                refine hK _ _ hS ?_
                clear hK K
                refine wpS_done HR (by decide +kernel) ?_
                go_wp2
                go_roundw
                case rel => exact ⟨k + 1, HK.out, by go_num, _, _, HSTEP.out, by first | rfl | go_num, HO10.out, hS⟩
                case measure => have := HK.out; simp [intOf]; omega
        · obtain rfl : k = n := by omega
          have hri := refrightC_any Av cv r wr HCOLS.out (by omega)
          rw [hr1] at hri ⊢
          have hfin : takeS l at_ = if rightC r then some (r, p) else none := by rw [HTS.out, HTK.out]
          cases hrr : rightC r with
          | false =>
            rw [hrr] at hri hfin
            have HNO := Lib.hid (fun W' (h : Below W.heap.size W W') => tooks_no (by rw [hfin]; rfl) h)
            have HRI := Lib.hid hri
            clear hri hrr hfin hfr hr1 hbel
            go_wp2_with (first | (go_at_call 10; refine HRI.out.mono ?_; rintro e w2 ⟨rfl, rfl⟩; clear HRI))
            refine bodyPost_ret (v := .tuple #[.slice none 0 0, .int .i64 0, .int .i64 52]) ?_ rfl (HNO.out _ HBEL.out)
            rw [results_tmp3 rfl]
            rfl
          | true =>
            rw [hrr] at hri hfin
            have HYES : Hid (TookSc W l at_ (.returned (.tuple #[.slice Av k cv, .int .i64 p, .int .i64 0])) wr) := tooks_yes (by rw [hfin]; rfl) hr1 HCOLS.out hAv (by omega) hbel
            have HRI := Lib.hid hri
            clear hri hrr hfin hfr hr1 hbel
            go_wp2_with (first | (go_at_call 10; refine HRI.out.mono ?_; rintro e w2 ⟨rfl, rfl⟩; clear HRI))
            refine bodyPost_ret (v := .tuple #[.slice Av k cv, .int .i64 p, .int .i64 0]) ?_ rfl HYES.out
            rw [results_tmp3 rfl]
            rfl
end Go.Proofs.Ytabnjiepmhblaaa
