/- Joined texts: The document's kinds; how a schema's text grows by a column. The document's Show of a schema. -/
import Derived.Test.YtabnjiepmhblaaaDoorJ14
import Derived.Test.YtabnjiepmhblaaaDoorJ6
import Derived.Test.YtabnjiepmhblaaaDoorJ3
import Derived.Test.YtabnjiepmhblaaaDoorJ7
/-! The document's kinds; how a schema's text grows by a column. -/
namespace Go.Proofs.YtabnjiepmhblaaaDoor
open Go.RowKit
set_option linter.unusedVariables false

def wordT (k : Int) : List UInt8 := if k = 1 then [105, 110, 116] else if k = 2 then [98, 111, 111, 108] else [116, 101, 120, 116]
theorem kindT_word (k : Int) : kindT k = 32 :: wordT k := by
  unfold kindT wordT
  by_cases h1 : k = 1
  · simp [h1]
  · by_cases h2 : k = 2
    · simp [h2]
    · simp [h1, h2]
theorem kinds_any (k : Int) (hk : 1 ≤ k ∧ k ≤ 3) (w : World) : Calls Tryd.prog 21 #[.int .i64 k] w fun e w' => e = .returned (.string ⟨(wordT k).toArray⟩) ∧ Below w.heap.size w w' := by
  have h : k = 1 ∨ k = 2 ∨ k = 3 := by omega
  have hB : ∀ o, Below w.heap.size w (w.alloc o) := fun o => (Below.refl _ _).alloc (Nat.le_refl _) _
  have HB := Lib.hid hB
  clear hB hk
  rcases h with rfl | rfl | rfl
  · go_enter Tryd.func21, Tryd.ntmps21
    go_wp2
    go_ret
    exact ⟨rfl, HB.out _⟩
  · go_enter Tryd.func21, Tryd.ntmps21
    go_wp2
    go_ret
    exact ⟨rfl, HB.out _⟩
  · go_enter Tryd.func21, Tryd.ntmps21
    go_wp2
    go_ret
    exact ⟨rfl, HB.out _⟩
theorem join_snoc (x : List UInt8) : ∀ l : List (List UInt8), l ≠ [] → Lib.join (l ++ [x]) [44, 32] = Lib.join l [44, 32] ++ ([44, 32] ++ x)
  | [], h => absurd rfl h
  | [a], _ => by
    show Lib.join (a :: x :: []) [44, 32] = _
    rw [join_cons, join_one, join_one]
    simp
  | a :: b :: t, _ => by
    show Lib.join (a :: b :: (t ++ [x])) [44, 32] = _
    rw [join_cons, join_cons]
    have := join_snoc x (b :: t) (by simp)
    rw [List.cons_append] at this
    rw [this]
    simp
theorem showL_step (l : List Col) (i : Nat) (h : i < l.length) : showL (l.take (i + 1)) = showL (l.take i) ++ (if i = 0 then [] else [44, 32]) ++ showC l[i] := by
  unfold showL
  rw [List.take_add_one, List.getElem?_eq_getElem h]
  by_cases h0 : i = 0
  · subst h0
    simp [Lib.join, List.intercalate]
  · rw [if_neg h0, List.map_append]
    show Lib.join ((l.take i).map showC ++ [showC l[i]]) [44, 32] = _
    rw [join_snoc _ _ (by intro e; have e2 := congrArg List.length e; rw [List.length_map, List.length_take, List.length_nil] at e2; omega), List.append_assoc]
end Go.Proofs.YtabnjiepmhblaaaDoor

/-! The document's Show of a schema. -/
namespace Go.Proofs.YtabnjiepmhblaaaDoor
open Go.RowKit
set_option linter.unusedVariables false

theorem showL_len {l : List Col} (h : rightC l = true) (i : Nat) : (showL (l.take i)).length ≤ 600 := by
  have hlen : l.length ≤ 16 := by
    apply Classical.byContradiction
    intro h2
    rw [rightC_len (by omega)] at h
    cases h
  have := joins_len [44, 32] 34 ((l.take i).map showC) (fun x hx => by
    obtain ⟨c, hc, rfl⟩ := List.mem_map.1 hx
    exact showC_len (cols_ok h c (List.mem_of_mem_take hc)))
  rw [List.length_map, List.length_take] at this
  unfold showL
  have h3 : min i l.length ≤ 16 := by omega
  have h4 : min i l.length * (34 + [44, 32].length) ≤ 16 * 36 := Nat.mul_le_mul h3 (by simp)
  omega
theorem bsz (l : List UInt8) : (⟨l.toArray⟩ : ByteArray).size = l.length := by simp [ByteArray.size]
theorem bapp (a b : List UInt8) : (⟨a.toArray⟩ : ByteArray) ++ ⟨b.toArray⟩ = ⟨(a ++ b).toArray⟩ := by simp [ByteArray.ext_iff]
theorem bname (n : ByteArray) : n = ⟨n.data.toList.toArray⟩ := by simp

set_option maxRecDepth 100000 in
set_option maxHeartbeats 8000000 in
theorem refshow_ok (A : Option Addr) (cap : Nat) (l : List Col) (W : World) (hl : Cols W A l) (hr : rightC l = true) :
    Calls Tryd.prog 7 #[.slice A l.length cap] W fun e W' => e = .returned (.tuple #[.string ⟨(showL l).toArray⟩, .int .i64 0]) ∧ Below W.heap.size W W' := by
  have hlen : 1 ≤ l.length ∧ l.length ≤ 16 := by
    apply Classical.byContradiction
    intro h
    rw [rightC_len h] at hr
    cases hr
  have hri := refrightC_any A cap l W hl (by omega)
  rw [hr] at hri
  have HRI := Lib.hid hri
  have HL := Lib.hid hl
  have HOK := Lib.hid (cols_ok hr)
  have HSL := Lib.hid (showL_len hr)
  have hfin : showL l = showL (l.take l.length) := by rw [List.take_length]
  rw [hfin]
  have HST := Lib.hid (showL_step l)
  have h0 : showL (l.take 0) = [] := rfl
  generalize hS : (fun i => showL (l.take i)) = S
  have hSS : ∀ i, showL (l.take i) = S i := fun i => by rw [← hS]
  simp only [hSS] at HST HSL h0 ⊢
  have HS0 := Lib.hid h0
  clear hri hl hr hfin h0 hS hSS
  obtain ⟨n, hn⟩ : ∃ n, l.length = n := ⟨_, rfl⟩
  rw [hn] at HRI hlen ⊢
  have HN := Lib.hid hn
  clear hn
  go_enter Tryd.func7, Tryd.ntmps7
  go_wp2_with (first | (go_at_call 20; refine HRI.out.mono ?_; rintro e w1 ⟨rfl, rfl⟩; clear HRI))
  go_loopw [5, 6] (fun x5 x6 wr => ∃ i : Nat, i ≤ n ∧ x6 = .int .i64 i ∧ x5 = .string ⟨(S i).toArray⟩ ∧ Below W.heap.size W wr) (fun _ x _ => n - (intOf x).toNat)
  case atStart => exact ⟨0, by omega, rfl, by rw [HS0.out], Below.refl _ _⟩
  case round =>
    obtain ⟨i, hi, rfl, rfl, hbel⟩ := hrel
    have HBEL := Lib.hid hbel
    by_cases hlt : i < n
    · have h1 : i < l.length := by rw [HN.out]; exact hlt
      obtain ⟨b, o, rfl, hcb⟩ := HL.out i h1
      obtain ⟨c0, c1, c2⟩ := hcb.keep hbel hcb.lt
      have HK : Hid (i < n) := hlt
      have hxo := encC_len (HOK.out _ (List.getElem_mem h1))
      have hst := HST.out i h1
      rw [showC_eq] at hst
      unfold tailT at hst
      rw [kindT_word] at hst
      have hsl := HSL.out i
      have hkc := fun w => kinds_any l[i].kind ⟨hxo.2.2.1, hxo.2.2.2⟩ w
      have hwl : (wordT l[i].kind).length ≤ 4 := by
        by_cases a1 : l[i].kind = 1
        · simp [wordT, a1]
        · by_cases a2 : l[i].kind = 2
          · simp [wordT, a2]
          · simp [wordT, a1, a2]
      obtain ⟨nm, hnm⟩ : ∃ nm, l[i].name.data.toList = nm := ⟨_, rfl⟩
      have hnb : l[i].name = ⟨nm.toArray⟩ := by rw [← hnm]
      have hnl : nm.length ≤ 24 := by rw [← hnm, sz_list]; exact hxo.2.1
      rw [hnb] at c0
      rw [hnm] at hst
      generalize wordT l[i].kind = wd at hst hkc hwl
      generalize l[i].kind = kd at c1 hkc
      generalize l[i].null = cn at c2 hst
      clear hxo hnb hnm hcb hbel
      obtain ⟨P, hP⟩ : ∃ P, S i ++ (if i = 0 then [] else [44, 32]) = P := ⟨_, rfl⟩
      have hPl : P.length ≤ 602 := by
        rw [← hP, List.length_append]
        by_cases a0 : i = 0
        · rw [if_pos a0, List.length_nil]; omega
        · rw [if_neg a0, List.length_cons, List.length_cons, List.length_nil]; omega
      rw [hP] at hst
      have HST2 := Lib.hid hst
      have HKC := Lib.hid hkc
      clear hst hkc
      obtain ⟨s0, hs0⟩ : ∃ x : ByteArray, (⟨(S i).toArray⟩ : ByteArray) = x := ⟨_, rfl⟩
      obtain ⟨pp, hpp⟩ : ∃ x : ByteArray, (⟨P.toArray⟩ : ByteArray) = x := ⟨_, rfl⟩
      obtain ⟨nb, hnb⟩ : ∃ x : ByteArray, (⟨nm.toArray⟩ : ByteArray) = x := ⟨_, rfl⟩
      obtain ⟨wb, hwb⟩ : ∃ x : ByteArray, (⟨wd.toArray⟩ : ByteArray) = x := ⟨_, rfl⟩
      have k0 : s0.size ≤ 600 := by rw [← hs0, bsz]; exact hsl
      have k1 : pp.size ≤ 602 := by rw [← hpp, bsz]; exact hPl
      have k2 : nb.size ≤ 24 := by rw [← hnb, bsz]; exact hnl
      have k3 : wb.size ≤ 4 := by rw [← hwb, bsz]; exact hwl
      obtain ⟨p1, z1⟩ : ∃ x, pp ++ nb = x := ⟨_, rfl⟩
      obtain ⟨p2, z2⟩ : ∃ x, p1 ++ (⟨#[32]⟩ : ByteArray) = x := ⟨_, rfl⟩
      obtain ⟨p3, z3⟩ : ∃ x, p2 ++ wb = x := ⟨_, rfl⟩
      obtain ⟨p4, z4⟩ : ∃ x, p3 ++ (⟨#[32, 110, 117, 108, 108]⟩ : ByteArray) = x := ⟨_, rfl⟩
      have e1 : p1 = ⟨(P ++ nm).toArray⟩ := by rw [← z1, ← hpp, ← hnb]; exact bapp _ _
      have e2 : p2 = ⟨(P ++ nm ++ [32]).toArray⟩ := by rw [← z2, e1]; exact bapp _ [32]
      have e3 : p3 = ⟨(P ++ nm ++ [32] ++ wd).toArray⟩ := by rw [← z3, e2, ← hwb]; exact bapp _ _
      have e4 : p4 = ⟨(P ++ nm ++ [32] ++ wd ++ [32, 110, 117, 108, 108]).toArray⟩ := by rw [← z4, e3]; exact bapp _ [32, 110, 117, 108, 108]
      have s1 : p1.size ≤ 626 := by rw [e1, bsz, List.length_append]; omega
      have s2 : p2.size ≤ 627 := by rw [e2, bsz, List.length_append, List.length_append]; simp; omega
      have s3 : p3.size ≤ 631 := by rw [e3, bsz, List.length_append, List.length_append, List.length_append]; simp; omega
      have HE3 : Hid (cn = false → p3 = ⟨(S (i + 1)).toArray⟩) := fun h => by rw [e3, HST2.out, h]; simp
      have HE4 : Hid (cn = true → p4 = ⟨(S (i + 1)).toArray⟩) := fun h => by rw [e4, HST2.out, h]; simp
      have q0 : ¬ 9223372036854775807 < s0.size + 2 := by omega
      have q1 : ¬ 9223372036854775807 < pp.size + nb.size := by omega
      have q2 : ¬ 9223372036854775807 < p1.size + 1 := by omega
      have q3 : ¬ 9223372036854775807 < p2.size + wb.size := by omega
      have q4 : ¬ 9223372036854775807 < p3.size + 5 := by omega
      have HKC2 : Hid (∀ w, Calls Tryd.prog 21 #[.int .i64 kd] w fun e w' => e = .returned (.string wb) ∧ Below w.heap.size w w') := by show ∀ w, _; rw [← hwb]; exact HKC.out
      have hz0 : (if i = 0 then s0 = pp else s0 ++ (⟨#[44, 32]⟩ : ByteArray) = pp) := by
        by_cases hi0 : i = 0
        · rw [if_pos hi0, ← hs0, ← hpp, ← hP, if_pos hi0, List.append_nil]
        · rw [if_neg hi0, ← hs0, ← hpp, ← hP, if_neg hi0]; exact bapp _ [44, 32]
      rw [hnb] at c0
      rw [hs0]
      clear hs0 hpp hnb hwb e1 e2 e3 e4 hP HST2 HKC hsl hPl hnl hwl h1
      by_cases hi0 : i = 0
      · rw [if_pos hi0] at hz0
        have hgt : ¬ (0 : Int) < (i : Int) := by omega
        clear hi0
        subst hz0
        go_upto_region 10 with (fail)
        have HB0 := Lib.hid HBEL.out.drew
        have d0 : World.cell? wr.drew ⟨b, o + i * 3, none⟩ = some (.string nb) := c0
        have d1 : World.cell? wr.drew ⟨b, o + i * 3 + 1, none⟩ = some (.int .i64 kd) := c1
        have d2 : World.cell? wr.drew ⟨b, o + i * 3 + 2, none⟩ = some (.bool cn) := c2
        clear c0 c1 c2
        refine wpB_start 16 (by kernel_rfl) rfl (fun R HR => ?_)
        refine wpB_take HR (i := 0) rfl (by decide +kernel) (by decide +kernel) (by decide +kernel) (fun _ _ _ h => h) (by rfl) (fun W hW => by rfl) ?_
        go_simp
        refine wpB_take HR (i := 1) rfl (by decide +kernel) (by decide +kernel) (by decide +kernel) (fun _ _ _ h => h) (by rfl) (fun W hW => by rfl) ?_
        go_simp
        refine wpB_take HR (i := 2) rfl (by decide +kernel) (by decide +kernel) (by decide +kernel) (fun _ _ _ h => h) (by rfl) (fun W hW => by rfl) ?_
        go_simp
        refine wpB_take HR (i := 3) (v := .pointer (some ⟨b, o + i * 3, none⟩)) rfl (by decide +kernel) (by decide +kernel) (by decide +kernel) (fun _ _ _ h => h) (by rfl) (fun W hW => by first | (go_simp; done) | (go_simp; intro hx; exact absurd hx (by omega)) | (go_simp; rw [if_pos ⟨by omega, by omega⟩]; done)) ?_
        go_simp
        refine wpB_take HR (i := 4) rfl (by decide +kernel) (by decide +kernel) (by decide +kernel) (fun _ _ _ h => h) (by rfl) (fun W hW => by rfl) ?_
        go_simp
        refine wpB_take HR (i := 5) (v := .string nb) rfl (by decide +kernel) (by decide +kernel) (by decide +kernel) (fun _ _ _ h => h) (by rfl) (fun W hW => by have q := cell_below hW d0; go_simp) ?_
        go_simp
        refine wpB_take HR (i := 6) (v := .string p1) rfl (by decide +kernel) (by decide +kernel) (by decide +kernel) (fun _ _ _ h => h) (by rfl) (fun W hW => by go_simp) ?_
        go_simp
        refine wpB_take HR (i := 7) (v := .string p2) rfl (by decide +kernel) (by decide +kernel) (by decide +kernel) (fun _ _ _ h => h) (by rfl) (fun W hW => by go_simp) ?_
        go_simp
        refine wpB_take HR (i := 8) rfl (by decide +kernel) (by decide +kernel) (by decide +kernel) (fun _ _ _ h => h) (by rfl) (fun W hW => by rfl) ?_
        go_simp
        refine wpB_take HR (i := 9) rfl (by decide +kernel) (by decide +kernel) (by decide +kernel) (fun _ _ _ h => h) (by rfl) (fun W hW => by rfl) ?_
        go_simp
        refine wpB_take HR (i := 10) (v := .pointer (some ⟨b, o + i * 3, none⟩)) rfl (by decide +kernel) (by decide +kernel) (by decide +kernel) (fun _ _ _ h => h) (by rfl) (fun W hW => by first | (go_simp; done) | (go_simp; intro hx; exact absurd hx (by omega)) | (go_simp; rw [if_pos ⟨by omega, by omega⟩]; done)) ?_
        go_simp
        refine wpB_take HR (i := 11) rfl (by decide +kernel) (by decide +kernel) (by decide +kernel) (fun _ _ _ h => h) (by rfl) (fun W hW => by rfl) ?_
        go_simp
        refine wpB_take HR (i := 12) (v := .int .i64 kd) rfl (by decide +kernel) (by decide +kernel) (by decide +kernel) (fun _ _ _ h => h) (by rfl) (fun W hW => by have q := cell_below hW d1; go_simp) ?_
        go_simp
        refine wpB_call HR (i := 13) rfl (by decide +kernel) (by rfl) (by go_simp; exact ⟨rfl, rfl⟩) ?_
        refine (HKC2.out _).mono ?_
        rintro e w2 ⟨rfl, hb2⟩
        refine ⟨_, rfl, hb2, ?_⟩
        have f2 := cell_below hb2 d2
        have HB2 := Lib.hid (HB0.out.trans (hb2.mono HB0.out.size))
        clear hb2 d0 d1 d2
        go_simp
        refine wpB_take HR (i := 14) (v := .string p3) rfl (by decide +kernel) (by decide +kernel) (by decide +kernel) (fun _ _ _ h => h) (by rfl) (fun W hW => by go_simp) ?_
        go_simp
        refine wpB_take HR (i := 15) rfl (by decide +kernel) (by decide +kernel) (by decide +kernel) (fun _ _ _ h => h) (by rfl) (fun W hW => by rfl) ?_
        go_simp
        refine wpB_done HR (by decide +kernel) ?_
        cases cn with
        | true =>
          have HX := Lib.hid (HE4.out rfl)
          go_wp2
          go_roundw
          case rel => exact ⟨i + 1, HK.out, by go_num, by rw [HX.out], HB2.out⟩
          case measure => have := HK.out; simp [intOf]; omega
        | false =>
          have HX := Lib.hid (HE3.out rfl)
          go_wp2
          go_roundw
          case rel => exact ⟨i + 1, HK.out, by go_num, by rw [HX.out], HB2.out⟩
          case measure => have := HK.out; simp [intOf]; omega
      · rw [if_neg hi0] at hz0
        have hgt : (0 : Int) < (i : Int) := by omega
        clear hi0
        go_upto_region 10 with (fail)
        have HB0 := Lib.hid HBEL.out.drew
        have d0 : World.cell? wr.drew ⟨b, o + i * 3, none⟩ = some (.string nb) := c0
        have d1 : World.cell? wr.drew ⟨b, o + i * 3 + 1, none⟩ = some (.int .i64 kd) := c1
        have d2 : World.cell? wr.drew ⟨b, o + i * 3 + 2, none⟩ = some (.bool cn) := c2
        clear c0 c1 c2
        refine wpB_start 16 (by kernel_rfl) rfl (fun R HR => ?_)
        refine wpB_take HR (i := 0) rfl (by decide +kernel) (by decide +kernel) (by decide +kernel) (fun _ _ _ h => h) (by rfl) (fun W hW => by rfl) ?_
        go_simp
        refine wpB_take HR (i := 1) rfl (by decide +kernel) (by decide +kernel) (by decide +kernel) (fun _ _ _ h => h) (by rfl) (fun W hW => by rfl) ?_
        go_simp
        refine wpB_take HR (i := 2) rfl (by decide +kernel) (by decide +kernel) (by decide +kernel) (fun _ _ _ h => h) (by rfl) (fun W hW => by rfl) ?_
        go_simp
        refine wpB_take HR (i := 3) (v := .pointer (some ⟨b, o + i * 3, none⟩)) rfl (by decide +kernel) (by decide +kernel) (by decide +kernel) (fun _ _ _ h => h) (by rfl) (fun W hW => by first | (go_simp; done) | (go_simp; intro hx; exact absurd hx (by omega)) | (go_simp; rw [if_pos ⟨by omega, by omega⟩]; done)) ?_
        go_simp
        refine wpB_take HR (i := 4) rfl (by decide +kernel) (by decide +kernel) (by decide +kernel) (fun _ _ _ h => h) (by rfl) (fun W hW => by rfl) ?_
        go_simp
        refine wpB_take HR (i := 5) (v := .string nb) rfl (by decide +kernel) (by decide +kernel) (by decide +kernel) (fun _ _ _ h => h) (by rfl) (fun W hW => by have q := cell_below hW d0; go_simp) ?_
        go_simp
        refine wpB_take HR (i := 6) (v := .string p1) rfl (by decide +kernel) (by decide +kernel) (by decide +kernel) (fun _ _ _ h => h) (by rfl) (fun W hW => by go_simp) ?_
        go_simp
        refine wpB_take HR (i := 7) (v := .string p2) rfl (by decide +kernel) (by decide +kernel) (by decide +kernel) (fun _ _ _ h => h) (by rfl) (fun W hW => by go_simp) ?_
        go_simp
        refine wpB_take HR (i := 8) rfl (by decide +kernel) (by decide +kernel) (by decide +kernel) (fun _ _ _ h => h) (by rfl) (fun W hW => by rfl) ?_
        go_simp
        refine wpB_take HR (i := 9) rfl (by decide +kernel) (by decide +kernel) (by decide +kernel) (fun _ _ _ h => h) (by rfl) (fun W hW => by rfl) ?_
        go_simp
        refine wpB_take HR (i := 10) (v := .pointer (some ⟨b, o + i * 3, none⟩)) rfl (by decide +kernel) (by decide +kernel) (by decide +kernel) (fun _ _ _ h => h) (by rfl) (fun W hW => by first | (go_simp; done) | (go_simp; intro hx; exact absurd hx (by omega)) | (go_simp; rw [if_pos ⟨by omega, by omega⟩]; done)) ?_
        go_simp
        refine wpB_take HR (i := 11) rfl (by decide +kernel) (by decide +kernel) (by decide +kernel) (fun _ _ _ h => h) (by rfl) (fun W hW => by rfl) ?_
        go_simp
        refine wpB_take HR (i := 12) (v := .int .i64 kd) rfl (by decide +kernel) (by decide +kernel) (by decide +kernel) (fun _ _ _ h => h) (by rfl) (fun W hW => by have q := cell_below hW d1; go_simp) ?_
        go_simp
        refine wpB_call HR (i := 13) rfl (by decide +kernel) (by rfl) (by go_simp; exact ⟨rfl, rfl⟩) ?_
        refine (HKC2.out _).mono ?_
        rintro e w2 ⟨rfl, hb2⟩
        refine ⟨_, rfl, hb2, ?_⟩
        have f2 := cell_below hb2 d2
        have HB2 := Lib.hid (HB0.out.trans (hb2.mono HB0.out.size))
        clear hb2 d0 d1 d2
        go_simp
        refine wpB_take HR (i := 14) (v := .string p3) rfl (by decide +kernel) (by decide +kernel) (by decide +kernel) (fun _ _ _ h => h) (by rfl) (fun W hW => by go_simp) ?_
        go_simp
        refine wpB_take HR (i := 15) rfl (by decide +kernel) (by decide +kernel) (by decide +kernel) (fun _ _ _ h => h) (by rfl) (fun W hW => by rfl) ?_
        go_simp
        refine wpB_done HR (by decide +kernel) ?_
        cases cn with
        | true =>
          have HX := Lib.hid (HE4.out rfl)
          go_wp2
          go_roundw
          case rel => exact ⟨i + 1, HK.out, by go_num, by rw [HX.out], HB2.out⟩
          case measure => have := HK.out; simp [intOf]; omega
        | false =>
          have HX := Lib.hid (HE3.out rfl)
          go_wp2
          go_roundw
          case rel => exact ⟨i + 1, HK.out, by go_num, by rw [HX.out], HB2.out⟩
          case measure => have := HK.out; simp [intOf]; omega
    · obtain rfl : i = n := by omega
      go_wp2
      go_ret2
      exact ⟨rfl, HBEL.out⟩
end Go.Proofs.YtabnjiepmhblaaaDoor
