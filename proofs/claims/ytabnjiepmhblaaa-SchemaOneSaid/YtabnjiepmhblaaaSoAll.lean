/- Joined: What is taken off bytes is what is laid: schemas and rows. The walk of SchemaOne. -/
import Derived.Test.YtabnjiepmhblaaaRwAll
/-! What is taken off bytes is what is laid: schemas and rows. -/
namespace Go.Proofs.Ytabnjiepmhblaaa
open Go.RowKit
set_option linter.unusedVariables false

/-- The bytes from i to j. -/
def seg (l : List UInt8) (i j : Nat) : List UInt8 := (l.drop i).take (j - i)
theorem seg_app (l : List UInt8) {i j k : Nat} (h1 : i ≤ j) (h2 : j ≤ k) : seg l i j ++ seg l j k = seg l i k := by
  unfold seg
  have e : l.drop j = (l.drop i).drop (j - i) := by rw [List.drop_drop]; congr 1; omega
  rw [e, show k - i = (j - i) + (k - j) by omega, List.take_add]
theorem seg_one (l : List UInt8) {i : Nat} (h : i < l.length) : seg l i (i + 1) = [l[i]] := by
  unfold seg
  rw [show i + 1 - i = 1 by omega, List.drop_eq_getElem_cons h]
  rfl
theorem seg_nil (l : List UInt8) (i : Nat) : seg l i i = [] := by simp [seg]
theorem seg_zero (l : List UInt8) (j : Nat) : seg l 0 j = l.take j := by simp [seg]
theorem num_seg {l : List UInt8} {i n c : Nat} (h : takeO l (i : Int) = some (n, c)) : n < 18446744073709551616 ∧ i + c ≤ l.length ∧ seg l i (i + c) = num n := by
  have hi := takeO_in h
  have hn := take_lt h
  unfold takeO at h
  rw [if_pos (by omega), Int.toNat_natCast] at h
  obtain ⟨v, e, _, _, _, hc, ht⟩ := decF_form 10 0 0 (l.drop i) n c rfl (by simp) h
  have ev : v = n := by rw [e]; simp
  subst ev
  rw [Nat.sub_zero] at ht
  refine ⟨hn, by omega, ?_⟩
  unfold seg
  rw [show i + c - i = c by omega]
  exact ht
theorem text_seg {l : List UInt8} {i : Nat} {p most : Int} {t : List UInt8} (h : textO l (i : Int) most = some (t, p)) : ∃ P : Nat, p = P ∧ i ≤ P ∧ P ≤ l.length ∧ seg l i P = num t.length ++ t := by
  unfold textO at h
  cases ht : takeO l (i : Int) with
  | none => rw [ht] at h; cases h
  | some x =>
    obtain ⟨n, c⟩ := x
    rw [ht] at h
    simp only at h
    by_cases hc : 1048576 < n ∨ most < (n : Int) ∨ (l.length : Int) - ((i : Int) + c) < n
    · rw [if_pos hc] at h; cases h
    · rw [if_neg hc] at h
      simp only [Option.some.injEq, Prod.mk.injEq] at h
      obtain ⟨rfl, rfl⟩ := h
      obtain ⟨_, h2, h3⟩ := num_seg ht
      refine ⟨i + c + n, by omega, by omega, by omega, ?_⟩
      have hl : ((l.drop ((i : Int) + (c : Int)).toNat).take n).length = n := by rw [List.length_take, List.length_drop]; omega
      rw [hl, ← seg_app l (show i ≤ i + c by omega) (show i + c ≤ i + c + n by omega), h3]
      congr 1
      unfold seg
      rw [show i + c + n - (i + c) = n by omega, show ((i : Int) + (c : Int)).toNat = i + c by omega]
theorem toNat_of (c : UInt8) : UInt8.ofNat c.toNat = c := by simp
theorem val_seg {l : List UInt8} {i : Nat} {k n p : Int} {s : ByteArray} (h : V4.valO l (i : Int) = some (k, n, s, p)) : ∃ P : Nat, p = P ∧ i ≤ P ∧ P ≤ l.length ∧ seg l i P = V4.encV k n s.data.toList := by
  have hin : i < l.length := by
    apply Classical.byContradiction
    intro hh
    rw [V4.valO_out (by omega)] at h
    cases h
  rw [V4.valO_in hin] at h
  have h1 := seg_one l hin
  split at h
  · rename_i hx
    injection hx with hx
    simp only [Option.some.injEq, Prod.mk.injEq] at h
    obtain ⟨rfl, rfl, rfl, rfl⟩ := h
    exact ⟨i + 1, by omega, by omega, by omega, by rw [h1, hx]; rfl⟩
  · rename_i hx
    injection hx with hx
    split at h
    · rename_i m c ht
      simp only [Option.some.injEq, Prod.mk.injEq] at h
      obtain ⟨rfl, rfl, rfl, rfl⟩ := h
      have ht' : takeO l ((i + 1 : Nat) : Int) = some (m, c) := by rw [← ht]; congr 1
      obtain ⟨_, h2, h3⟩ := num_seg ht'
      refine ⟨i + 1 + c, by omega, by omega, by omega, ?_⟩
      rw [← seg_app l (show i ≤ i + 1 by omega) (show i + 1 ≤ i + 1 + c by omega), h1, h3, hx]
      show (1 : UInt8) :: num m = (1 : UInt8) :: num (zig (zag m))
      rw [zig_zag]
    · cases h
  · rename_i hx
    injection hx with hx
    split at h
    · rename_i c hc
      split at h
      · rename_i hc1
        simp only [Option.some.injEq, Prod.mk.injEq] at h
        obtain ⟨rfl, rfl, rfl, rfl⟩ := h
        obtain ⟨h2, h3⟩ := List.getElem?_eq_some_iff.1 hc
        refine ⟨i + 1 + 1, by omega, by omega, by omega, ?_⟩
        rw [← seg_app l (show i ≤ i + 1 by omega) (show i + 1 ≤ i + 1 + 1 by omega), h1, seg_one l h2, hx, h3]
        show [(2 : UInt8)] ++ [c] = (2 : UInt8) :: [UInt8.ofNat ((c.toNat : Int)).toNat]
        rw [Int.toNat_natCast, toNat_of]
        rfl
      · cases h
    · cases h
  · rename_i hx
    injection hx with hx
    split at h
    · rename_i t q ht
      simp only [Option.some.injEq, Prod.mk.injEq] at h
      obtain ⟨rfl, rfl, rfl, rfl⟩ := h
      have ht' : textO l ((i + 1 : Nat) : Int) 1024 = some (t, q) := by rw [← ht]; congr 1
      obtain ⟨P, hP, h2, h3, h4⟩ := text_seg ht'
      refine ⟨P, hP, by omega, h3, ?_⟩
      rw [← seg_app l (show i ≤ i + 1 by omega) h2, h1, h4, hx]
      simp [V4.encV, str]
    · cases h
  · cases h
theorem takeV_seg {l : List UInt8} {i : Nat} {p : Int} {v : Vl} (h : takeV l (i : Int) = some (v, p)) : ∃ P : Nat, p = P ∧ i ≤ P ∧ P ≤ l.length ∧ seg l i P = encVl v := by
  unfold takeV at h
  split at h
  · cases h
  · rename_i k n s q hv
    simp only [Option.some.injEq, Prod.mk.injEq] at h
    obtain ⟨rfl, rfl⟩ := h
    exact val_seg hv
theorem takeVs_seg {l : List UInt8} {i : Nat} (hi : i ≤ l.length) : ∀ {k : Nat} {r : List Vl} {p : Int}, takeVs l (i : Int) k = some (r, p) → ∃ P : Nat, p = P ∧ i ≤ P ∧ P ≤ l.length ∧ seg l i P = r.flatMap encVl
  | 0, r, p, h => by
    simp only [takeVs, Option.some.injEq, Prod.mk.injEq] at h
    obtain ⟨rfl, rfl⟩ := h
    exact ⟨i, rfl, Nat.le_refl _, hi, by rw [seg_nil]; rfl⟩
  | k + 1, r, p, h => by
    simp only [takeVs] at h
    cases h1 : takeVs l (i : Int) k with
    | none => rw [h1] at h; cases h
    | some x =>
      obtain ⟨r1, p1⟩ := x
      rw [h1] at h
      simp only at h
      obtain ⟨P1, rfl, a1, a2, a3⟩ := takeVs_seg hi h1
      cases h2 : takeV l (P1 : Int) with
      | none => rw [h2] at h; cases h
      | some y =>
        obtain ⟨c, q⟩ := y
        rw [h2] at h
        simp only [Option.some.injEq, Prod.mk.injEq] at h
        obtain ⟨rfl, rfl⟩ := h
        obtain ⟨P, rfl, b1, b2, b3⟩ := takeV_seg h2
        exact ⟨P, rfl, by omega, b2, by rw [← seg_app l a1 b1, a3, b3]; simp⟩
theorem takeRs_seg {cols : List Col} {l : List UInt8} {i : Nat} (hi : i ≤ l.length) : ∀ {k : Nat} {rs : List (List Vl)} {p : Int}, takeRs cols l (i : Int) k = some (rs, p) → ∃ P : Nat, p = P ∧ i ≤ P ∧ P ≤ l.length ∧ seg l i P = rs.flatMap encRow
  | 0, r, p, h => by
    simp only [takeRs, Option.some.injEq, Prod.mk.injEq] at h
    obtain ⟨rfl, rfl⟩ := h
    exact ⟨i, rfl, Nat.le_refl _, hi, by rw [seg_nil]; rfl⟩
  | k + 1, r, p, h => by
    simp only [takeRs] at h
    cases h1 : takeRs cols l (i : Int) k with
    | none => rw [h1] at h; cases h
    | some x =>
      obtain ⟨r1, p1⟩ := x
      rw [h1] at h
      simp only at h
      obtain ⟨P1, rfl, a1, a2, a3⟩ := takeRs_seg hi h1
      cases h2 : takeVs l (P1 : Int) cols.length with
      | none => rw [h2] at h; cases h
      | some y =>
        obtain ⟨c, q⟩ := y
        rw [h2] at h
        simp only at h
        by_cases hf : fitsL cols c = true
        · rw [if_pos hf] at h
          simp only [Option.some.injEq, Prod.mk.injEq] at h
          obtain ⟨rfl, rfl⟩ := h
          obtain ⟨P, rfl, b1, b2, b3⟩ := takeVs_seg a2 h2
          exact ⟨P, rfl, by omega, b2, by rw [← seg_app l a1 b1, a3, b3]; simp [encRow]⟩
        · rw [if_neg hf] at h; cases h
theorem takeRw_back {cols : List Col} {l : List UInt8} {p : Int} {rs : List (List Vl)} (h : takeRw cols l 0 = some (rs, p)) : rowsE cols rs = 0 ∧ ∃ P : Nat, p = P ∧ P ≤ l.length ∧ rowsD [] cols rs = l.take P := by
  unfold takeRw at h
  by_cases hr : rightC cols = false
  · rw [if_pos hr] at h; cases h
  · rw [if_neg hr] at h
    have hr2 : rightC cols = true := by simpa using hr
    cases ht : takeO l 0 with
    | none => rw [ht] at h; cases h
    | some x =>
      obtain ⟨n, c⟩ := x
      rw [ht] at h
      simp only at h
      by_cases h16 : 1024 < n
      · rw [if_pos h16] at h; cases h
      · rw [if_neg h16] at h
        obtain ⟨_, h2, h3⟩ := num_seg (i := 0) ht
        have h' : takeRs cols l ((c : Nat) : Int) n = some (rs, p) := by rw [← h]; congr 1; omega
        obtain ⟨P, rfl, a1, a2, a3⟩ := takeRs_seg (by omega) h'
        have hf := takeRs_form (by omega) h'
        have hall := takeRs_fits h'
        refine ⟨?_, P, rfl, a2, ?_⟩
        · unfold rowsE; rw [if_pos hr2, if_pos ⟨by omega, hall⟩]
        · unfold rowsD
          rw [if_pos ⟨hr2, by omega, hall⟩, List.nil_append, ← seg_zero, hf.1, ← a3, ← h3, Nat.zero_add]
          exact seg_app l (Nat.zero_le _) a1
theorem takeC_seg {l : List UInt8} {i : Nat} {p : Int} {c : Col} (h : takeC l (i : Int) = some (c, p)) : ∃ P : Nat, p = P ∧ i ≤ P ∧ P ≤ l.length ∧ seg l i P = encC c := by
  unfold takeC at h
  cases ht : textO l (i : Int) 24 with
  | none => rw [ht] at h; cases h
  | some x =>
    obtain ⟨t, q⟩ := x
    have hf := textO_form ht
    obtain ⟨P, rfl, a1, a2, a3⟩ := text_seg ht
    rw [ht] at h
    simp only [Int.toNat_natCast] at h
    by_cases hp : (l.length : Int) < (P : Int) + 2
    · rw [if_pos hp] at h; cases h
    · rw [if_neg hp] at h
      by_cases hg : 1 < (l.getD (P + 1) 0).toNat
      · rw [if_pos hg] at h; cases h
      · rw [if_neg hg] at h
        simp only [Option.some.injEq, Prod.mk.injEq] at h
        obtain ⟨rfl, rfl⟩ := h
        have q0 : l.getD P 0 = l[P]'(by omega) := by simp [List.getD, List.getElem?_eq_getElem (show P < l.length by omega)]
        have q1 : l.getD (P + 1) 0 = l[P + 1]'(by omega) := by simp [List.getD, List.getElem?_eq_getElem (show P + 1 < l.length by omega)]
        rw [q1] at hg
        refine ⟨P + 1 + 1, by omega, by omega, by omega, ?_⟩
        rw [← seg_app l a1 (show P ≤ P + 1 + 1 by omega), ← seg_app l (show P ≤ P + 1 by omega) (show P + 1 ≤ P + 1 + 1 by omega), seg_one l (by omega), seg_one l (by omega), a3, q0, q1]
        have htk : t.take 24 = t := List.take_of_length_le (by omega)
        have hnb : nullB (l[P + 1]'(by omega) == 1) = l[P + 1]'(by omega) := by
          generalize l[P + 1]'(by omega) = nb at hg
          have : nb = 0 ∨ nb = 1 := by
            rcases Nat.lt_or_ge nb.toNat 1 with h | h
            · exact .inl (UInt8.toNat_inj.1 (by show nb.toNat = 0; omega))
            · exact .inr (UInt8.toNat_inj.1 (by show nb.toNat = 1; omega))
          rcases this with rfl | rfl <;> rfl
        unfold encC colOf
        simp only [htk, Int.toNat_natCast, toNat_of, hnb, strT_len]
        simp [str]
theorem takeCs_seg {l : List UInt8} {i : Nat} (hi : i ≤ l.length) : ∀ {k : Nat} {r : List Col} {p : Int}, takeCs l (i : Int) k = some (r, p) → ∃ P : Nat, p = P ∧ i ≤ P ∧ P ≤ l.length ∧ seg l i P = r.flatMap encC
  | 0, r, p, h => by
    simp only [takeCs, Option.some.injEq, Prod.mk.injEq] at h
    obtain ⟨rfl, rfl⟩ := h
    exact ⟨i, rfl, Nat.le_refl _, hi, by rw [seg_nil]; rfl⟩
  | k + 1, r, p, h => by
    simp only [takeCs] at h
    cases h1 : takeCs l (i : Int) k with
    | none => rw [h1] at h; cases h
    | some x =>
      obtain ⟨r1, p1⟩ := x
      rw [h1] at h
      simp only at h
      obtain ⟨P1, rfl, a1, a2, a3⟩ := takeCs_seg hi h1
      cases h2 : takeC l (P1 : Int) with
      | none => rw [h2] at h; cases h
      | some y =>
        obtain ⟨c, q⟩ := y
        rw [h2] at h
        simp only [Option.some.injEq, Prod.mk.injEq] at h
        obtain ⟨rfl, rfl⟩ := h
        obtain ⟨P, rfl, b1, b2, b3⟩ := takeC_seg h2
        exact ⟨P, rfl, by omega, b2, by rw [← seg_app l a1 b1, a3, b3]; simp⟩
theorem takeS_back {l : List UInt8} {p : Int} {r : List Col} (h : takeS l 0 = some (r, p)) : layE r = 0 ∧ ∃ P : Nat, p = P ∧ P ≤ l.length ∧ layD [] r = l.take P := by
  unfold takeS at h
  cases ht : takeO l 0 with
  | none => rw [ht] at h; cases h
  | some x =>
    obtain ⟨n, c⟩ := x
    rw [ht] at h
    simp only at h
    by_cases h16 : 16 < n
    · rw [if_pos h16] at h; cases h
    · rw [if_neg h16] at h
      obtain ⟨_, h2, h3⟩ := num_seg (i := 0) ht
      cases hc : takeCs l (0 + (c : Int)) n with
      | none => rw [hc] at h; cases h
      | some y =>
        obtain ⟨r1, q⟩ := y
        rw [hc] at h
        simp only at h
        have hc' : takeCs l ((c : Nat) : Int) n = some (r1, q) := by rw [← hc]; congr 1; omega
        obtain ⟨P, rfl, a1, a2, a3⟩ := takeCs_seg (by omega) hc'
        have hf := takeCs_form (by omega) hc'
        by_cases hr : rightC r1 = true
        · rw [if_pos hr] at h
          simp only [Option.some.injEq, Prod.mk.injEq] at h
          obtain ⟨rfl, rfl⟩ := h
          refine ⟨by unfold layE; rw [if_pos hr], P, rfl, a2, ?_⟩
          unfold layD layC
          rw [if_pos hr, List.nil_append, ← seg_zero, hf.1, ← a3, ← h3, Nat.zero_add]
          exact seg_app l (Nat.zero_le _) a1
        · rw [if_neg hr] at h; cases h
end Go.Proofs.Ytabnjiepmhblaaa

/-! The walk of SchemaOne. -/
namespace Go.Proofs.Ytabnjiepmhblaaa
open Go.RowKit Go.Shelf Go.Maps
set_option linter.unusedVariables false

theorem takeS_some_ne {l : List UInt8} {x : List Col × Int} (h : takeS l 0 = some x) : 0 < l.length := by
  cases l with
  | nil => cases h
  | cons a t => simp
theorem takeRw_some_ne {cols : List Col} {l : List UInt8} {x : List (List Vl) × Int} (h : takeRw cols l 0 = some x) : 0 < l.length := by
  cases l with
  | nil =>
    unfold takeRw at h
    by_cases hr : rightC cols = false
    · rw [if_pos hr] at h; cases h
    · rw [if_neg hr] at h; cases h
  | cons a t => simp

set_option maxRecDepth 100000 in
set_option maxHeartbeats 8000000 in
theorem lawone_any (B A : Option Addr) (bcap cap : Nat) (b : List UInt8) (l : List Col) (W : World) (hy : Byt W B b) (hB : B = none → bcap = 0) (hbc : b.length ≤ bcap) (hbm : bcap ≤ 140737488351232) (hl : Cols W A l) (hn : l.length ≤ 140737488351232) :
    Calls Try.prog 6 #[.slice B b.length bcap, .slice A l.length cap] W fun e W' => e = .returned (.bool true) ∧ Below W.heap.size W W' := by
  have H0 := Lib.hid (shown5_any W)
  cases hts : takeS b 0 with
  | none =>
    cases htr : takeRw l b 0 with
    | none =>
      have H1 : Hid (∀ w1, Below W.heap.size W w1 → Calls Try.prog 19 #[.slice B b.length bcap, .int .i64 0] w1 fun e w' => e = .returned (.tuple #[.slice none 0 0, .int .i64 0, .int .i64 52]) ∧ Below W.heap.size W w') := fun w1 h => (takes_any B bcap 0 b w1 (hy.keep h) hB hbc (by omega) (by omega)).mono fun e w' h' => by
        unfold TookSc at h'
        rw [hts] at h'
        exact ⟨h'.1, h.trans (h'.2.mono h.size)⟩
      have hE2 : rwE l = 50 ∨ rwE l = 52 := by unfold rwE; cases rightC l <;> simp
      generalize hEE : rwE l = ee at *
      have H3 : Hid (∀ w1, Below W.heap.size W w1 → Calls Try.prog 24 #[.slice B b.length bcap, .int .i64 0, .slice A l.length cap] w1 fun e w' => e = .returned (.tuple #[.slice none 0 0, .int .i64 0, .int .i64 ee]) ∧ Below W.heap.size W w') := fun w1 h => (takerows_any _ A bcap cap b 0 l w1 (hy.keep h) hB hbc hbm (hl.keep h) (by omega)).mono fun e w' h' => by
        unfold TookRw at h'
        rw [htr, hEE] at h'
        exact ⟨h'.1, h.trans (h'.2.mono h.size)⟩
      clear hts htr hy hl
      generalize b.length = n at *
      generalize l.length = m at *
      clear hEE
      rcases hE2 with rfl | rfl
      · go_enter Try.func6, Try.ntmps6
        go_wp2_with (first | (go_at_call 8; refine H0.out.mono ?_; rintro e w1 ⟨rfl, hb⟩; have B1 := Lib.hid hb; clear hb H0) | (go_at_call 19; refine (H1.out _ B1.out).mono ?_; rintro e w2 ⟨rfl, hb⟩; have B5 := Lib.hid hb; clear hb H1) | (go_at_call 24; refine (H3.out _ B5.out).mono ?_; rintro e w6 ⟨rfl, hb⟩; have B6 := Lib.hid hb; clear hb H3))
        go_ret
        exact ⟨rfl, B6.out⟩
      · go_enter Try.func6, Try.ntmps6
        go_wp2_with (first | (go_at_call 8; refine H0.out.mono ?_; rintro e w1 ⟨rfl, hb⟩; have B1 := Lib.hid hb; clear hb H0) | (go_at_call 19; refine (H1.out _ B1.out).mono ?_; rintro e w2 ⟨rfl, hb⟩; have B5 := Lib.hid hb; clear hb H1) | (go_at_call 24; refine (H3.out _ B5.out).mono ?_; rintro e w6 ⟨rfl, hb⟩; have B6 := Lib.hid hb; clear hb H3))
        go_ret
        exact ⟨rfl, B6.out⟩
    | some y =>
      obtain ⟨rs, q⟩ := y
      have H1 : Hid (∀ w1, Below W.heap.size W w1 → Calls Try.prog 19 #[.slice B b.length bcap, .int .i64 0] w1 fun e w' => e = .returned (.tuple #[.slice none 0 0, .int .i64 0, .int .i64 52]) ∧ Below W.heap.size W w') := fun w1 h => (takes_any B bcap 0 b w1 (hy.keep h) hB hbc (by omega) (by omega)).mono fun e w' h' => by
        unfold TookSc at h'
        rw [hts] at h'
        exact ⟨h'.1, h.trans (h'.2.mono h.size)⟩
      obtain ⟨hF0, Q, rfl, hQl, hF⟩ := takeRw_back htr
      have H3 : Hid (∀ w1, Below W.heap.size W w1 → Calls Try.prog 24 #[.slice B b.length bcap, .int .i64 0, .slice A l.length cap] w1 fun e w' => ∃ A6 c6, e = .returned (.tuple #[.slice A6 rs.length c6, .int .i64 (Q : Int), .int .i64 0]) ∧ Rws w' A6 rs ∧ Below W.heap.size W w') := fun w1 h => (takerows_any _ A bcap cap b 0 l w1 (hy.keep h) hB hbc hbm (hl.keep h) (by omega)).mono fun e w' h' => by
        unfold TookRw at h'
        rw [htr] at h'
        obtain ⟨A2, c2, e1, e2, _, _, e3⟩ := h'
        exact ⟨A2, c2, e1, e2, h.trans (e3.mono h.size)⟩
      have hrsn : rs.length ≤ 1024 := by have := trR_len l b 0; unfold trR at this; rw [htr] at this; exact this
      have H4 := Lib.hid (fun w2 C c2 (h : Below W.heap.size W w2) (hc : Rws w2 C rs) => (layrows_any none A C 0 cap c2 [] l rs w2 (Byt.empty _ _) (fun _ => rfl) (by simp) (hl.keep h) (by omega) hc (by omega)).mono fun e w' => LayU.more h)
      rw [hF0, hF] at H4
      have hEL : (b.take Q).length = Q := by rw [List.length_take]; omega
      have hYE : Byt W B (b.take Q) := hy.cut Q
      have hb0 := takeRw_some_ne htr
      obtain ⟨b0, o0, rfl, hcell0⟩ := hy 0 hb0
      clear hcell0
      have hQ : (Q : Int) ≤ b.length := by omega
      generalize b.take Q = E at H4 hEL hYE
      unfold LayU at H4
      rw [hEL] at H4
      have HEL := Lib.hid hEL
      have HYE := Lib.hid hYE
      clear hEL hYE hF hF0 hrsn
      generalize rs.length = rsn at *
      clear hts htr hy hl
      generalize b.length = n at *
      generalize l.length = m at *
      go_enter Try.func6, Try.ntmps6
      go_wp2_with (first | (go_at_call 8; refine H0.out.mono ?_; rintro e w1 ⟨rfl, hb⟩; have B1 := Lib.hid hb; clear hb H0) | (go_at_call 19; refine (H1.out _ B1.out).mono ?_; rintro e w2 ⟨rfl, hb⟩; have B5 := Lib.hid hb; clear hb H1) | (go_at_call 24; refine (H3.out _ B5.out).mono ?_; rintro e w6 ⟨A6, c6, rfl, hr6, hb⟩; have B6 := Lib.hid hb; have R6 := Lib.hid hr6; clear hb hr6 H3) | (go_at_call 22; refine (H4.out _ _ _ B6.out R6.out).mono ?_; rintro e w7 ⟨A7, c7, rfl, hy7, hb, _⟩; have B7 := Lib.hid hb; have Y7 := Lib.hid hy7; clear hb hy7 H4 R6))
      have y1 : ∀ k, (convert 31 9 (.slice A7 Q c7)).run Try.prog (w7.drewN k) = .ok (.string (str E)) (w7.drewN k) := fun k => by
        have := conv (w := w7.drewN k) (Y7.out.keep (Below.drewN' (Below.refl _ _) k)) c7
        rwa [HEL.out] at this
      have y2 : ∀ k, (convert 31 9 (.slice (some ⟨b0, o0, none⟩) Q bcap)).run Try.prog (w7.drewN k) = .ok (.string (str E)) (w7.drewN k) := fun k => by
        have := conv (w := w7.drewN k) (HYE.out.keep (Below.drewN' B7.out k)) bcap
        rwa [HEL.out] at this
      have y10 := y1 0
      have y20 := y2 0
      go_quiet (fail)
      go_wp2
      go_ret
      exact ⟨rfl, Below.drewN' B7.out nq⟩
  | some x =>
    obtain ⟨r, p⟩ := x
    cases htr : takeRw l b 0 with
    | none =>
      obtain ⟨hE0, P, rfl, hPl, hD⟩ := takeS_back hts
      have H1 : Hid (∀ w1, Below W.heap.size W w1 → Calls Try.prog 19 #[.slice B b.length bcap, .int .i64 0] w1 fun e w' => ∃ A2 c2, e = .returned (.tuple #[.slice A2 r.length c2, .int .i64 (P : Int), .int .i64 0]) ∧ Cols w' A2 r ∧ Below W.heap.size W w') := fun w1 h => (takes_any B bcap 0 b w1 (hy.keep h) hB hbc (by omega) (by omega)).mono fun e w' h' => by
        unfold TookSc at h'
        rw [hts] at h'
        obtain ⟨A2, c2, e1, e2, _, _, e3⟩ := h'
        exact ⟨A2, c2, e1, e2, h.trans (e3.mono h.size)⟩
      have hrn : r.length ≤ 16 := by have := takeR_len b 0; unfold takeR at this; rw [hts] at this; exact this
      have H2 := Lib.hid (fun w2 A2 c2 (h : Below W.heap.size W w2) (hc : Cols w2 A2 r) => (lay_u none A2 0 c2 [] r W w2 h (Byt.empty _ _) (fun _ => rfl) (by simp) hc (by omega)))
      rw [hE0, hD] at H2
      have hDL : (b.take P).length = P := by rw [List.length_take]; omega
      have hYD : Byt W B (b.take P) := hy.cut P
      have hb0 := takeS_some_ne hts
      obtain ⟨b0, o0, rfl, hcell0⟩ := hy 0 hb0
      clear hcell0
      have hP : (P : Int) ≤ b.length := by omega
      generalize b.take P = D at H2 hDL hYD
      unfold LayU at H2
      rw [hDL] at H2
      have HDL := Lib.hid hDL
      have HYD := Lib.hid hYD
      clear hDL hYD hD hE0 hrn
      generalize r.length = rn at *
      have hE2 : rwE l = 50 ∨ rwE l = 52 := by unfold rwE; cases rightC l <;> simp
      generalize hEE : rwE l = ee at *
      have H3 : Hid (∀ w1, Below W.heap.size W w1 → Calls Try.prog 24 #[.slice (some ⟨b0, o0, none⟩) b.length bcap, .int .i64 0, .slice A l.length cap] w1 fun e w' => e = .returned (.tuple #[.slice none 0 0, .int .i64 0, .int .i64 ee]) ∧ Below W.heap.size W w') := fun w1 h => (takerows_any _ A bcap cap b 0 l w1 (hy.keep h) hB hbc hbm (hl.keep h) (by omega)).mono fun e w' h' => by
        unfold TookRw at h'
        rw [htr, hEE] at h'
        exact ⟨h'.1, h.trans (h'.2.mono h.size)⟩
      clear hts htr hy hl
      generalize b.length = n at *
      generalize l.length = m at *
      clear hEE
      rcases hE2 with rfl | rfl
      · go_enter Try.func6, Try.ntmps6
        go_wp2_with (first | (go_at_call 8; refine H0.out.mono ?_; rintro e w1 ⟨rfl, hb⟩; have B1 := Lib.hid hb; clear hb H0) | (go_at_call 19; refine (H1.out _ B1.out).mono ?_; rintro e w2 ⟨A2, c2, rfl, hcl, hb⟩; have B2 := Lib.hid hb; have C2 := Lib.hid hcl; clear hb hcl H1) | (go_at_call 17; refine (H2.out _ _ _ B2.out C2.out).mono ?_; rintro e w3 ⟨A3, c3, rfl, hy3, hb, _⟩; have B3 := Lib.hid hb; have Y3 := Lib.hid hy3; clear hb hy3 H2 C2))
        have y1 : ∀ k, (convert 31 9 (.slice A3 P c3)).run Try.prog (w3.drewN k) = .ok (.string (str D)) (w3.drewN k) := fun k => by
          have := conv (w := w3.drewN k) (Y3.out.keep (Below.drewN' (Below.refl _ _) k)) c3
          rwa [HDL.out] at this
        have y2 : ∀ k, (convert 31 9 (.slice (some ⟨b0, o0, none⟩) P bcap)).run Try.prog (w3.drewN k) = .ok (.string (str D)) (w3.drewN k) := fun k => by
          have := conv (w := w3.drewN k) (HYD.out.keep (Below.drewN' B3.out k)) bcap
          rwa [HDL.out] at this
        have y10 := y1 0
        have y20 := y2 0
        go_quiet (fail)
        have B5 := Lib.hid (Below.drewN' B3.out nq)
        clear y1 y2 y10 y20 B3 Y3
        go_wp2_with (first | (go_at_call 24; refine (H3.out _ B5.out).mono ?_; rintro e w6 ⟨rfl, hb⟩; have B6 := Lib.hid hb; clear hb H3))
        go_ret
        exact ⟨rfl, B6.out⟩
      · go_enter Try.func6, Try.ntmps6
        go_wp2_with (first | (go_at_call 8; refine H0.out.mono ?_; rintro e w1 ⟨rfl, hb⟩; have B1 := Lib.hid hb; clear hb H0) | (go_at_call 19; refine (H1.out _ B1.out).mono ?_; rintro e w2 ⟨A2, c2, rfl, hcl, hb⟩; have B2 := Lib.hid hb; have C2 := Lib.hid hcl; clear hb hcl H1) | (go_at_call 17; refine (H2.out _ _ _ B2.out C2.out).mono ?_; rintro e w3 ⟨A3, c3, rfl, hy3, hb, _⟩; have B3 := Lib.hid hb; have Y3 := Lib.hid hy3; clear hb hy3 H2 C2))
        have y1 : ∀ k, (convert 31 9 (.slice A3 P c3)).run Try.prog (w3.drewN k) = .ok (.string (str D)) (w3.drewN k) := fun k => by
          have := conv (w := w3.drewN k) (Y3.out.keep (Below.drewN' (Below.refl _ _) k)) c3
          rwa [HDL.out] at this
        have y2 : ∀ k, (convert 31 9 (.slice (some ⟨b0, o0, none⟩) P bcap)).run Try.prog (w3.drewN k) = .ok (.string (str D)) (w3.drewN k) := fun k => by
          have := conv (w := w3.drewN k) (HYD.out.keep (Below.drewN' B3.out k)) bcap
          rwa [HDL.out] at this
        have y10 := y1 0
        have y20 := y2 0
        go_quiet (fail)
        have B5 := Lib.hid (Below.drewN' B3.out nq)
        clear y1 y2 y10 y20 B3 Y3
        go_wp2_with (first | (go_at_call 24; refine (H3.out _ B5.out).mono ?_; rintro e w6 ⟨rfl, hb⟩; have B6 := Lib.hid hb; clear hb H3))
        go_ret
        exact ⟨rfl, B6.out⟩
    | some y =>
      obtain ⟨rs, q⟩ := y
      obtain ⟨hE0, P, rfl, hPl, hD⟩ := takeS_back hts
      have H1 : Hid (∀ w1, Below W.heap.size W w1 → Calls Try.prog 19 #[.slice B b.length bcap, .int .i64 0] w1 fun e w' => ∃ A2 c2, e = .returned (.tuple #[.slice A2 r.length c2, .int .i64 (P : Int), .int .i64 0]) ∧ Cols w' A2 r ∧ Below W.heap.size W w') := fun w1 h => (takes_any B bcap 0 b w1 (hy.keep h) hB hbc (by omega) (by omega)).mono fun e w' h' => by
        unfold TookSc at h'
        rw [hts] at h'
        obtain ⟨A2, c2, e1, e2, _, _, e3⟩ := h'
        exact ⟨A2, c2, e1, e2, h.trans (e3.mono h.size)⟩
      have hrn : r.length ≤ 16 := by have := takeR_len b 0; unfold takeR at this; rw [hts] at this; exact this
      have H2 := Lib.hid (fun w2 A2 c2 (h : Below W.heap.size W w2) (hc : Cols w2 A2 r) => (lay_u none A2 0 c2 [] r W w2 h (Byt.empty _ _) (fun _ => rfl) (by simp) hc (by omega)))
      rw [hE0, hD] at H2
      have hDL : (b.take P).length = P := by rw [List.length_take]; omega
      have hYD : Byt W B (b.take P) := hy.cut P
      have hb0 := takeS_some_ne hts
      obtain ⟨b0, o0, rfl, hcell0⟩ := hy 0 hb0
      clear hcell0
      have hP : (P : Int) ≤ b.length := by omega
      generalize b.take P = D at H2 hDL hYD
      unfold LayU at H2
      rw [hDL] at H2
      have HDL := Lib.hid hDL
      have HYD := Lib.hid hYD
      clear hDL hYD hD hE0 hrn
      generalize r.length = rn at *
      obtain ⟨hF0, Q, rfl, hQl, hF⟩ := takeRw_back htr
      have H3 : Hid (∀ w1, Below W.heap.size W w1 → Calls Try.prog 24 #[.slice (some ⟨b0, o0, none⟩) b.length bcap, .int .i64 0, .slice A l.length cap] w1 fun e w' => ∃ A6 c6, e = .returned (.tuple #[.slice A6 rs.length c6, .int .i64 (Q : Int), .int .i64 0]) ∧ Rws w' A6 rs ∧ Below W.heap.size W w') := fun w1 h => (takerows_any _ A bcap cap b 0 l w1 (hy.keep h) hB hbc hbm (hl.keep h) (by omega)).mono fun e w' h' => by
        unfold TookRw at h'
        rw [htr] at h'
        obtain ⟨A2, c2, e1, e2, _, _, e3⟩ := h'
        exact ⟨A2, c2, e1, e2, h.trans (e3.mono h.size)⟩
      have hrsn : rs.length ≤ 1024 := by have := trR_len l b 0; unfold trR at this; rw [htr] at this; exact this
      have H4 := Lib.hid (fun w2 C c2 (h : Below W.heap.size W w2) (hc : Rws w2 C rs) => (layrows_any none A C 0 cap c2 [] l rs w2 (Byt.empty _ _) (fun _ => rfl) (by simp) (hl.keep h) (by omega) hc (by omega)).mono fun e w' => LayU.more h)
      rw [hF0, hF] at H4
      have hEL : (b.take Q).length = Q := by rw [List.length_take]; omega
      have hYE : Byt W (some ⟨b0, o0, none⟩) (b.take Q) := hy.cut Q
      have hQ : (Q : Int) ≤ b.length := by omega
      generalize b.take Q = E at H4 hEL hYE
      unfold LayU at H4
      rw [hEL] at H4
      have HEL := Lib.hid hEL
      have HYE := Lib.hid hYE
      clear hEL hYE hF hF0 hrsn
      generalize rs.length = rsn at *
      clear hts htr hy hl
      generalize b.length = n at *
      generalize l.length = m at *
      go_enter Try.func6, Try.ntmps6
      go_wp2_with (first | (go_at_call 8; refine H0.out.mono ?_; rintro e w1 ⟨rfl, hb⟩; have B1 := Lib.hid hb; clear hb H0) | (go_at_call 19; refine (H1.out _ B1.out).mono ?_; rintro e w2 ⟨A2, c2, rfl, hcl, hb⟩; have B2 := Lib.hid hb; have C2 := Lib.hid hcl; clear hb hcl H1) | (go_at_call 17; refine (H2.out _ _ _ B2.out C2.out).mono ?_; rintro e w3 ⟨A3, c3, rfl, hy3, hb, _⟩; have B3 := Lib.hid hb; have Y3 := Lib.hid hy3; clear hb hy3 H2 C2))
      have y1 : ∀ k, (convert 31 9 (.slice A3 P c3)).run Try.prog (w3.drewN k) = .ok (.string (str D)) (w3.drewN k) := fun k => by
        have := conv (w := w3.drewN k) (Y3.out.keep (Below.drewN' (Below.refl _ _) k)) c3
        rwa [HDL.out] at this
      have y2 : ∀ k, (convert 31 9 (.slice (some ⟨b0, o0, none⟩) P bcap)).run Try.prog (w3.drewN k) = .ok (.string (str D)) (w3.drewN k) := fun k => by
        have := conv (w := w3.drewN k) (HYD.out.keep (Below.drewN' B3.out k)) bcap
        rwa [HDL.out] at this
      have y10 := y1 0
      have y20 := y2 0
      go_quiet (fail)
      have B5 := Lib.hid (Below.drewN' B3.out nq)
      clear y1 y2 y10 y20 B3 Y3
      go_wp2_with (first | (go_at_call 24; refine (H3.out _ B5.out).mono ?_; rintro e w6 ⟨A6, c6, rfl, hr6, hb⟩; have B6 := Lib.hid hb; have R6 := Lib.hid hr6; clear hb hr6 H3) | (go_at_call 22; refine (H4.out _ _ _ B6.out R6.out).mono ?_; rintro e w7 ⟨A7, c7, rfl, hy7, hb, _⟩; have B7 := Lib.hid hb; have Y7 := Lib.hid hy7; clear hb hy7 H4 R6))
      have y1 : ∀ k, (convert 31 9 (.slice A7 Q c7)).run Try.prog (w7.drewN k) = .ok (.string (str E)) (w7.drewN k) := fun k => by
        have := conv (w := w7.drewN k) (Y7.out.keep (Below.drewN' (Below.refl _ _) k)) c7
        rwa [HEL.out] at this
      have y2 : ∀ k, (convert 31 9 (.slice (some ⟨b0, o0, none⟩) Q bcap)).run Try.prog (w7.drewN k) = .ok (.string (str E)) (w7.drewN k) := fun k => by
        have := conv (w := w7.drewN k) (HYE.out.keep (Below.drewN' B7.out k)) bcap
        rwa [HEL.out] at this
      have y10 := y1 0
      have y20 := y2 0
      go_quiet (fail)
      go_wp2
      go_ret
      exact ⟨rfl, Below.drewN' B7.out nq⟩
theorem walkOne (B : Option Addr) (bcap : Nat) (b : List UInt8) {W : World} (hy : Byt W B b) (hB : B = none → bcap = 0) (hbc : b.length ≤ bcap) (hbm : bcap ≤ 140737488351232) (A : Option Addr) (cap : Nat) (l : List Col) (hl : Cols W A l) (_ : A = none → cap = 0) (hc : l.length ≤ cap) (hm : cap ≤ 140737488351232) (W' : World) (e : W' = W) :
    Calls Try.prog 6 #[.slice B b.length bcap, .slice A l.length cap] W' fun e w => e = .returned (.bool true) ∧ Below W'.heap.size W' w := by
  subst e
  exact lawone_any B A bcap cap b l _ hy hB hbc hbm hl (by omega)
end Go.Proofs.Ytabnjiepmhblaaa
