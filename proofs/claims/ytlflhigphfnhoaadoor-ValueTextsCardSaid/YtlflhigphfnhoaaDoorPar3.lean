/- value.Parse at every text; what a number's text parses to; the texts and the values are one to one. -/
import Derived.Test.YtlflhigphfnhoaaDoorPar2
import Derived.Test.YtlflhigphfnhoaaDoorDig
namespace Go.Proofs.YtlflhigphfnhoaaDoor
open Go.RowKit
set_option linter.unusedVariables false

theorem parse_any (s : ByteArray) (w : World) (hs : s.size ≤ 140737488351232) (he : Errs w) (hw : Pow w) : Calls Tryd.prog 20 #[.string s] w fun e w' => e = .returned (parR s) ∧ Below w.heap.size w w' := by
  by_cases h0 : s.toList = []
  · rw [ba_of h0]; exact parse_empty w
  by_cases h1 : s.toList = [110, 117, 108, 108]
  · rw [ba_of h1]; exact parse_null w
  by_cases h2 : s.toList = [102, 97, 108, 115, 101]
  · rw [ba_of h2]; exact parse_false w
  by_cases h3 : s.toList = [116, 114, 117, 101]
  · rw [ba_of h3]; exact parse_true w
  have hp : 1 ≤ s.size := by
    rw [← tol_len]
    cases hx : s.toList with
    | nil => exact absurd hx h0
    | cons c r => simp
  by_cases hq : s[0]'(by omega) = 39
  · exact parse_text s w hp hs h1 h2 h3 hq
  cases hn : Lib.parseIntB 64 s.data.toList with
  | ok n =>
    by_cases hi : Lib.itoa n = s.toList
    · exact parse_int_same s w hp hs h1 h2 h3 hq n hn hi he hw
    · exact parse_int_other s w hp hs h1 h2 h3 hq n hn hi he hw
  | range => exact parse_int_no s w hp hs h1 h2 h3 hq (fun n e => by rw [hn] at e; cases e) he hw
  | _ => exact parse_int_no s w hp hs h1 h2 h3 hq (fun n e => by rw [hn] at e; cases e) he hw

theorem pu_snoc (c : UInt8) (hc0 : 48 ≤ c.toNat) (hc1 : c.toNat ≤ 57) : ∀ (l : List UInt8) (acc a : Nat), Lib.parseUint10 acc l = .ok a → a < 1844674407370955162 → a * 10 + (c.toNat - 48) < 18446744073709551616 → Lib.parseUint10 acc (l ++ [c]) = .ok (a * 10 + (c.toNat - 48))
  | [], acc, a, h, h1, h2 => by
    simp only [Lib.parseUint10] at h
    injection h with h
    subst h
    show Lib.parseUint10 acc [c] = _
    simp only [Lib.parseUint10]
    rw [if_pos ⟨hc0, hc1⟩, if_neg (by omega), if_neg (by omega)]
  | b :: r, acc, a, h, h1, h2 => by
    simp only [Lib.parseUint10] at h
    show Lib.parseUint10 acc (b :: (r ++ [c])) = _
    simp only [Lib.parseUint10]
    split at h
    · rename_i hb
      rw [if_pos hb]
      split at h
      · cases h
      · rename_i hx
        rw [if_neg hx]
        split at h
        · cases h
        · rename_i hy
          rw [if_neg hy]
          exact pu_snoc c hc0 hc1 r _ a h h1 h2
    · cases h
theorem dig_nat (k : Nat) (h : k < 10) : (UInt8.ofNat (48 + k)).toNat = 48 + k := by
  rw [UInt8.toNat_ofNat']
  omega
theorem pu_dd : ∀ (u : Nat), u < 18446744073709551616 → Lib.parseUint10 0 (Lib.decDigits u) = .ok u := by
  intro u
  induction u using Nat.strongRecOn with
  | _ u ih =>
    intro hu
    by_cases h : u < 10
    · rw [dd_one h]
      have e := dig_nat u h
      simp only [Lib.parseUint10]
      rw [if_pos (by omega), if_neg (by omega), if_neg (by omega), e]
      congr 1
      omega
    · rw [dd_step h]
      have e := dig_nat (u % 10) (by omega)
      rw [pu_snoc _ (by omega) (by omega) _ 0 (u / 10) (ih (u / 10) (by omega) (by omega)) (by omega) (by rw [e]; omega), e]
      congr 1
      omega
theorem pu_head {c : UInt8} {r : List UInt8} {a u : Nat} (h : Lib.parseUint10 a (c :: r) = .ok u) : 48 ≤ c.toNat ∧ c.toNat ≤ 57 := by
  simp only [Lib.parseUint10] at h
  split at h
  · assumption
  · cases h
theorem pib_dd (u : Nat) (h : u < 18446744073709551616) : Lib.parseUintB 64 (Lib.decDigits u) = .ok u := by
  rw [Lib.parseUintB_64]
  unfold Lib.parseMag
  rw [if_neg (by intro e; have := dd_pos u; rw [e] at this; simp at this), pu_dd u h]
theorem pib_itoa (n : Int) (h0 : -9223372036854775808 ≤ n) (h1 : n ≤ 9223372036854775807) : Lib.parseIntB 64 (Lib.itoa n) = .ok n := by
  have e : (2 : Nat) ^ (64 - 1) = 9223372036854775808 := by decide
  by_cases hn : 0 ≤ n
  · obtain ⟨u, rfl⟩ := Int.eq_ofNat_of_zero_le hn
    rw [Lib.itoa_nonneg]
    have hb := pib_dd u (by omega)
    have hd := pu_dd u (by omega)
    cases hx : Lib.decDigits u with
    | nil => have := dd_pos u; rw [hx] at this; simp at this
    | cons c r =>
      rw [hx] at hb hd
      have := pu_head hd
      rw [Lib.parseIntB_plain 64 c r (by omega) (by omega), hb, e]
      simp only [Lib.signlessC]
      rw [if_neg (by omega)]
  · obtain ⟨u, hu⟩ := Int.eq_ofNat_of_zero_le (a := -n) (by omega)
    obtain rfl : n = -(u : Int) := by omega
    rw [Lib.itoa_neg u (by omega), Lib.parseIntB_minus, pib_dd u (by omega), e]
    simp only [Lib.signedC]
    rw [if_neg (by omega)]
theorem itoa_head {n : Int} (h0 : -9223372036854775808 ≤ n) (h1 : n ≤ 9223372036854775807) : ∃ c r, Lib.itoa n = c :: r ∧ (c.toNat = 45 ∨ 48 ≤ c.toNat ∧ c.toNat ≤ 57) := by
  by_cases hn : 0 ≤ n
  · obtain ⟨u, rfl⟩ := Int.eq_ofNat_of_zero_le hn
    rw [Lib.itoa_nonneg]
    have hd := pu_dd u (by omega)
    cases hx : Lib.decDigits u with
    | nil => have := dd_pos u; rw [hx] at this; simp at this
    | cons c r =>
      rw [hx] at hd
      exact ⟨c, r, rfl, .inr (pu_head hd)⟩
  · obtain ⟨u, hu⟩ := Int.eq_ofNat_of_zero_le (a := -n) (by omega)
    obtain rfl : n = -(u : Int) := by omega
    rw [Lib.itoa_neg u (by omega)]
    exact ⟨45, _, rfl, .inl rfl⟩

/-- The text of a value. -/
def txtOf (k n : Int) (t : ByteArray) : ByteArray :=
  if k = 0 then ⟨#[110, 117, 108, 108]⟩ else if k = 1 then ⟨(Lib.itoa n).toArray⟩ else if k = 2 then (if n = 1 then ⟨#[116, 114, 117, 101]⟩ else ⟨#[102, 97, 108, 115, 101]⟩) else ⟨(quoteL t.data.toList).toArray⟩
theorem tl_mk (l : List UInt8) : (ByteArray.toList ⟨l.toArray⟩) = l := by rw [ByteArray.toList_eq]
theorem ba_data {s : ByteArray} {l : List UInt8} (h : s.data.toList = l) : s = ⟨l.toArray⟩ := ba_of (by rw [ByteArray.toList_eq]; exact h)
theorem unq_tail : ∀ (n : Nat) (l : List UInt8), l.length ≤ n → (unq l).2 = [] ∨ (unq l).2.head? = some 39
  | _, [], _ => .inl rfl
  | n, [c], _ => by
    by_cases h : c = 39
    · subst h; exact .inr rfl
    · rw [unq_byte h]; exact .inl rfl
  | 0, _ :: _ :: _, hn => by simp at hn
  | n + 1, c :: d :: t, hn => by
    have h1 := unq_tail n t (by simp at hn; omega)
    have h2 := unq_tail n (d :: t) (by simp at hn ⊢; omega)
    by_cases h : c = 39
    · subst h
      by_cases hd : d = 39
      · subst hd; rw [unq_two]; exact h1
      · rw [unq_stop (by simpa using hd)]; exact .inr rfl
    · rw [unq_byte h]; exact h2
theorem ptO_quote (t : ByteArray) (h : t.size ≤ 1024) : ptO ⟨(quoteL t.data.toList).toArray⟩ = some t := by
  unfold ptO
  have e : (quoteL t.data.toList).drop 1 = esc t.data.toList ++ [39] := rfl
  show (if (unq ((quoteL t.data.toList).drop 1)).2.length = 1 ∧ (unq ((quoteL t.data.toList).drop 1)).1.length ≤ 1024 then some (str (unq ((quoteL t.data.toList).drop 1)).1) else none) = _
  rw [e, unq_esc]
  rw [if_pos ⟨rfl, by rw [Array.length_toList]; exact h⟩]
  rfl
theorem quote_of_ptO {s t : ByteArray} (h : ptO s = some t) (hq : s.toList.head? = some 39) : t.size ≤ 1024 ∧ s = ⟨(quoteL t.data.toList).toArray⟩ := by
  unfold ptO at h
  split at h
  · rename_i hc
    injection h with h
    subst h
    refine ⟨hc.2, ba_data ?_⟩
    rw [ByteArray.toList_eq] at hq
    cases hx : s.data.toList with
    | nil => rw [hx] at hq; cases hq
    | cons c r =>
      rw [hx] at hq hc
      have hc' : c = 39 := by simpa using hq
      subst hc'
      have hd : (39 :: r : List UInt8).drop 1 = r := rfl
      rw [hd] at hc ⊢
      have h2 := esc_unq _ r (Nat.le_refl _)
      have h3 := unq_tail _ r (Nat.le_refl _)
      have h4 : (unq r).2 = [39] := by
        cases hu : (unq r).2 with
        | nil => rw [hu] at hc; simp at hc
        | cons a b =>
          rw [hu] at hc h3
          have hb : b = [] := by have := hc.1; simp at this; exact this
          have ha : a = 39 := by simpa using h3
          rw [ha, hb]
      show 39 :: r = 39 :: esc (unq r).1 ++ [39]
      rw [List.cons_append, ← h4, h2]
  · cases h
/-- A right value's text is that value .. -/
theorem par_txt {k n : Int} {t : ByteArray} (h : rightB k n t.toList = true) (h0 : -9223372036854775808 ≤ n) (h1 : n ≤ 9223372036854775807) : parO (txtOf k n t) = some (k, n, t) := by
  have ht : t.toList = [] → t = ⟨#[]⟩ := fun e => ba_of e
  unfold rightB at h
  split at h
  · rename_i hk
    subst hk
    simp at h
    obtain ⟨rfl, h⟩ := h
    rw [ht h]
    unfold parO
    rw [show txtOf 0 0 ⟨#[]⟩ = ⟨#[110, 117, 108, 108]⟩ from rfl, ByteArray.toList_eq]
    rfl
  · split at h
    · rename_i hk
      subst hk
      simp at h
      rw [ht h]
      rw [show txtOf 1 n ⟨#[]⟩ = ⟨(Lib.itoa n).toArray⟩ from rfl]
      unfold parO
      rw [tl_mk]
      obtain ⟨c, r, hc, hd⟩ := itoa_head h0 h1
      have hh : Lib.parseIntB 64 (Lib.itoa n) = .ok n := pib_itoa n h0 h1
      have hne : ∀ (x : UInt8) (l : List UInt8), (¬ (x.toNat = 45 ∨ 48 ≤ x.toNat ∧ x.toNat ≤ 57)) → Lib.itoa n ≠ x :: l := by
        intro x l hx e
        rw [hc] at e
        injection e with e1 e2
        subst e1
        exact hx hd
      rw [if_neg (hne _ _ (by decide)), if_neg (hne _ _ (by decide)), if_neg (hne _ _ (by decide)), if_neg (by
        intro e
        rw [hc] at e
        have e' : c = 39 := by simpa using e
        subst e'
        revert hd
        decide)]
      rw [show (⟨(Lib.itoa n).toArray⟩ : ByteArray).data.toList = Lib.itoa n from by simp, hh]
      show (if Lib.itoa n = Lib.itoa n then _ else _) = _
      rw [if_pos rfl]
    · split at h
      · rename_i hk
        subst hk
        simp at h
        obtain ⟨h, h'⟩ := h
        rw [ht h']
        unfold parO
        rcases h with rfl | rfl
        · rw [show txtOf 2 0 ⟨#[]⟩ = ⟨#[102, 97, 108, 115, 101]⟩ from rfl, ByteArray.toList_eq]
          rfl
        · rw [show txtOf 2 1 ⟨#[]⟩ = ⟨#[116, 114, 117, 101]⟩ from rfl, ByteArray.toList_eq]
          rfl
      · split at h
        · rename_i hk
          subst hk
          simp at h
          obtain ⟨rfl, h⟩ := h
          rw [show txtOf 3 0 t = ⟨(quoteL t.data.toList).toArray⟩ from rfl]
          unfold parO
          rw [ptO_quote t (by rw [tol_len] at h; exact h), tl_mk]
          rfl
        · cases h
/-- .. and what a text is, is a right value of that text. -/
theorem txt_par {s t : ByteArray} {k n : Int} (h : parO s = some (k, n, t)) : rightB k n t.toList = true ∧ -9223372036854775808 ≤ n ∧ n ≤ 9223372036854775807 ∧ txtOf k n t = s := by
  have he : ByteArray.toList ⟨#[]⟩ = ([] : List UInt8) := by rw [ByteArray.toList_eq]
  unfold parO at h
  split at h
  · rename_i hx
    cases h
    exact ⟨by rw [he]; rfl, by omega, by omega, (ba_of hx).symm⟩
  · split at h
    · rename_i hx
      cases h
      exact ⟨by rw [he]; rfl, by omega, by omega, (ba_of hx).symm⟩
    · split at h
      · rename_i hx
        cases h
        exact ⟨by rw [he]; rfl, by omega, by omega, (ba_of hx).symm⟩
      · split at h
        · rename_i hq
          cases hp : ptO s with
          | none => rw [hp] at h; cases h
          | some u =>
            rw [hp] at h
            cases h
            obtain ⟨h1, h2⟩ := quote_of_ptO hp hq
            refine ⟨?_, by omega, by omega, h2.symm⟩
            have : t.toList.length ≤ 1024 := by rw [tol_len]; exact h1
            simp [rightB, this]
        · cases hp : Lib.parseIntB 64 s.data.toList with
          | ok v =>
            rw [hp] at h
            simp only at h
            split at h
            · rename_i hi
              cases h
              have hb := Lib.parseIntB_bounds hp
              have e : (2 : Nat) ^ (64 - 1) = 9223372036854775808 := by decide
              rw [e] at hb
              refine ⟨by rw [he]; rfl, by omega, by omega, ?_⟩
              show (⟨(Lib.itoa n).toArray⟩ : ByteArray) = s
              exact (ba_of hi.symm).symm
            · cases h
          | range => rw [hp] at h; cases h
          | _ => rw [hp] at h; cases h
end Go.Proofs.YtlflhigphfnhoaaDoor
