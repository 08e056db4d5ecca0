/- value.Lay (14), value.Take (16) and the document's (15, 17), whole. -/
import Derived.Test.YtabnjiepmhblaaaV4Take5
namespace Go.Proofs.Ytabnjiepmhblaaa.V4
open Go.RowKit
set_option linter.unusedVariables false

theorem takev_any (a : Option Addr) (cap : Nat) (at_ : Int) (l : List UInt8) (w : World) (hb : Byt w a l) (hn : a = none → cap = 0) (hc : l.length ≤ cap) (hm : cap ≤ 140737488351232) :
    Calls Try.prog 46 #[.slice a l.length cap, .int .i64 at_] w (TookV w l at_) := by
  by_cases hin : 0 ≤ at_ ∧ at_ < l.length
  · obtain ⟨i, rfl⟩ := Int.eq_ofNat_of_zero_le hin.1
    have hi : i < l.length := by omega
    have hv := valO_in hi
    unfold TookV
    by_cases h0 : l[i] = 0
    · rw [h0] at hv; rw [valR_some hv]
      exact takev_null a cap i l w hb hn hc hm hi h0
    by_cases h1 : l[i] = 1
    · rw [h1] at hv
      cases ht : takeO l ((i : Int) + 1) with
      | none => simp only [ht] at hv; rw [valR_none hv]; exact takev_int0 a cap i l w hb hn hc hm hi h1 ht
      | some p => obtain ⟨n, c⟩ := p; simp only [ht] at hv; rw [valR_some hv]; exact takev_int1 a cap i l w hb hn hc hm hi n c h1 ht
    by_cases h2 : l[i] = 2
    · rw [h2] at hv
      by_cases hi1 : i + 1 < l.length
      · simp only [List.getElem?_eq_getElem hi1] at hv
        by_cases hle : (l[i + 1]).toNat ≤ 1
        · rw [if_pos hle] at hv; rw [valR_some hv]; exact takev_bool1 a cap i l w hb hn hc hm hi h2 hi1 hle
        · rw [if_neg hle] at hv; rw [valR_none hv]; exact takev_bool0 a cap i l w hb hn hc hm hi h2 (fun _ => by omega)
      · simp only [List.getElem?_eq_none (by omega : l.length ≤ i + 1)] at hv
        rw [valR_none hv]; exact takev_bool0 a cap i l w hb hn hc hm hi h2 (fun h => absurd h hi1)
    by_cases h3 : l[i] = 3
    · rw [h3] at hv
      cases ht : textO l ((i : Int) + 1) 1024 with
      | none => simp only [ht] at hv; rw [valR_none hv]; exact takev_text0 a cap i l w hb hn hc hm hi h3 ht
      | some p => obtain ⟨u, p⟩ := p; simp only [ht] at hv; rw [valR_some hv]; exact takev_text1 a cap i l w hb hn hc hm hi u p h3 ht
    · have h4 : 4 ≤ (l[i]).toNat := by
        have g0 : (l[i]).toNat ≠ 0 := fun e => h0 (UInt8.toNat_inj.1 e)
        have g1 : (l[i]).toNat ≠ 1 := fun e => h1 (UInt8.toNat_inj.1 e)
        have g2 : (l[i]).toNat ≠ 2 := fun e => h2 (UInt8.toNat_inj.1 e)
        have g3 : (l[i]).toNat ≠ 3 := fun e => h3 (UInt8.toNat_inj.1 e)
        omega
      have hv' : valO l (i : Int) = none := by
        rw [hv]
        split <;> first | rfl | (rename_i e; simp only [Option.some.injEq] at e; first | exact absurd e h0 | exact absurd e h1 | exact absurd e h2 | exact absurd e h3)
      rw [valR_none hv']
      exact takev_big a cap i l w hb hn hc hm hi h4
  · exact takev_out a cap at_ l w (by omega)

theorem reftakev_any (a : Option Addr) (cap : Nat) (at_ : Int) (l : List UInt8) (w : World) (hb : Byt w a l) (hn : a = none → cap = 0) (hc : l.length ≤ cap) (hm : cap ≤ 140737488351232) :
    Calls Try.prog 47 #[.slice a l.length cap, .int .i64 at_] w (TookV w l at_) := by
  by_cases hin : 0 ≤ at_ ∧ at_ < l.length
  · obtain ⟨i, rfl⟩ := Int.eq_ofNat_of_zero_le hin.1
    have hi : i < l.length := by omega
    have hv := valO_in hi
    unfold TookV
    by_cases h0 : l[i] = 0
    · rw [h0] at hv; rw [valR_some hv]
      exact reftakev_null a cap i l w hb hn hc hm hi h0
    by_cases h1 : l[i] = 1
    · rw [h1] at hv
      cases ht : takeO l ((i : Int) + 1) with
      | none => simp only [ht] at hv; rw [valR_none hv]; exact reftakev_int0 a cap i l w hb hn hc hm hi h1 ht
      | some p => obtain ⟨n, c⟩ := p; simp only [ht] at hv; rw [valR_some hv]; exact reftakev_int1 a cap i l w hb hn hc hm hi n c h1 ht
    by_cases h2 : l[i] = 2
    · rw [h2] at hv
      by_cases hi1 : i + 1 < l.length
      · simp only [List.getElem?_eq_getElem hi1] at hv
        by_cases hle : (l[i + 1]).toNat ≤ 1
        · rw [if_pos hle] at hv; rw [valR_some hv]; exact reftakev_bool1 a cap i l w hb hn hc hm hi h2 hi1 hle
        · rw [if_neg hle] at hv; rw [valR_none hv]; exact reftakev_bool0a a cap i l w hb hn hc hm hi h2 hi1 (by omega)
      · simp only [List.getElem?_eq_none (by omega : l.length ≤ i + 1)] at hv
        rw [valR_none hv]; exact reftakev_bool0b a cap i l w hb hn hc hm hi h2 hi1
    by_cases h3 : l[i] = 3
    · rw [h3] at hv
      cases ht : textO l ((i : Int) + 1) 1024 with
      | none => simp only [ht] at hv; rw [valR_none hv]; exact reftakev_text0 a cap i l w hb hn hc hm hi h3 ht
      | some p => obtain ⟨u, p⟩ := p; simp only [ht] at hv; rw [valR_some hv]; exact reftakev_text1 a cap i l w hb hn hc hm hi u p h3 ht
    · have h4 : 4 ≤ (l[i]).toNat := by
        have g0 : (l[i]).toNat ≠ 0 := fun e => h0 (UInt8.toNat_inj.1 e)
        have g1 : (l[i]).toNat ≠ 1 := fun e => h1 (UInt8.toNat_inj.1 e)
        have g2 : (l[i]).toNat ≠ 2 := fun e => h2 (UInt8.toNat_inj.1 e)
        have g3 : (l[i]).toNat ≠ 3 := fun e => h3 (UInt8.toNat_inj.1 e)
        omega
      have hv' : valO l (i : Int) = none := by
        rw [hv]
        split <;> first | rfl | (rename_i e; simp only [Option.some.injEq] at e; first | exact absurd e h0 | exact absurd e h1 | exact absurd e h2 | exact absurd e h3)
      rw [valR_none hv']
      exact reftakev_big a cap i l w hb hn hc hm hi h4
  · exact reftakev_out a cap at_ l w (by omega)

theorem lay_any (A : Option Addr) (cap : Nat) (l : List UInt8) (k n : Int) (s : ByteArray) (w : World) (hb : Byt w A l) (hA : A = none → cap = 0) (hl : l.length + 2000 ≤ 140737488355328) (h0 : -9223372036854775808 ≤ n) (h1 : n ≤ 9223372036854775807) (hr : rightB k n s.toList = true) :
    Calls Try.prog 44 #[.slice A l.length cap, .agg #[.int .i64 k, .int .i64 n, .string s]] w (MadeL w (l ++ encV k n s.data.toList)) := by
  obtain ⟨r1, r2, r3, r4⟩ := right_text hr
  have hs : k ≠ 3 → s = ⟨#[]⟩ := fun h => tol_inj (by rw [r2 h, ByteArray.toList_eq])
  have hk : k = 0 ∨ k = 1 ∨ k = 2 ∨ k = 3 := by omega
  rcases hk with rfl | rfl | rfl | rfl
  · obtain rfl := hs (by decide)
    obtain rfl : n = 0 := by simpa [rightB, r2] using hr
    exact lay_null A cap l w hb hA hl
  · obtain rfl := hs (by decide)
    exact lay_int A cap l n w hb hA (by omega) h0 h1
  · obtain rfl := hs (by decide)
    have hn : n = 0 ∨ n = 1 := by simpa [rightB, r2] using hr
    rcases hn with rfl | rfl
    · exact lay_bool0 A cap l w hb hA hl
    · exact lay_bool1 A cap l w hb hA hl
  · obtain rfl := r1 rfl
    have hsz : s.size ≤ 1024 := by
      have : s.toList.length ≤ 1024 := by simpa [rightB] using hr
      rwa [tol_len] at this
    exact lay_text A cap l s hsz w hb hA hl

theorem reflay_any (A : Option Addr) (cap : Nat) (l : List UInt8) (k n : Int) (s : ByteArray) (w : World) (hb : Byt w A l) (hA : A = none → cap = 0) (hl : l.length + 2000 ≤ 140737488355328) (h0 : -9223372036854775808 ≤ n) (h1 : n ≤ 9223372036854775807) (hr : rightB k n s.toList = true) :
    Calls Try.prog 45 #[.slice A l.length cap, .agg #[.int .i64 k, .int .i64 n, .string s]] w (MadeL w (l ++ encV k n s.data.toList)) := by
  obtain ⟨r1, r2, r3, r4⟩ := right_text hr
  have hs : k ≠ 3 → s = ⟨#[]⟩ := fun h => tol_inj (by rw [r2 h, ByteArray.toList_eq])
  have hk : k = 0 ∨ k = 1 ∨ k = 2 ∨ k = 3 := by omega
  rcases hk with rfl | rfl | rfl | rfl
  · obtain rfl := hs (by decide)
    obtain rfl : n = 0 := by simpa [rightB, r2] using hr
    exact reflay_null A cap l w hb hA hl
  · obtain rfl := hs (by decide)
    exact reflay_int A cap l n h0 h1 w hb hA hl
  · obtain rfl := hs (by decide)
    have hn : n = 0 ∨ n = 1 := by simpa [rightB, r2] using hr
    rcases hn with rfl | rfl
    · exact reflay_bool0 A cap l w hb hA hl
    · exact reflay_bool1 A cap l w hb hA hl
  · obtain rfl := r1 rfl
    have hsz : s.size ≤ 1024 := by
      have : s.toList.length ≤ 1024 := by simpa [rightB] using hr
      rwa [tol_len] at this
    exact reflay_text A cap l s hsz w hb hA hl
end Go.Proofs.Ytabnjiepmhblaaa.V4
