/- The walks of NetSeals (10), NetTurns (11) and NetNone (13). -/
import Derived.Test.YtmjhimbjnmgklaaNetShown
namespace Go.Proofs.Ytmjhimbjnmgklaa
open Go.RowKit
set_option linter.unusedVariables false

theorem le4_len (r : BitVec 32) : (le4 r).length = 4 := rfl
theorem sealed_size (t : ByteArray) : (sealed t).size = t.size + 4 := by
  rw [sealed, str_size, List.length_append, le4_len, Array.length_toList]
  exact Nat.add_comm 4 t.size
theorem sealed_tail (t : ByteArray) : (sealed t).extract 4 (sealed t).size = t := by
  apply ByteArray.ext
  rw [ByteArray.data_extract, sealed_size]
  apply Array.toList_inj.1
  rw [Array.toList_extract, sealed, str_list, List.extract_eq_take_drop]
  rw [List.drop_append_of_le_length (by rw [le4_len]; omega), show (le4 (crcN t.data.toList)).drop 4 = [] from rfl, List.nil_append, List.take_of_length_le]
  rw [Array.length_toList]
  show t.size ≤ _
  omega
theorem is_sealed (t : ByteArray) : IsS (sealed t) := ⟨by rw [sealed_size]; omega, by rw [sealed_tail]⟩
theorem un_sealed (t : ByteArray) : unS (sealed t) = t := by rw [unS, if_pos (is_sealed t), sealed_tail]
theorem une_sealed (t : ByteArray) : unE (sealed t) = 0 := by rw [unE, if_pos (is_sealed t)]

theorem unseal_yes (t : ByteArray) (w : World) (h : t.size ≤ 900000) : Calls Try.prog 30 #[.string (sealed t)] w fun e w' => e = .returned (.tuple #[.string t, .int .i64 0]) ∧ Below w.heap.size w w' := by
  have := unseal_any (sealed t) w (by rw [sealed_size]; omega)
  rw [un_sealed, une_sealed] at this
  exact this
theorem cut_size (s : ByteArray) : (s.extract 0 100000).size ≤ 100000 := by simp; omega

set_option maxHeartbeats 1000000 in
set_option maxRecDepth 100000 in
theorem seals_any (s : ByteArray) (w : World) (hs : s.size ≤ maxLen) : Calls Try.prog 10 #[.string s] w fun e w' => e = .returned (.bool true) ∧ Below w.heap.size w w' := by
  have hsh := shown20_any w
  by_cases hc : s.size ≤ 100000
  · have tm : min (s.size : Int) 100000 = (s.size : Int) := by omega
    have h1 := fun W => unseal_any s W (Nat.le_trans hc (by decide))
    have h2 := fun W => refunseal_any s W (Nat.le_trans hc (by decide))
    have h3 := fun W => seal_any s W (Nat.le_trans hc (by decide))
    have h4 := fun W => unseal_yes s W (Nat.le_trans hc (by decide))
    have h5 := fun W => refseal_any s W (Nat.le_trans hc (by decide))
    generalize sealed s = q at h3 h4 h5
    generalize unS s = u at h1 h2
    generalize unE s = n at h1 h2
    go_enter Try.func10, Try.ntmps10
    go_wp2_with (first | (go_at_call 29; refine hsh.mono ?_; rintro e w1 ⟨rfl, hb⟩) | (go_at_call 31; refine (h2 _).mono ?_; rintro e w3 ⟨rfl, hb3⟩; have hb := hb.trans (hb3.mono hb.size)) | (go_at_call 30; refine (h1 _).mono ?_; rintro e w2 ⟨rfl, hb2⟩; have hb := hb.trans (hb2.mono hb.size); clear h1) | (go_at_call 30; refine (h4 _).mono ?_; rintro e w5 ⟨rfl, hb5⟩; have hb := hb.trans (hb5.mono hb.size)) | (go_at_call 33; refine (h5 _).mono ?_; rintro e w7 ⟨rfl, hb7⟩; have hb := hb.trans (hb7.mono hb.size)) | (go_at_call 32; refine (h3 _).mono ?_; rintro e w4 ⟨rfl, hb4⟩; have hb := hb.trans (hb4.mono hb.size)))
    go_ret
    exact ⟨rfl, hb⟩
  · have tm : min (s.size : Int) 100000 = 100000 := by omega
    have h1 := fun W => unseal_any (s.extract 0 100000) W (Nat.le_trans (cut_size s) (by decide))
    have h2 := fun W => refunseal_any (s.extract 0 100000) W (Nat.le_trans (cut_size s) (by decide))
    have h3 := fun W => seal_any (s.extract 0 100000) W (Nat.le_trans (cut_size s) (by decide))
    have h4 := fun W => unseal_yes (s.extract 0 100000) W (Nat.le_trans (cut_size s) (by decide))
    have h5 := fun W => refseal_any (s.extract 0 100000) W (Nat.le_trans (cut_size s) (by decide))
    generalize sealed (s.extract 0 100000) = q at h3 h4 h5
    generalize unS (s.extract 0 100000) = u at h1 h2
    generalize unE (s.extract 0 100000) = n at h1 h2
    go_enter Try.func10, Try.ntmps10
    go_wp2_with (first | (go_at_call 29; refine hsh.mono ?_; rintro e w1 ⟨rfl, hb⟩) | (go_at_call 31; refine (h2 _).mono ?_; rintro e w3 ⟨rfl, hb3⟩; have hb := hb.trans (hb3.mono hb.size)) | (go_at_call 30; refine (h1 _).mono ?_; rintro e w2 ⟨rfl, hb2⟩; have hb := hb.trans (hb2.mono hb.size); clear h1) | (go_at_call 30; refine (h4 _).mono ?_; rintro e w5 ⟨rfl, hb5⟩; have hb := hb.trans (hb5.mono hb.size)) | (go_at_call 33; refine (h5 _).mono ?_; rintro e w7 ⟨rfl, hb7⟩; have hb := hb.trans (hb7.mono hb.size)) | (go_at_call 32; refine (h3 _).mono ?_; rintro e w4 ⟨rfl, hb4⟩; have hb := hb.trans (hb4.mono hb.size)))
    go_ret
    exact ⟨rfl, hb⟩
end Go.Proofs.Ytmjhimbjnmgklaa
