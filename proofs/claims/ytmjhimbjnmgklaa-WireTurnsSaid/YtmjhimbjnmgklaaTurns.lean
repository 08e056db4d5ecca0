/- The walk of stackyardlaw02.WireTurns (8): it answers true. -/
import Derived.Test.YtmjhimbjnmgklaaShown
import Derived.Deep.DeepCutAuto
namespace Go.Proofs.Ytmjhimbjnmgklaa
open Go.RowKit
set_option linter.unusedVariables false

set_option maxHeartbeats 2000000 in
theorem turns_any (a : Option Addr) (cap : Nat) (at_ : Int) (f : List UInt8) (c : UInt8) (w : World) (hb0 : Byt w a f) (hn : a = none → cap = 0) (hc0 : f.length ≤ cap) (hm : cap ≤ maxLen) :
    Calls Try.prog 8 #[.slice a f.length cap, .int .i64 at_, .int .u8 (c.toNat : Int)] w fun e w' => e = .returned (.bool true) ∧ Below w.heap.size w w' := by
  have hb : Byt w a (f.take 10000) := hb0.cut 10000
  have hlen : (f.take 10000).length = min 10000 f.length := List.length_take
  have HL1 : Hid (f.length ≤ 10000 → (f.take 10000).length = f.length) := fun h => by rw [hlen]; omega
  have HL2 : Hid (10000 < f.length → (f.take 10000).length = 10000) := fun h => by rw [hlen]; omega
  have h1 : (f.take 10000).length ≤ 10000 := by omega
  have hc : (f.take 10000).length ≤ cap := by omega
  clear hlen hb0 hm
  generalize f.take 10000 = l at hb HL1 HL2 h1 hc
  obtain ⟨i0, hti, hz0, hz1, hz2⟩ := info_parts Try.info5
  go_enter Try.func8, Try.ntmps8
  go_upto_region 2 with (go_at_call 14; refine (shown_any _).mono ?_; rintro e w1 ⟨rfl, hbel⟩)
  go_cut [0] (fun s wc => s = .slice a l.length cap ∧ wc = w1)
  case first =>
    by_cases h : f.length ≤ 10000
    · have := HL1.out h
      go_wp2_with fail
      go_meet
      exact ⟨by rw [HL1.out h], rfl⟩
    · have hlt : 10000 < f.length := by omega
      go_wp2_with fail
      go_meet
      exact ⟨by rw [HL2.out hlt], rfl⟩
  case rest =>
    obtain ⟨rfl, rfl⟩ := hcut
    clear HL1 HL2 hc0
    by_cases hlo : at_ < 0
    · have hlt : decide (at_ < 0) = true := by simpa using hlo
      go_wp2
      go_ret
      exact ⟨rfl, hbel⟩
    by_cases hhi : (l.length : Int) ≤ at_
    · have hlt : decide (at_ < 0) = false := by simp; omega
      have hge : decide ((l.length : Int) ≤ at_) = true := by simpa using hhi
      go_wp2
      go_ret
      exact ⟨rfl, hbel⟩
    obtain ⟨i, rfl⟩ : ∃ i : Nat, at_ = i := ⟨at_.toNat, by omega⟩
    have hi : i < l.length := by omega
    obtain ⟨b, o, rfl, hcell⟩ := hb i hi
    have hbw := World.block_lt_of_cell? w _ hcell
    have hi0 : ¬ ((i : Int) < 0) := by omega
    have hx := (hbel.cell hbw).trans hcell
    by_cases hne : l[i] = c
    · have ht : (((l[i]).toNat : Int) == (c.toNat : Int)) = true := by rw [hne]; simp
      clear hne
      generalize l[i] = x at hcell ht hx
      go_wp2
      go_ret
      exact ⟨rfl, hbel⟩
    · have HD : Hid (crcN (l.set i c) ≠ crcN l) := crcN_set l i c hi hne
      have ht : (((l[i]).toNat : Int) == (c.toNat : Int)) = false := by
        have : (l[i]).toNat ≠ c.toNat := fun h => hne (UInt8.toNat_inj.mp h)
        simp; omega
      clear hne
      generalize l[i] = x at hcell ht hx
      go_wp2_with (first | (at_make; refine wpList_make_own _ rfl _ _ 22 rfl w.heap.size 5 i0 (.int .u8 0) 1 Try.underlying22 hti hz0 hz1 .i64 .i64 _ l.length rfl rfl rfl (by rw [hz2]; omega) (by unfold maxLen; omega) hbel.size ?_; intro w2 hown2 hgrow2; have hbel2 := hbel.grown hgrow2 hbel.size (by simp)) | (at_builtin; refine wpList_append_own _ rfl _ _ 22 rfl w.heap.size 5 i0 (.int .u8 0) 1 1 Try.underlying22 hti hz0 hz1 hz2 rfl (by decide) _ 0 [] rfl hown2 ⟨b, o, none⟩ l.length cap (u8s l) rfl (by rw [u8s_len]; omega) (hb.keep hbel2).news (u8s_one l) (by unfold maxLen; omega) (by omega) hbel2.size ?_; intro v3 w3 hown3 hgrow3 _; obtain ⟨ho3, hbel3⟩ := own_step (d := []) hbel2 hown2 hown3 hgrow3; obtain ⟨g, c3, rfl, hg, hc3, hcm3, hcell3, hfree3, hst3⟩ := Own.at_ (l := l) ho3 hi))
      have ho4 := hst3 c
      have hbel4 := hbel3.setCell (p := ⟨g, i, none⟩) hg (.int .u8 (c.toNat : Int))
      obtain ⟨A4, c4, e4, hy4, hn4, _, _⟩ := ho4.form
      simp only [Value.slice.injEq] at e4
      obtain ⟨rfl, elen, rfl⟩ := e4
      refine (sum_boxed _ _ _ _ (l.set i c) _ (by simp [World.setCell]) (by simp) hy4 (by unfold maxLen; simp; omega) (by simp)).mono ?_
      rintro e w5 ⟨rfl, rfl⟩
      clear elen hn4 hst3 hcell3 hfree3 hbel3 ho3 hown3 hgrow3 hown2 hgrow2 hbel2 hy4 ho4 hx
      go_wp2_with fail
      have hbel5 := hbel4.alloc (by have := hbel4.size; exact this) (Obj.cells #[Value.slice (some ⟨g, 0, none⟩) l.length c3] 22)
      refine (sum_boxed _ _ _ _ l _ (by simp [World.setCell]) rfl (hb.keep hbel5) (by unfold maxLen; omega) (by simp)).mono ?_
      rintro e w6 ⟨rfl, rfl⟩
      have hbel6 := hbel5.alloc (by have := hbel5.size; exact this) (Obj.cells #[Value.slice (some ⟨b, o, none⟩) l.length cap] 22)
      have hne : (((crcN (l.set i c)).toNat : Int) == ((crcN l).toNat : Int)) = false := by
        have := HD.out
        have h2 : (crcN (l.set i c)).toNat ≠ (crcN l).toNat := fun h => this (BitVec.eq_of_toNat_eq h)
        simp; omega
      have hne2 : (((crcN (l.set i c)).toNat : Int) != ((crcN l).toNat : Int)) = true := by simp [bne, hne]
      clear hbel5 hbel4 hb hbel HD
      generalize crcN (l.set i c) = X at hne hne2
      generalize crcN l = Y at hne hne2
      go_wp2
      go_ret
      exact ⟨rfl, hbel6⟩
end Go.Proofs.Ytmjhimbjnmgklaa
