/- The document's taken. -/
import Derived.Test.YtjmkipbolldhgaaDoorDcS
namespace Go.Proofs.YtjmkipbolldhgaaDoor
open Go.RowKit
set_option linter.unusedVariables false

theorem rtt_none (a : Option Addr) (cap nb : Nat) (at_ : Int) (l : List UInt8) (w : World) (hnb : l.length = nb) (hb : Byt w a l) (hn : a = none → cap = 0) (hc : nb ≤ cap) (hm : cap ≤ 140737488351232) (ha : at_ ≤ 9223372036854775807) (h : textO l at_ 1024 = none) :
    Calls Tryd.prog 47 #[.slice a nb cap, .int .i64 at_, .int .i64 1024] w fun e w' => e = .returned (.tuple #[.string ⟨#[]⟩, .int .i64 0, .int .i64 20]) ∧ w = w' := by
  subst hnb
  refine (reftaketext_any a cap at_ 1024 l w hb hn hc hm ha).mono ?_
  rintro e w' ⟨rfl, rfl⟩
  refine ⟨?_, rfl⟩
  simp [txS, txP, txE, h, str]
theorem rtt_some (a : Option Addr) (cap nb : Nat) (at_ : Int) (l : List UInt8) (w : World) (hnb : l.length = nb) (hb : Byt w a l) (hn : a = none → cap = 0) (hc : nb ≤ cap) (hm : cap ≤ 140737488351232) (ha : at_ ≤ 9223372036854775807) {t : Tx} {p : Int} (h : textO l at_ 1024 = some (t, p)) :
    Calls Tryd.prog 47 #[.slice a nb cap, .int .i64 at_, .int .i64 1024] w fun e w' => e = .returned (.tuple #[.string (str t), .int .i64 p, .int .i64 0]) ∧ w = w' := by
  subst hnb
  refine (reftaketext_any a cap at_ 1024 l w hb hn hc hm ha).mono ?_
  rintro e w' ⟨rfl, rfl⟩
  refine ⟨?_, rfl⟩
  simp [txS, txP, txE, h]
/-- What taken hands back. -/
def TkU (W0 : World) (p b : List UInt8) (n : Nat) (e : Ending) (W' : World) : Prop := ∃ A c d at_ ok, e = .returned (.tuple #[.slice A d.length c, .int .i64 at_, .bool ok]) ∧ Strs W' A d ∧ d.length ≤ c ∧ (∀ x ∈ d, x.length ≤ 1024) ∧ Below W0.heap.size W0 W' ∧ (ok = true → d.length = n ∧ 0 ≤ at_ ∧ at_ ≤ b.length) ∧ (ok = false → d = []) ∧
  (∀ L : List Tx, (∀ x ∈ L, x.length ≤ 1024) → L.length = n → LiesT p b L → ok = true ∧ d = L ∧ at_ = ((p ++ L.flatMap txt).length : Int))

set_option maxRecDepth 100000 in
set_option maxHeartbeats 4000000 in
theorem taken_any (A : Option Addr) (cap n nb : Nat) (p b : List UInt8) (a0 : Int) (W : World) (hnb : b.length = nb) (hp : a0 = (p.length : Int)) (hb : Byt W A b) (hA : A = none → cap = 0) (hc : nb ≤ cap) (hm : cap ≤ 140737488351232) (hn : n ≤ 4096) (hpb : 0 ≤ a0 ∧ a0 ≤ nb) :
    Calls Tryd.prog 30 #[.slice A nb cap, .int .i64 a0, .int .i64 (n : Int)] W (TkU W p b n) := by
  have HB := Lib.hid hb
  have HNB := Lib.hid hnb
  have HT0 : Hid (TrT p b n [] a0) := by rw [hp]; exact trt_0 p b n
  have HA := Lib.hid hA
  have HREF : Hid (Below W.heap.size W W) := Below.refl _ _
  clear hb hA hp hnb
  go_enter Tryd.func30, Tryd.ntmps30
  go_wp2
  go_loopw [1, 9, 10] (fun pv v i wr => ∃ (d : List Tx) (at_ : Int), pv = .int .i64 at_ ∧ i = .int .i64 (d.length : Int) ∧ d.length ≤ n ∧ (∀ x ∈ d, x.length ≤ 1024) ∧ (0 ≤ at_ ∧ at_ ≤ nb) ∧ TrT p b n d at_ ∧ OwnS wr W.heap.size v d ∧ Below W.heap.size W wr) (fun _ _ i _ => n - (intOf i).toNat)
  case atStart => exact ⟨[], a0, rfl, rfl, by simp, fun y hy => absurd hy (by simp), hpb, HT0.out, World.ownsRow_nil W _ _ _, HREF.out⟩
  case round =>
    obtain ⟨d, at_, rfl, rfl, hdn, h64, hat, htr, hown, hbel⟩ := hrel
    obtain ⟨A5, c5, rfl, hi5, hn5, hl5, ha5⟩ := hown.form
    clear ha5
    obtain ⟨k, hnd⟩ : ∃ k, d.length = k := ⟨_, rfl⟩
    have HOWN : Hid (OwnS wr W.heap.size (.slice A5 k c5) d) := by show OwnS _ _ _ _; rw [← hnd]; exact hown
    rw [hnd] at hdn hl5 ⊢
    have HND := Lib.hid hnd
    have HBEL := Lib.hid hbel
    have H64 := Lib.hid h64
    have HTR := Lib.hid htr
    have HAT := Lib.hid hat
    have HI5 := Lib.hid hi5
    have HL5 := Lib.hid hl5
    by_cases hlt : k < n
    · have hbw := HB.out.keep hbel
      cases hto : textO b at_ 1024 with
      | none =>
        have hq := rtt_none A cap nb at_ b wr HNB.out hbw HA.out hc hm (by omega) hto
        have HQ := Lib.hid hq
        have HNO : Hid (∀ L : List Tx, (∀ x ∈ L, x.length ≤ 1024) → L.length = n → LiesT p b L → False) := fun L h1 h2 h3 => trt_bad htr (by rw [hnd]; exact hlt) hto L h1 h2 h3
        clear hq hto hbel h64 htr hnd hbw hown hi5 hn5 hl5
        go_wp2_with (go_at_call 47; refine HQ.out.mono ?_; rintro e w1 ⟨rfl, rfl⟩)
        go_ret3
        exact ⟨none, 0, [], 0, false, rfl, fun k hk => absurd hk (by simp), Nat.le_refl _, fun y hy => absurd hy (by simp), HBEL.out, (fun h => by cases h), fun _ => rfl, fun L h1 h2 h3 => (HNO.out L h1 h2 h3).elim⟩
      | some tp =>
        obtain ⟨t, p'⟩ := tp
        have hq := rtt_some A cap nb at_ b wr HNB.out hbw HA.out hc hm (by omega) hto
        have hend := textO_end hto
        have htr2 := trt_step htr (by rw [hnd]; exact hlt) hto
        have HQ := Lib.hid hq
        have HTR2 := Lib.hid htr2
        have H642 : Hid (∀ x ∈ d ++ [t], x.length ≤ 1024) := fun x hx => by
          rcases List.mem_append.1 hx with h | h
          · exact h64 x h
          · rw [List.mem_singleton.1 h]; exact hend.1
        have HL1 : Hid ((d ++ [t]).length = k + 1) := by show _ = _; rw [List.length_append, hnd]; rfl
        have HEND : Hid (0 ≤ p' ∧ p' ≤ (nb : Int)) := by have := HNB.out; exact ⟨hend.2.1, by omega⟩
        have HK : Hid (k < n) := hlt
        have HSZ : Hid (d.length + [t].length ≤ 1700000000000) := by show _ ≤ _; rw [List.length_singleton]; omega
        obtain ⟨sx, hsx⟩ : ∃ sx, str t = sx := ⟨_, rfl⟩
        rw [hsx] at HQ
        have HSX := Lib.hid hsx.symm
        clear hq hto hbel h64 htr hnd hbw htr2 hend hsx hown hi5 hn5 hl5
        go_wp2_with (first | (go_at_call 47; refine HQ.out.mono ?_; rintro e w1 ⟨rfl, rfl⟩) | (refine app_strs W rfl _ _ rfl _ d rfl (World.ownsRow.alloc HOWN.out _) (HBEL.out.alloc HBEL.out.size _) (some ⟨_, 0, none⟩) 1 1 [t] rfl rfl (strs_one _ 9 t sx HSX.out) (by simp) HSZ.out ?_; intro v6 w6 hown6 hbel6; have O6 := Lib.hid hown6; have E6 := Lib.hid hbel6; clear hown6 hbel6))
        go_roundw
        case rel => exact ⟨d ++ [t], p', rfl, by rw [HL1.out]; go_num, by rw [HL1.out]; exact HK.out, H642.out, HEND.out, HTR2.out, O6.out, E6.out⟩
        case measure => simp [intOf]; have := HK.out; omega
    · obtain rfl : k = n := by omega
      clear hbel h64 htr hnd hown hi5 hn5 hl5
      go_wp2
      go_ret3
      exact ⟨A5, c5, d, at_, true, by rw [HND.out]; rfl, HI5.out, by rw [HND.out]; exact HL5.out, H64.out, HBEL.out, fun _ => ⟨HND.out, HAT.out.1, by have := HAT.out.2; have := HNB.out; omega⟩, (fun h => by cases h), fun L h1 h2 h3 => by
        obtain ⟨e1, e2⟩ := trt_full HTR.out HND.out L h1 h2 h3
        exact ⟨rfl, e1, e2⟩⟩
end Go.Proofs.YtjmkipbolldhgaaDoor
