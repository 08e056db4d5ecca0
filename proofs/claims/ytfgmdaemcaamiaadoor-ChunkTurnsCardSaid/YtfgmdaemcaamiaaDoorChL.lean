/- chunk.Decode. -/
import Derived.Test.YtfgmdaemcaamiaaDoorChK
import Derived.Test.YtfgmdaemcaamiaaDoorChF
namespace Go.Proofs.YtfgmdaemcaamiaaDoor
open Go.RowKit
set_option linter.unusedVariables false

/-- What decoding a chunk hands back. -/
def DecC (W0 : World) (b : List UInt8) (e : Ending) (W' : World) : Prop := Below W0.heap.size W0 W' ∧
  ((∃ kind l A c, colR kind l = true ∧ encC kind l = b ∧ (∀ k' l', colR k' l' = true → encC k' l' = b → k' = kind ∧ l' = l) ∧ e = .returned (.tuple #[.int .i64 kind, .slice A l.length c, .int .i64 0]) ∧ Vls W' A l ∧ l.length ≤ c) ∨
   ((∀ kind l, colR kind l = true → encC kind l = b → False) ∧ e = .returned (.tuple #[.int .i64 0, .slice none 0 0, .int .i64 80])))
theorem enc_parts {kind : Int} {l : List Vl} {b : List UInt8} (h : colR kind l = true) (he : encC kind l = b) : 5 ≤ b.length ∧ (∀ h0 : 0 < b.length, ((b[0]).toNat : Int) = kind) ∧ tailC kind l = (b.drop 1).take (b.length - 5) := by
  have hk := (colR_iff.1 h).1
  have hlen := encC_len8 kind l
  have hb : encC kind l = UInt8.ofNat kind.toNat :: (tailC kind l ++ sumB (bodyC kind l)) := by
    unfold encC
    conv => lhs; lhs; unfold bodyC
    rfl
  have hbl : (bodyC kind l).length = (tailC kind l).length + 1 := by unfold bodyC; rw [List.length_cons]
  rw [he] at hb hlen
  refine ⟨by omega, fun h0 => ?_, ?_⟩
  · subst hb
    show ((UInt8.ofNat kind.toNat).toNat : Int) = kind
    rw [UInt8.toNat_ofNat']
    omega
  · have e : b.length - 5 = (tailC kind l).length := by omega
    rw [e]
    subst hb
    rw [List.drop_succ_cons, List.drop_zero, List.take_left]

set_option maxRecDepth 100000 in
set_option maxHeartbeats 8000000 in
theorem cdec_any (A : Option Addr) (cap : Nat) (b : List UInt8) (W : World) (hb : Byt W A b) (hA : A = none → cap = 0) (hc : b.length ≤ cap) (hm : cap ≤ 9223372036854775807) (hL : b.length ≤ 140737488355328) (hT : TabAt W) :
    Calls Tryd.prog 13 #[.slice A b.length cap] W (DecC W b) := by
  have HREF : Hid (Below W.heap.size W W) := Below.refl _ _
  obtain ⟨nb, hnb⟩ : ∃ nb, b.length = nb := ⟨_, rfl⟩
  by_cases h5 : b.length < 5
  · have HNO : Hid (∀ kind l, colR kind l = true → encC kind l = b → False) := fun kind l h he => by have := (enc_parts h he).1; omega
    have h5i : (nb : Int) < 5 := by omega
    rw [hnb]
    clear hb hA hT
    go_enter Tryd.func13, Tryd.ntmps13
    go_wp2
    go_ret3
    exact ⟨HREF.out, .inr ⟨HNO.out, rfl⟩⟩
  have h5i : ¬ (nb : Int) < 5 := by omega
  have h0 : 0 < b.length := by omega
  obtain ⟨bx, ox, rfl, hca⟩ := hb 0 h0
  obtain ⟨kb, hkb⟩ : ∃ kb, b[0] = kb := ⟨_, rfl⟩
  rw [hkb] at hca
  have hca0 : W.cell? ⟨bx, ox, none⟩ = some (.int .u8 (kb.toNat : Int)) := hca
  have HCA := Lib.hid hca0
  have hk256 := kb.toNat_lt
  have hcv : IntKind.i64.wrap (kb.toNat : Int) = (kb.toNat : Int) := by rw [IntKind.wrap_i64]; omega
  have hsub : IntKind.i64.wrap ((nb : Int) - 4) = (nb : Int) - 4 := by rw [IntKind.wrap_i64]; omega
  obtain ⟨mid, hmid⟩ : ∃ mid, (b.drop 1).take (b.length - 5) = mid := ⟨_, rfl⟩
  have hbm : Byt W (some ⟨bx, ox + 1, none⟩) mid := by
    intro k hk
    have hk2 : k < ((b.drop 1).take (b.length - 5)).length := by rw [hmid]; exact hk
    rw [List.length_take] at hk2
    obtain ⟨b', o', e1, e2⟩ := hb.rest7 1 k (by omega)
    exact ⟨b', o', e1, by subst hmid; rw [List.getElem_take]; exact e2⟩
  have hml : mid.length = nb - 4 - 1 := by rw [← hmid, List.length_take, List.length_drop]; omega
  have HPAR : Hid (∀ kind l, colR kind l = true → encC kind l = b → kind = (kb.toNat : Int) ∧ tailC (kb.toNat : Int) l = mid) := fun kind l h he => by
    obtain ⟨_, h2, h3⟩ := enc_parts h he
    have h2 := h2 h0
    rw [hkb] at h2
    rw [← h2, hmid] at h3
    exact ⟨h2.symm, h3⟩
  have HRD : Hid (∀ c', nb - 4 - 1 ≤ c' → c' ≤ cap → Calls Tryd.prog 33 #[.int .i64 (kb.toNat : Int), .slice (some ⟨bx, ox + 1, none⟩) (nb - 4 - 1) c'] W (RdC W (kb.toNat : Int) mid)) := fun c' h1 h2 => by
    have := cread_any (kb.toNat : Int) (some ⟨bx, ox + 1, none⟩) c' mid W hbm (fun h => by cases h) (by omega) (by omega) (by omega) hT
    rwa [hml] at this
  unfold RdC at HRD
  have HB := Lib.hid hb
  have HT := Lib.hid hT
  have hz5 : (0 : Int) < (nb : Int) := by omega
  have hs1 : (1 : Int) ≤ (nb : Int) - 4 := by omega
  have hs2 : (nb : Int) - 4 ≤ (cap : Int) := by omega
  have hcc : nb ≤ cap := by omega
  clear hb hA hT hca hbm hml hkb h0 h5 hmid
  have HNB := Lib.hid hnb
  rw [hnb] at hc hL ⊢
  clear hnb
  go_enter Tryd.func13, Tryd.ntmps13
  go_wp2_with fail
  go_at_call 33
  refine (HRD.out _ (by omega) (by omega)).mono ?_
  rintro e w1 ⟨hb1, A1, c1, L, er, rfl, hok, hcomp⟩
  have HB1 := Lib.hid hb1
  have HU : Hid (∀ kind l, colR kind l = true → encC kind l = b → kind = (kb.toNat : Int) ∧ er = 0 ∧ l = L) := fun kind l h he => by
    obtain ⟨e1, e2⟩ := HPAR.out kind l h he
    rw [e1] at h
    obtain ⟨e3, e4⟩ := hcomp l h e2
    exact ⟨e1, e3, e4.symm⟩
  have HOK := Lib.hid hok
  clear hb1 hok hcomp HRD
  by_cases her : er = 0
  · subst her
    obtain ⟨hv, hc1, hl1⟩ := HOK.out rfl
    have hT1 := HT.out.keep HB1.out
    by_cases hr : colR (kb.toNat : Int) L = true
    · have HR := Lib.hid hr
      have HE := Lib.hid (enc8_yes (kb.toNat : Int) A1 c1 L w1 hv hr hT1)
      unfold LaidI at HE
      have HV := Lib.hid hv
      have HC1 := Lib.hid hc1
      clear hv hc1 hl1 hT1 hr
      obtain ⟨eb, heb⟩ : ∃ eb, encC (kb.toNat : Int) L = eb := ⟨_, rfl⟩
      obtain ⟨ne, hne⟩ : ∃ ne, eb.length = ne := ⟨_, rfl⟩
      rw [heb] at HE
      have HEB := Lib.hid heb
      have HNE := Lib.hid hne
      clear heb hne
      go_wp2_with fail
      go_at_call 9
      refine HE.out.mono ?_
      rintro e w2 ⟨v2, rfl, ho, hb2⟩
      obtain ⟨A2, c2, rfl, hy2, _, _, _⟩ := ho.form
      have HB2 := Lib.hid (below_to HB1.out hb2)
      have HV2 := Lib.hid (HV.out.keep hb2)
      have heq2 := equal7 A2 (some ⟨bx, ox, none⟩) c2 cap eb b w2 hy2 (HB.out.keep HB2.out)
      rw [HNE.out, HNB.out] at heq2
      rw [HNE.out]
      clear ho hb2 hy2
      by_cases heq : eb = b
      · rw [decide_eq_true heq] at heq2
        have HEQ := Lib.hid heq2
        have HENC : Hid (encC (kb.toNat : Int) L = b) := HEB.out.trans heq
        clear heq heq2
        go_wp2_with fail
        go_at_call 34
        refine HEQ.out.mono ?_
        rintro e w3 ⟨rfl, rfl⟩
        go_wp2
        go_ret3
        exact ⟨HB2.out, .inl ⟨(kb.toNat : Int), L, A1, c1, HR.out, HENC.out, fun k' l' h1 h2 => by obtain ⟨e1, _, e2⟩ := HU.out k' l' h1 h2; exact ⟨e1, e2⟩, rfl, HV2.out, HC1.out⟩⟩
      · rw [decide_eq_false heq] at heq2
        have HEQ := Lib.hid heq2
        have HNO : Hid (∀ kind l, colR kind l = true → encC kind l = b → False) := fun kind l h he => by
          obtain ⟨e1, _, e2⟩ := HU.out kind l h he
          rw [e1, e2] at he
          exact heq (HEB.out.symm.trans he)
        clear heq heq2
        go_wp2_with fail
        go_at_call 34
        refine HEQ.out.mono ?_
        rintro e w3 ⟨rfl, rfl⟩
        go_wp2
        go_ret3
        exact ⟨HB2.out, .inr ⟨HNO.out, rfl⟩⟩
    · have HE := Lib.hid (enc8_no (kb.toNat : Int) A1 c1 L w1 hv (by omega) (by simpa using hr))
      have HNO : Hid (∀ kind l, colR kind l = true → encC kind l = b → False) := fun kind l h he => by
        obtain ⟨e1, _, e2⟩ := HU.out kind l h he
        rw [e1, e2] at h
        exact hr h
      clear hv hc1 hl1 hT1 hr
      go_wp2_with fail
      go_at_call 9
      refine HE.out.mono ?_
      rintro e w2 ⟨rfl, hb2⟩
      have HB2 := Lib.hid (below_to HB1.out hb2)
      clear hb2
      go_wp2
      go_ret3
      exact ⟨HB2.out, .inr ⟨HNO.out, rfl⟩⟩
  · have HNO : Hid (∀ kind l, colR kind l = true → encC kind l = b → False) := fun kind l h he => her (HU.out kind l h he).2.1
    have hi5 : (er == 0) = false := by rw [beq_eq_false_iff_ne]; exact her
    have hi6 : (er != 0) = true := by simp [her]
    clear her
    go_wp2
    go_ret3
    exact ⟨HB1.out, .inr ⟨HNO.out, rfl⟩⟩
end Go.Proofs.YtfgmdaemcaamiaaDoor
