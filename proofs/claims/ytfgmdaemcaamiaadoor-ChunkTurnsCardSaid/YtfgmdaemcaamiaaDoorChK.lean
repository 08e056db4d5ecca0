/- chunk.read. -/
import Derived.Test.YtfgmdaemcaamiaaDoorChJ
namespace Go.Proofs.YtfgmdaemcaamiaaDoor
open Go.RowKit
set_option linter.unusedVariables false

/-- What a chunk's tail says. -/
theorem tail_parts {kind : Int} {l : List Vl} {b : List UInt8} (h : colR kind l = true) (he : tailC kind l = b) :
    takeO b 0 = some (l.length, (num l.length).length) ∧ takeO b ((num l.length).length : Int) = some (nulN l, (num (nulN l)).length) ∧ b.drop ((num l.length).length + (num (nulN l)).length) = maskB l ++ othB kind l := by
  have hn := (colR_iff.1 h).2.1
  have ho := nulN_oth l
  subst he
  unfold tailC
  refine ⟨takeO_at [] _ l.length (by omega), takeO_at (num l.length) _ (nulN l) (by omega), ?_⟩
  rw [← List.append_assoc, ← List.length_append, List.drop_left]
theorem oth_of {kind : Int} {l : List Vl} (h : colR kind l = true) (hlt : nulN l < l.length) : OthOf kind (othB kind l) (l.length - nulN l) (othL l) := by
  have hn := (colR_iff.1 h).2.1
  have ho := nulN_oth l
  have e : l.length - nulN l = (othL l).length := by omega
  rw [e]
  unfold othB
  rw [if_pos hlt]
  by_cases h3 : kind = 3
  · subst h3
    rw [if_pos rfl]
    refine .inl ⟨rfl, txtsL l, ⟨bstT (txtsL l), bstT_lt _, by omega, by omega, txts_right h, ?_, rfl⟩, (txts_back h).symm⟩
    rw [txts_len]; rfl
  · rw [if_neg h3]
    refine .inr ⟨h3, numsL l, ⟨bestL (numsL l), (bestL_spec _).1, by omega, by omega, nums_64 l, ?_, rfl⟩, (nums_back h h3).symm⟩
    rw [nums_len]; rfl
/-- What reading a chunk hands back. -/
def RdC (W0 : World) (kind : Int) (b : List UInt8) (e : Ending) (W' : World) : Prop := Below W0.heap.size W0 W' ∧ ∃ A c L er, e = .returned (.tuple #[.slice A L.length c, .int .i64 er]) ∧ (er = 0 → Vls W' A L ∧ L.length ≤ c ∧ L.length ≤ 1024) ∧ ∀ l, colR kind l = true → tailC kind l = b → er = 0 ∧ L = l
theorem RdC.nul {W0 W : World} {kind : Int} {b : List UInt8} {er : Int} (he : ¬ er = 0) (hb : Below W0.heap.size W0 W) (h : ∀ l, colR kind l = true → tailC kind l = b → False) : RdC W0 kind b (.returned (.tuple #[.slice none 0 0, .int .i64 er])) W :=
  ⟨hb, none, 0, [], er, rfl, fun h' => (he h').elim, fun l h1 h2 => (h l h1 h2).elim⟩
/-- What follows the mask. -/
def RestOf (kind : Int) (b : List UInt8) (n z p : Nat) (M : List W64) : Prop := ∀ l, colR kind l = true → tailC kind l = b → l.length = n ∧ nulN l = z ∧ z < n ∧ b.drop p = othB kind l ∧ M = maskL l
theorem rest_end {kind : Int} {b : List UInt8} {n z p : Nat} {M : List W64} (h : RestOf kind b n z p M) {L' : List Vl} (hu : ∀ L, OthOf kind (b.drop p) (n - z) L → L = L') : ∀ l, colR kind l = true → tailC kind l = b → spread L' M = some l := fun l h1 h2 => by
  obtain ⟨e1, e2, e3, e4, e5⟩ := h l h1 h2
  have ho := oth_of h1 (by omega)
  rw [← e4, e1, e2] at ho
  rw [← hu _ ho, e5]
  exact spread_back l (nul_col h1)
theorem slice_rest {W : World} {bx ox cap p : Nat} {b : List UInt8} (hb : Byt W (some ⟨bx, ox, none⟩) b) (hc : b.length ≤ cap) : ∃ AR, (if cap = p then (some ⟨bx, ox, none⟩ : Option Addr) else some ⟨bx, ox + p, none⟩) = AR ∧ Byt W AR (b.drop p) ∧ (AR = none → cap - p = 0) := by
  by_cases hcap : cap = p
  · refine ⟨_, if_pos hcap, ?_, fun h => by cases h⟩
    rw [List.drop_of_length_le (by omega)]
    exact Byt.empty _ _
  · exact ⟨_, if_neg hcap, hb.rest7 p, fun h => by cases h⟩

set_option maxRecDepth 100000 in
set_option maxHeartbeats 8000000 in
theorem cread_any (kind : Int) (A : Option Addr) (cap : Nat) (b : List UInt8) (W : World) (hb : Byt W A b) (hA : A = none → cap = 0) (hc : b.length ≤ cap) (hm : cap ≤ 9223372036854775807) (hL : b.length ≤ 140737488355328) (hT : TabAt W) :
    Calls Tryd.prog 33 #[.int .i64 kind, .slice A b.length cap] W (RdC W kind b) := by
  have HREF : Hid (Below W.heap.size W W) := Below.refl _ _
  obtain ⟨nb, hnb⟩ : ∃ nb, b.length = nb := ⟨_, rfl⟩
  have hparts := fun l h (he : tailC kind l = b) => tail_parts h he
  cases hto : takeO b 0 with
  | none =>
    have HQ := Lib.hid (tn7_none A cap b.length 0 b W rfl hb hc hm hL hto)
    have HNO : Hid (∀ l, colR kind l = true → tailC kind l = b → False) := fun l h he => by
      have := (hparts l h he).1
      rw [hto] at this
      cases this
    clear hb hparts hto hT hA
    rw [hnb] at *
    go_enter Tryd.func33, Tryd.ntmps33
    go_wp2_with (go_at_call 56; refine HQ.out.mono ?_; rintro e w1 ⟨rfl, rfl⟩)
    go_ret2
    exact RdC.nul (by decide) HREF.out HNO.out
  | some nc =>
    obtain ⟨n, c1⟩ := nc
    have HQ := Lib.hid (tn7_some A cap b.length 0 b W rfl hb hc hm hL hto)
    have hend := takeO_end7 hto
    rw [Int.zero_add] at HQ hend
    by_cases hn : 1024 < n
    · have hni : (1024 : Int) < (n : Int) := by omega
      have HNO : Hid (∀ l, colR kind l = true → tailC kind l = b → False) := fun l h he => by
        have h1 := (hparts l h he).1
        have h2 := (colR_iff.1 h).2.1
        rw [hto] at h1
        simp only [Option.some.injEq, Prod.mk.injEq] at h1
        omega
      clear hb hparts hto hT hA
      rw [hnb] at *
      go_enter Tryd.func33, Tryd.ntmps33
      go_wp2_with (go_at_call 56; refine HQ.out.mono ?_; rintro e w1 ⟨rfl, rfl⟩)
      go_ret2
      exact RdC.nul (by decide) HREF.out HNO.out
    have hni : ¬ (1024 : Int) < (n : Int) := by omega
    have hparts : ∀ l, colR kind l = true → tailC kind l = b → l.length = n ∧ takeO b (c1 : Int) = some (nulN l, (num (nulN l)).length) ∧ b.drop (c1 + (num (nulN l)).length) = maskB l ++ othB kind l := fun l h he => by
      obtain ⟨h1, h2, h3⟩ := hparts l h he
      rw [hto] at h1
      simp only [Option.some.injEq, Prod.mk.injEq] at h1
      obtain ⟨e1, e2⟩ := h1
      rw [← e2] at h2 h3
      exact ⟨e1.symm, h2, h3⟩
    cases hto2 : takeO b (c1 : Int) with
    | none =>
      have HQ2 := Lib.hid (tn7_none A cap b.length (c1 : Int) b W rfl hb hc hm hL hto2)
      have HNO : Hid (∀ l, colR kind l = true → tailC kind l = b → False) := fun l h he => by
        have := (hparts l h he).2.1
        rw [hto2] at this
        cases this
      clear hb hparts hto hto2 hT hA
      rw [hnb] at *
      go_enter Tryd.func33, Tryd.ntmps33
      go_wp2_with fail
      go_at_call 56
      refine HQ.out.mono ?_
      rintro e w1 ⟨rfl, rfl⟩
      go_wp2_with fail
      go_at_call 56
      refine HQ2.out.mono ?_
      rintro e w2 ⟨rfl, rfl⟩
      go_wp2
      go_ret2
      exact RdC.nul (by decide) HREF.out HNO.out
    | some zc =>
      obtain ⟨z, c2⟩ := zc
      have HQ2 := Lib.hid (tn7_some A cap b.length (c1 : Int) b W rfl hb hc hm hL hto2)
      have hend2 := takeO_end7 hto2
      have hparts : ∀ l, colR kind l = true → tailC kind l = b → l.length = n ∧ nulN l = z ∧ b.drop (c1 + c2) = maskB l ++ othB kind l := fun l h he => by
        obtain ⟨h0, h1, h2⟩ := hparts l h he
        rw [hto2] at h1
        simp only [Option.some.injEq, Prod.mk.injEq] at h1
        obtain ⟨e1, e2⟩ := h1
        rw [← e2] at h2
        exact ⟨h0, e1.symm, h2⟩
      by_cases hzn : n < z
      · have hzi : (n : Int) < (z : Int) := by omega
        have HNO : Hid (∀ l, colR kind l = true → tailC kind l = b → False) := fun l h he => by
          obtain ⟨h1, h2, _⟩ := hparts l h he
          have := nulN_oth l
          omega
        clear hb hparts hto hto2 hT hA
        rw [hnb] at *
        go_enter Tryd.func33, Tryd.ntmps33
        go_wp2_with fail
        go_at_call 56
        refine HQ.out.mono ?_
        rintro e w1 ⟨rfl, rfl⟩
        go_wp2_with fail
        go_at_call 56
        refine HQ2.out.mono ?_
        rintro e w2 ⟨rfl, rfl⟩
        go_wp2
        go_ret2
        exact RdC.nul (by decide) HREF.out HNO.out
      have hzi : ¬ (n : Int) < (z : Int) := by omega
      have hcvn : IntKind.i64.wrap (n : Int) = (n : Int) := by rw [IntKind.wrap_i64]; omega
      by_cases hall : z = n
      · subst hall
        have HALL : Hid (∀ l, colR kind l = true → tailC kind l = b → List.replicate z nulV = l) := fun l h he => by
          obtain ⟨h1, h2, _⟩ := hparts l h he
          have := all_nul h (by omega)
          rw [this, h1]
        have hlt : ¬ (z : Int) < (z : Int) := by omega
        have HN : Hid (¬ 1024 < z) := hn
        have hz0 : (0 : Int) < (z : Int) ∨ ¬ (0 : Int) < (z : Int) := by omega
        clear hb hparts hto hto2 hT hA
        rw [hnb] at *
        rcases hz0 with hz0 | hz0
        · go_enter Tryd.func33, Tryd.ntmps33
          go_wp2_with fail
          go_at_call 56
          refine HQ.out.mono ?_
          rintro e w1 ⟨rfl, rfl⟩
          go_wp2_with fail
          go_at_call 56
          refine HQ2.out.mono ?_
          rintro e w2 ⟨rfl, rfl⟩
          go_wp2_with (refine mk_pl22 rfl _ _ rfl z rfl rfl (by omega) ?_; refine Hid.out ?_)
          refine Lib.hid ?_
          generalize hW1 : W.alloc (.cells (n64s (List.replicate z 0)).toArray 43) = W1
          have HB1 : Hid (Below W.heap.size W W1) := by rw [← hW1]; exact (Below.refl _ _).alloc (Nat.le_refl _) _
          clear hW1
          go_wp2_with (refine mk8_vals rfl _ _ rfl z rfl rfl (by omega) ?_; refine Hid.out ?_)
          refine Lib.hid ?_
          generalize hW2 : W1.alloc (.cells ((List.replicate z nulV).flatMap vlC).toArray 30) = W2
          have HV : Hid (Vls W2 (some ⟨W1.heap.size, 0, none⟩) (List.replicate z nulV)) := by rw [← hW2]; exact vls_blk (Blk.born W1 _ _)
          have HB2 : Hid (Below W.heap.size W W2) := by rw [← hW2]; exact HB1.out.alloc HB1.out.size _
          clear hW2
          go_wp2
          go_ret2
          exact ⟨HB2.out, some ⟨W1.heap.size, 0, none⟩, z, List.replicate z nulV, 0, by rw [List.length_replicate]; rfl, fun _ => ⟨HV.out, by rw [List.length_replicate]; exact Nat.le_refl _, by rw [List.length_replicate]; have := HN.out; omega⟩, fun l h1 h2 => ⟨rfl, HALL.out l h1 h2⟩⟩
        · go_enter Tryd.func33, Tryd.ntmps33
          go_wp2_with fail
          go_at_call 56
          refine HQ.out.mono ?_
          rintro e w1 ⟨rfl, rfl⟩
          go_wp2_with fail
          go_at_call 56
          refine HQ2.out.mono ?_
          rintro e w2 ⟨rfl, rfl⟩
          go_wp2_with (refine mk_pl22 rfl _ _ rfl z rfl rfl (by omega) ?_; refine Hid.out ?_)
          refine Lib.hid ?_
          generalize hW1 : W.alloc (.cells (n64s (List.replicate z 0)).toArray 43) = W1
          have HB1 : Hid (Below W.heap.size W W1) := by rw [← hW1]; exact (Below.refl _ _).alloc (Nat.le_refl _) _
          clear hW1
          go_wp2_with (refine mk8_vals rfl _ _ rfl z rfl rfl (by omega) ?_; refine Hid.out ?_)
          refine Lib.hid ?_
          generalize hW2 : W1.alloc (.cells ((List.replicate z nulV).flatMap vlC).toArray 30) = W2
          have HV : Hid (Vls W2 (some ⟨W1.heap.size, 0, none⟩) (List.replicate z nulV)) := by rw [← hW2]; exact vls_blk (Blk.born W1 _ _)
          have HB2 : Hid (Below W.heap.size W W2) := by rw [← hW2]; exact HB1.out.alloc HB1.out.size _
          clear hW2
          go_wp2
          go_ret2
          exact ⟨HB2.out, some ⟨W1.heap.size, 0, none⟩, z, List.replicate z nulV, 0, by rw [List.length_replicate]; rfl, fun _ => ⟨HV.out, by rw [List.length_replicate]; exact Nat.le_refl _, by rw [List.length_replicate]; have := HN.out; omega⟩, fun l h1 h2 => ⟨rfl, HALL.out l h1 h2⟩⟩
      have hnz : z < n := by omega
      have HN : Hid (n ≤ 1024) := by show _ ≤ _; omega
      have h0 : 0 < b.length := by
        rcases Nat.eq_zero_or_pos b.length with h | h
        · rw [List.length_eq_zero_iff.1 h] at hto; simp [takeO, decF] at hto
        · exact h
      obtain ⟨bx, ox, rfl⟩ : ∃ bx ox, A = some ⟨bx, ox, none⟩ := by obtain ⟨bx, ox, e, _⟩ := hb 0 h0; exact ⟨bx, ox, e⟩
      obtain ⟨q, hq⟩ : ∃ q, n - z = q := ⟨_, rfl⟩
      have HQQ : Hid (n - z = q) := hq
      have hqi : IntKind.i64.wrap ((n : Int) - (z : Int)) = (q : Int) := by rw [IntKind.wrap_i64]; omega
      have hcvz : IntKind.i64.wrap (z : Int) = (z : Int) := by rw [IntKind.wrap_i64]; omega
      have hzne : ((z : Int) == (n : Int)) = false := by rw [beq_eq_false_iff_ne]; omega
      have hzni : (z : Int) < (n : Int) := by omega
      obtain ⟨p, hp⟩ : ∃ p : Nat, c1 + c2 = p := ⟨_, rfl⟩
      have hpi : (c1 : Int) + (c2 : Int) = (p : Int) := by omega
      rw [hpi] at HQ2 hend2
      rw [hp] at hparts
      have HDO := Lib.hid (fun (w : World) (p : Nat) (hw : Below W.heap.size W w) {AR : Option Addr} (h : Byt W AR (b.drop p)) (hA : AR = none → cap - p = 0) => by
        have := deco_any kind AR (cap - p) (b.drop p) q w (h.keep hw) hA (by rw [List.length_drop]; omega) (by omega) (by rw [List.length_drop]; omega) (by omega) (hT.keep hw)
        rw [List.length_drop, hnb] at this
        exact this)
      unfold DecO at HDO
      have hple : p ≤ nb := by omega
      have hps : (p : Int) ≤ (nb : Int) := by omega
      by_cases hz : z = 0
      · subst hz
        obtain ⟨AR, hAR, hyr, harn⟩ := slice_rest (p := p) hb hc
        have HYR := Lib.hid hyr
        have HARN := Lib.hid harn
        have HRO : Hid (∀ l, colR kind l = true → tailC kind l = b → l.length = n ∧ nulN l = 0 ∧ 0 < n ∧ b.drop p = othB kind l ∧ List.replicate n 0#64 = maskL l) := fun l h1 h2 => by
          obtain ⟨e1, e2, e3⟩ := hparts l h1 h2
          refine ⟨e1, e2, hnz, ?_, ?_⟩
          · rw [e3]
            unfold maskB
            rw [if_neg (by omega)]
            rfl
          · rw [no_nul e2, e1]
        have HRO : Hid (RestOf kind b n 0 p (List.replicate n 0#64)) := HRO.out
        have hq : n = q := by omega
        have HMM : Hid ((List.replicate n 0#64).length = n) := by show _ = _; rw [List.length_replicate]
        subst hq
        clear hb hparts hto hto2 hT hA hyr harn h0 hn hall
        rw [hnb] at *
        go_enter Tryd.func33, Tryd.ntmps33
        go_wp2_with fail
        go_at_call 56
        refine HQ.out.mono ?_
        rintro e w1 ⟨rfl, rfl⟩
        go_wp2_with fail
        go_at_call 56
        refine HQ2.out.mono ?_
        rintro e w2 ⟨rfl, rfl⟩
        go_wp2_with (refine mk_pl22 rfl _ _ rfl n rfl rfl (by omega) ?_; refine Hid.out ?_)
        refine Lib.hid ?_
        have HNUM := Lib.hid (num_born W 43 (List.replicate n 0#64))
        generalize hW1 : W.alloc (.cells (n64s (List.replicate n 0)).toArray 43) = W1
        have HB1 : Hid (Below W.heap.size W W1) := by rw [← hW1]; exact (Below.refl _ _).alloc (Nat.le_refl _) _
        have HNUM : Hid (Num W1 (some ⟨W.heap.size, 0, none⟩) (List.replicate n 0#64)) := by rw [← hW1]; exact HNUM.out
        clear hW1
        go_wp2_with fail
        go_at_call 58
        refine (HDO.out _ p HB1.out HYR.out HARN.out).mono ?_
        rintro e w5 ⟨hb5, (⟨L', A5, c5, ho, hu, rfl, hv5, hlc5, hc5, hA5, hln5⟩ | ⟨hno, v5, er5, rfl, hne⟩)⟩
        · have HB5 := Lib.hid (below_to HB1.out hb5)
          have HEND := Lib.hid (rest_end HRO.out hu)
          have HNM5 := Lib.hid (HNUM.out.keep hb5)
          have HV5 := Lib.hid hv5
          have HL5 := Lib.hid hlc5
          have HC5 := Lib.hid hc5
          have HA5 := Lib.hid hA5
          clear ho hu hv5 hlc5 hc5 hA5 hln5 hb5
          go_wp2_with fail
          go_at_call 59
          have hdi := distribute_any A5 (some ⟨W.heap.size, 0, none⟩) c5 n L' (List.replicate n 0#64) w5 HV5.out HNM5.out HL5.out HC5.out HA5.out (by rw [HMM.out]; exact HN.out)
          rw [HMM.out] at hdi
          refine hdi.mono ?_
          rintro e w6 ⟨hb6, (⟨A6, c6, L6, hs6, rfl, hv6, hc6⟩ | ⟨hs6, rfl⟩)⟩
          · have HB6 := Lib.hid (below_to HB5.out hb6)
            have HV6 := Lib.hid hv6
            have HL6 : Hid (L6.length ≤ 1024) := by have h1 := spread_len _ _ _ hs6; have h2 := HMM.out; have h3 := HN.out; show _ ≤ _; omega
            have HC6 := Lib.hid hc6
            have HE6 : Hid (∀ l, colR kind l = true → tailC kind l = b → L6 = l) := fun l h1 h2 => by
              have h := HEND.out l h1 h2
              rw [hs6] at h
              injection h
            clear hb6 hv6 hc6 hs6
            go_wp2
            go_ret2
            exact ⟨HB6.out, A6, c6, L6, 0, rfl, fun _ => ⟨HV6.out, HC6.out, HL6.out⟩, fun l h1 h2 => ⟨rfl, HE6.out l h1 h2⟩⟩
          · have HB6 := Lib.hid (below_to HB5.out hb6)
            have HE6 : Hid (∀ l, colR kind l = true → tailC kind l = b → False) := fun l h1 h2 => by
              have h := HEND.out l h1 h2
              rw [hs6] at h
              cases h
            clear hb6 hs6
            go_wp2
            go_ret2
            exact RdC.nul (by decide) HB6.out HE6.out
        · have HB5 := Lib.hid (below_to HB1.out hb5)
          have HE5 : Hid (∀ l, colR kind l = true → tailC kind l = b → False) := fun l h1 h2 => by
            obtain ⟨e1, e2, e3, e4, e5⟩ := HRO.out l h1 h2
            have ho := oth_of h1 (by omega)
            rw [← e4, e1, e2] at ho
            exact hno _ ho
          have hi5 : (er5 == 0) = false := by rw [beq_eq_false_iff_ne]; exact hne
          have hi6 : (er5 != 0) = true := by simp [hne]
          have HNE := Lib.hid hne
          clear hno hb5 hne
          go_wp2
          go_ret2
          exact RdC.nul HNE.out HB5.out HE5.out
      · have hz0 : (0 : Int) < (z : Int) := by omega
        have hzn0 : 0 < z := by omega
        obtain ⟨sz, hsz⟩ : ∃ sz, (n + 7) / 8 = sz := ⟨_, rfl⟩
        have hsw : ((n : Int) * 1 + 7) / 8 = (sz : Int) := by omega
        have HSZ := Lib.hid (fun w => size_any (n : Int) 1 w)
        rw [sizeR_good (by omega), hsw] at HSZ
        have hsub : IntKind.i64.wrap ((nb : Int) - (p : Int)) = (nb : Int) - (p : Int) := by rw [IntKind.wrap_i64]; omega
        by_cases hfit : nb - p < sz
        · have hfi : (nb : Int) - (p : Int) < (sz : Int) := by omega
          have HNO : Hid (∀ l, colR kind l = true → tailC kind l = b → False) := fun l h1 h2 => by
            obtain ⟨e1, e2, e3⟩ := hparts l h1 h2
            have := congrArg List.length e3
            unfold maskB at this
            rw [if_pos (by omega), List.length_drop, List.length_append, packL_len] at this
            omega
          clear hb hparts hto hto2 hT hA h0 hn hall HDO
          rw [hnb] at *
          go_enter Tryd.func33, Tryd.ntmps33
          go_wp2_with fail
          go_at_call 56
          refine HQ.out.mono ?_
          rintro e w1 ⟨rfl, rfl⟩
          go_wp2_with fail
          go_at_call 56
          refine HQ2.out.mono ?_
          rintro e w2 ⟨rfl, rfl⟩
          go_wp2_with (refine mk_pl22 rfl _ _ rfl n rfl rfl (by omega) ?_; refine Hid.out ?_)
          refine Lib.hid ?_
          generalize hW1 : W.alloc (.cells (n64s (List.replicate n 0)).toArray 43) = W1
          have HB1 : Hid (Below W.heap.size W W1) := by rw [← hW1]; exact (Below.refl _ _).alloc (Nat.le_refl _) _
          clear hW1
          go_wp2_with fail
          go_at_call 37
          refine (HSZ.out _).mono ?_
          rintro e w3 ⟨rfl, rfl⟩
          go_wp2
          go_ret2
          exact RdC.nul (by decide) HB1.out HNO.out
        · have hfi : ¬ (nb : Int) - (p : Int) < (sz : Int) := by omega
          have hym := hb.rest7 p
          obtain ⟨r, hr⟩ : ∃ r, p + sz = r := ⟨_, rfl⟩
          have hri : (p : Int) + (sz : Int) = (r : Int) := by omega
          have hrw : IntKind.i64.wrap ((p : Int) + (sz : Int)) = (r : Int) := by rw [IntKind.wrap_i64]; omega
          have hrl : (r : Int) ≤ (nb : Int) := by omega
          have hrc : (r : Int) ≤ (cap : Int) := by omega
          have hpr : (p : Int) ≤ (r : Int) := by omega
          obtain ⟨AR, hAR, hyr, harn⟩ := slice_rest (p := r) hb hc
          have hym2 : Byt W (some ⟨bx, ox + p, none⟩) ((b.drop p).take sz) := fun k hk => by
            rw [List.length_take] at hk
            obtain ⟨b', o', e1, e2⟩ := hym k (by omega)
            exact ⟨b', o', e1, by rw [List.getElem_take]; exact e2⟩
          have hml : ((b.drop p).take sz).length = r - p := by rw [List.length_take, List.length_drop]; omega
          have HUN : Hid (∀ c' (W' : World), Below W.heap.size W W' → Calls Tryd.prog 57 #[.slice (some ⟨bx, ox + p, none⟩) (r - p) c', .int .i64 (n : Int), .int .i64 1] W' (UnpR W' (unV (n : Int) 1 ((b.drop p).take sz)) (unE (n : Int) 1 ((b.drop p).take sz)))) := fun c' W' hW => by
            have := un_prog (n : Int) 1 (some ⟨bx, ox + p, none⟩) c' ((b.drop p).take sz) W' (hym2.keep hW) (hT.keep hW)
            rwa [hml] at this
          obtain ⟨V, hV⟩ : ∃ V, unV (n : Int) 1 ((b.drop p).take sz) = V := ⟨_, rfl⟩
          obtain ⟨er, hE⟩ : ∃ er, unE (n : Int) 1 ((b.drop p).take sz) = er := ⟨_, rfl⟩
          have hpar2 : ∀ l, colR kind l = true → tailC kind l = b → er = 0 ∧ l.length = n ∧ nulN l = z ∧ z < n ∧ b.drop r = othB kind l ∧ V = maskL l := fun l h1 h2 => by
            obtain ⟨e1, e2, e3⟩ := hparts l h1 h2
            have hmb : maskB l = pkB 1 (maskL l) := by
              have hpk : pkOk 1 (maskL l) := ⟨by omega, by omega, by rw [maskL_len]; omega, by have := maskL_wid l; omega⟩
              unfold maskB pkB
              rw [if_pos (by omega), if_pos hpk, maskL_len]
              simp
            have hmbl : (maskB l).length = sz := by unfold maskB; rw [if_pos (by omega), packL_len]; omega
            have h3 : (b.drop p).take sz = pkB 1 (maskL l) := by rw [e3, ← hmbl, List.take_left, hmb]
            have h4 : b.drop r = othB kind l := by rw [← hr, ← List.drop_drop, e3, ← hmbl, List.drop_left]
            have hpe : pkE 1 (maskL l) = 0 := by
              unfold pkE
              rw [if_pos (show pkOk 1 (maskL l) from ⟨by omega, by omega, by rw [maskL_len]; omega, by have := maskL_wid l; omega⟩)]
            have h5 := back1 hpe
            rw [← h3, maskL_len, e1, hV, hE] at h5
            exact ⟨h5.1, e1, e2, hnz, h4, h5.2⟩
          have hVn : er = 0 → V.length = n := fun h => by
            have := (back2 (by rw [hE]; exact h)).1
            rw [hV] at this
            omega
          rw [hV, hE] at HUN
          have HYR := Lib.hid hyr
          have HARN := Lib.hid harn
          have HPAR := Lib.hid hpar2
          have HVN := Lib.hid hVn
          obtain ⟨vl, hvl⟩ : ∃ vl, V.length = vl := ⟨_, rfl⟩
          have HVL := Lib.hid hvl
          unfold UnpR at HUN
          rw [hvl] at HUN
          clear hb hparts hto hto2 hT hA h0 hn hall hym hym2 hml hyr harn hV hE hVn hpar2 hvl
          rw [hnb] at *
          go_enter Tryd.func33, Tryd.ntmps33
          go_wp2_with fail
          go_at_call 56
          refine HQ.out.mono ?_
          rintro e w1 ⟨rfl, rfl⟩
          go_wp2_with fail
          go_at_call 56
          refine HQ2.out.mono ?_
          rintro e w2 ⟨rfl, rfl⟩
          go_wp2_with (refine mk_pl22 rfl _ _ rfl n rfl rfl (by omega) ?_; refine Hid.out ?_)
          refine Lib.hid ?_
          generalize hW1 : W.alloc (.cells (n64s (List.replicate n 0)).toArray 43) = W1
          have HB1 : Hid (Below W.heap.size W W1) := by rw [← hW1]; exact (Below.refl _ _).alloc (Nat.le_refl _) _
          clear hW1
          go_wp2_with fail
          go_at_call 37
          refine (HSZ.out _).mono ?_
          rintro e w3 ⟨rfl, rfl⟩
          go_wp2_with fail
          go_at_call 57
          refine (HUN.out _ _ HB1.out).mono ?_
          rintro e w4 ⟨A4, c4, rfl, hnum, hb4⟩
          have HNUM := Lib.hid hnum
          have HB4 := Lib.hid (below_to HB1.out hb4)
          clear hnum hb4 HUN
          by_cases her : er = 0
          · subst her
            have hvn : vl = n := by rw [← HVL.out]; exact HVN.out rfl
            subst hvn
            have HMM : Hid (V.length = vl) := HVL.out
            have HRO : Hid (RestOf kind b vl z r V) := fun l h1 h2 => (HPAR.out l h1 h2).2
            go_wp2_with fail
            go_at_call 58
            refine (HDO.out _ r HB4.out HYR.out HARN.out).mono ?_
            rintro e w5 ⟨hb5, (⟨L', A5, c5, ho, hu, rfl, hv5, hlc5, hc5, hA5, hln5⟩ | ⟨hno, v5, er5, rfl, hne⟩)⟩
            · have HB5 := Lib.hid (below_to HB4.out hb5)
              have HEND := Lib.hid (rest_end HRO.out (by rw [HQQ.out]; exact hu))
              have HNM5 := Lib.hid (HNUM.out.keep hb5)
              have HV5 := Lib.hid hv5
              have HL5 := Lib.hid hlc5
              have HC5 := Lib.hid hc5
              have HA5 := Lib.hid hA5
              clear ho hu hv5 hlc5 hc5 hA5 hln5 hb5
              go_wp2_with fail
              go_at_call 59
              have hdi := distribute_any A5 A4 c5 c4 L' V w5 HV5.out HNM5.out HL5.out HC5.out HA5.out (by rw [HMM.out]; exact HN.out)
              rw [HMM.out] at hdi
              refine hdi.mono ?_
              rintro e w6 ⟨hb6, (⟨A6, c6, L6, hs6, rfl, hv6, hc6⟩ | ⟨hs6, rfl⟩)⟩
              · have HB6 := Lib.hid (below_to HB5.out hb6)
                have HV6 := Lib.hid hv6
                have HL6 : Hid (L6.length ≤ 1024) := by have h1 := spread_len _ _ _ hs6; have h2 := HMM.out; have h3 := HN.out; show _ ≤ _; omega
                have HC6 := Lib.hid hc6
                have HE6 : Hid (∀ l, colR kind l = true → tailC kind l = b → L6 = l) := fun l h1 h2 => by
                  have h := HEND.out l h1 h2
                  rw [hs6] at h
                  injection h
                clear hb6 hv6 hc6 hs6
                go_wp2
                go_ret2
                exact ⟨HB6.out, A6, c6, L6, 0, rfl, fun _ => ⟨HV6.out, HC6.out, HL6.out⟩, fun l h1 h2 => ⟨rfl, HE6.out l h1 h2⟩⟩
              · have HB6 := Lib.hid (below_to HB5.out hb6)
                have HE6 : Hid (∀ l, colR kind l = true → tailC kind l = b → False) := fun l h1 h2 => by
                  have h := HEND.out l h1 h2
                  rw [hs6] at h
                  cases h
                clear hb6 hs6
                go_wp2
                go_ret2
                exact RdC.nul (by decide) HB6.out HE6.out
            · have HB5 := Lib.hid (below_to HB4.out hb5)
              have HE5 : Hid (∀ l, colR kind l = true → tailC kind l = b → False) := fun l h1 h2 => by
                obtain ⟨e1, e2, e3, e4, e5⟩ := HRO.out l h1 h2
                have ho := oth_of h1 (by omega)
                rw [← e4, e1, e2, HQQ.out] at ho
                exact hno _ ho
              have hi5 : (er5 == 0) = false := by rw [beq_eq_false_iff_ne]; exact hne
              have hi6 : (er5 != 0) = true := by simp [hne]
              have HNE := Lib.hid hne
              clear hno hb5 hne
              go_wp2
              go_ret2
              exact RdC.nul HNE.out HB5.out HE5.out
          · have HNE := Lib.hid her
            have hi5 : (er == 0) = false := by rw [beq_eq_false_iff_ne]; exact her
            have hi6 : (er != 0) = true := by simp [her]
            clear her
            go_wp2
            go_ret2
            exact RdC.nul HNE.out HB4.out fun l h1 h2 => HNE.out (HPAR.out l h1 h2).1
end Go.Proofs.YtfgmdaemcaamiaaDoor
