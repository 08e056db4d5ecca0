/- Joined: ints.readPlain. ints.readRuns. ints.addSteps, addOffsets. ints.readPacked. ints.read, ints.Decode. ints.Decode. The walk of stackyardlaw06.IntsReads. -/
import Derived.Test.YtfgmdaemcaamiaaDoorInZB
import Derived.Test.YtfgmdaemcaamiaaDoorInZA
import Derived.Test.YtfgmdaemcaamiaaDoorTakeW
import Derived.Test.YtfgmdaemcaamiaaDoorRegR
import Derived.Test.YtfgmdaemcaamiaaDoorDcZ
/-! ints.readPlain. -/
namespace Go.Proofs.YtfgmdaemcaamiaaDoor
open Go.RowKit
set_option linter.unusedVariables false

/-- What reading hands back: a list, and whether; if some list lies there, it is that one. -/
def RdE (W0 : World) (P : List Int → Prop) (e : Ending) (W' : World) : Prop := ∃ A c l er, e = .returned (.tuple #[.slice A l.length c, .int .i64 er]) ∧ Ints W' A l ∧ l.length ≤ c ∧ l.length ≤ 10000 ∧ All64 l ∧ Below W0.heap.size W0 W' ∧ ∀ l', P l' → er = 0 ∧ l = l'
/-- The lists of n numbers whose encoding is r, behind the form's byte. -/
def BodyOf (f n : Nat) (r : List UInt8) (l : List Int) : Prop := All64 l ∧ l.length = n ∧ encB f l = r
theorem RdE.mk {W0 W : World} {P : List Int → Prop} {A : Option Addr} {n c : Nat} {er : Int} {d : List Int} (hn : d.length = n) (hi : Ints W A d) (hc : n ≤ c) (hl : n ≤ 10000) (h64 : All64 d) (hb : Below W0.heap.size W0 W) (h : ∀ l', P l' → er = 0 ∧ d = l') : RdE W0 P (.returned (.tuple #[.slice A n c, .int .i64 er])) W := by
  subst hn
  exact ⟨A, c, d, er, rfl, hi, hc, hl, h64, hb, h⟩
theorem RdE.nul {W0 W : World} {P : List Int → Prop} {er : Int} (hb : Below W0.heap.size W0 W) (h : ∀ l', P l' → False) : RdE W0 P (.returned (.tuple #[.slice none 0 0, .int .i64 er])) W :=
  ⟨none, 0, [], er, rfl, fun k hk => absurd hk (by simp), Nat.le_refl _, by simp, fun y hy => absurd hy (by simp), hb, fun l' h' => (h l' h').elim⟩
theorem ts_none (a : Option Addr) (cap nb : Nat) (at_ : Int) (l : List UInt8) (w : World) (hnb : l.length = nb) (hb : Byt w a l) (hc : nb ≤ cap) (hm : cap ≤ 9223372036854775807) (hL : nb ≤ 400000000000000) (h : takeO l at_ = none) :
    Calls Tryd.prog 121 #[.slice a nb cap, .int .i64 at_] w fun e w' => e = .returned (.tuple #[.int .i64 0, .int .i64 0, .int .i64 20]) ∧ w = w' := by
  subst hnb
  refine (takesigned_anyW a cap at_ l w hb hc hm hL).mono ?_
  rintro e w' ⟨rfl, rfl⟩
  obtain ⟨_, h2, h3⟩ := t_none h
  rw [h2, h3, show unzig l at_ = 0 by unfold unzig; rw [h]]
  exact ⟨rfl, rfl⟩
theorem ts_some (a : Option Addr) (cap nb : Nat) (at_ : Int) (l : List UInt8) (w : World) (hnb : l.length = nb) (hb : Byt w a l) (hc : nb ≤ cap) (hm : cap ≤ 9223372036854775807) (hL : nb ≤ 400000000000000) {z c : Nat} (h : takeO l at_ = some (z, c)) :
    Calls Tryd.prog 121 #[.slice a nb cap, .int .i64 at_] w fun e w' => e = .returned (.tuple #[.int .i64 (zag z), .int .i64 (at_ + c), .int .i64 0]) ∧ w = w' := by
  subst hnb
  refine (takesigned_anyW a cap at_ l w hb hc hm hL).mono ?_
  rintro e w' ⟨rfl, rfl⟩
  obtain ⟨_, h2, h3⟩ := t_some h
  rw [h2, h3, unzig_some h]
  exact ⟨rfl, rfl⟩
theorem tn_none (a : Option Addr) (cap nb : Nat) (at_ : Int) (l : List UInt8) (w : World) (hnb : l.length = nb) (hb : Byt w a l) (hc : nb ≤ cap) (hm : cap ≤ 9223372036854775807) (hL : nb ≤ 400000000000000) (h : takeO l at_ = none) :
    Calls Tryd.prog 56 #[.slice a nb cap, .int .i64 at_] w fun e w' => e = .returned (.tuple #[.int .u64 0, .int .i64 0, .int .i64 20]) ∧ w = w' := by
  subst hnb
  refine (take_anyW a cap at_ l w hb hc hm hL).mono ?_
  rintro e w' ⟨rfl, rfl⟩
  obtain ⟨h1, h2, h3⟩ := t_none h
  rw [h1, h2, h3]
  exact ⟨rfl, rfl⟩
theorem tn_some (a : Option Addr) (cap nb : Nat) (at_ : Int) (l : List UInt8) (w : World) (hnb : l.length = nb) (hb : Byt w a l) (hc : nb ≤ cap) (hm : cap ≤ 9223372036854775807) (hL : nb ≤ 400000000000000) {z c : Nat} (h : takeO l at_ = some (z, c)) :
    Calls Tryd.prog 56 #[.slice a nb cap, .int .i64 at_] w fun e w' => e = .returned (.tuple #[.int .u64 (z : Int), .int .i64 (at_ + c), .int .i64 0]) ∧ w = w' := by
  subst hnb
  refine (take_anyW a cap at_ l w hb hc hm hL).mono ?_
  rintro e w' ⟨rfl, rfl⟩
  obtain ⟨h1, h2, h3⟩ := t_some h
  rw [h1, h2, h3]
  exact ⟨rfl, rfl⟩

theorem i64s_put (l : List Int) (k n : Nat) (x : Int) (h : k = l.length) (hk : k < n) : (i64s (l ++ List.replicate (n - k) 0)).set k (.int .i64 x) = i64s ((l ++ [x]) ++ List.replicate (n - (k + 1)) 0) := by
  obtain ⟨m, hm⟩ : ∃ m, n - k = m + 1 := ⟨n - k - 1, by omega⟩
  rw [hm, show n - (k + 1) = m by omega, List.replicate_succ, i64s_app, i64s_app, i64s_app, List.set_append_right _ _ (by rw [i64s_len, h]; exact Nat.le_refl _), i64s_len, h, Nat.sub_self, List.append_assoc]
  rfl

set_option maxRecDepth 100000 in
set_option maxHeartbeats 8000000 in
theorem readplain_any (A : Option Addr) (cap n : Nat) (r : List UInt8) (W : World) (hb : Byt W A r) (hc : r.length ≤ cap) (hm : cap ≤ 9223372036854775807) (hL : r.length ≤ 140737488355328) (hn : n ≤ 4096) :
    Calls Tryd.prog 112 #[.slice A r.length cap, .int .i64 (n : Int)] W (RdE W (BodyOf 0 n r)) := by
  have hen : ∀ l, BodyOf 0 n r l → All64 l ∧ l.length = n ∧ [] ++ l.flatMap sgn = r := fun l h => h
  have HEN := Lib.hid hen
  have HB := Lib.hid hb
  obtain ⟨nb, hnb⟩ : ∃ nb, r.length = nb := ⟨_, rfl⟩
  have HNB := Lib.hid hnb
  rw [hnb] at hc hL ⊢
  have HT0 : Hid (TrP [] r n [] 0) := trp_0 [] r n
  obtain ⟨N, hN⟩ : ∃ N, W.heap.size = N := ⟨_, rfl⟩
  obtain ⟨W1, hW1⟩ : ∃ x, x = W.alloc (.cells (i64s (List.replicate n 0)).toArray 2) := ⟨_, rfl⟩
  have HBK : Hid (Blk W1 N 2 (i64s ([] ++ List.replicate (n - 0) 0))) := by rw [hW1, ← hN]; exact Blk.born W _ _
  have HE1 : Hid (Below N W W1) := by rw [hW1, ← hN]; exact (Below.refl _ _).alloc (Nat.le_refl _) _
  have HW1 := Lib.hid hW1
  have HNN := Lib.hid hN
  clear hb hnb hen hN hW1
  go_enter Tryd.func112, Tryd.ntmps112
  go_wp2_with (refine mk_i64 rfl _ _ rfl n rfl rfl (by omega) ?_)
  rw [← HW1.out, HNN.out]
  go_loopw [7, 14] (fun p i wr => ∃ (d : List Int) (at_ : Int), p = .int .i64 at_ ∧ i = .int .i64 (d.length : Int) ∧ d.length ≤ n ∧ All64 d ∧ TrP [] r n d at_ ∧ Blk wr N 2 (i64s (d ++ List.replicate (n - d.length) 0)) ∧ Below N W wr) (fun _ i _ => n - (intOf i).toNat)
  case atStart => exact ⟨[], 0, rfl, rfl, by simp, fun y hy => absurd hy (by simp), HT0.out, HBK.out, HE1.out⟩
  case round =>
    obtain ⟨d, at_, rfl, rfl, hdn, h64, htr, hblk, hbel⟩ := hrel
    obtain ⟨k, hnd⟩ : ∃ k, d.length = k := ⟨_, rfl⟩
    rw [hnd] at hdn hblk ⊢
    have HND := Lib.hid hnd
    have HBEL := Lib.hid hbel
    have HBLK := Lib.hid hblk
    have H64 := Lib.hid h64
    have HTR := Lib.hid htr
    by_cases hlt : k < n
    · have hbw := HB.out.keep (HNN.out ▸ hbel : Below W.heap.size W wr)
      cases hto : takeO r at_ with
      | none =>
        have hq := ts_none A cap nb at_ r wr HNB.out hbw hc (by omega) (by omega) hto
        have HQ := Lib.hid hq
        have HNO : Hid (∀ l', BodyOf 0 n r l' → False) := fun l' h' => trp_bad htr (by rw [hnd]; exact hlt) hto l' (HEN.out l' h').1 (HEN.out l' h').2.1 (HEN.out l' h').2.2
        have hkl : k < (i64s (d ++ List.replicate (n - k) 0)).length := by rw [i64s_len, List.length_append, List.length_replicate, hnd]; omega
        have hcell := hblk.at_ k
        rw [List.getElem?_eq_getElem hkl] at hcell
        have hfr := hblk.free k
        generalize (i64s (d ++ List.replicate (n - k) 0))[k] = old at hcell
        clear hq hto hbel hblk h64 htr hnd hbw hkl
        go_wp2_with (go_at_call 121; refine HQ.out.mono ?_; rintro e w1 ⟨rfl, rfl⟩)
        go_ret2
        exact RdE.nul (by rw [HNN.out]; exact HBEL.out.setCell (by simp) _) HNO.out
      | some zc =>
        obtain ⟨z, c⟩ := zc
        have hq := ts_some A cap nb at_ r wr HNB.out hbw hc (by omega) (by omega) hto
        have hx64 := zag_64 (take_lt hto)
        have htr2 := trp_step htr (by rw [hnd]; exact hlt) hto
        obtain ⟨x, hx⟩ : ∃ x, zag z = x := ⟨_, rfl⟩
        obtain ⟨nx, hnx⟩ : ∃ nx, at_ + (c : Int) = nx := ⟨_, rfl⟩
        rw [hx] at hq hx64 htr2
        rw [hnx] at hq htr2
        have HQ := Lib.hid hq
        have HTR2 := Lib.hid htr2
        have hkl : k < (i64s (d ++ List.replicate (n - k) 0)).length := by rw [i64s_len, List.length_append, List.length_replicate, hnd]; omega
        have hcell := hblk.at_ k
        rw [List.getElem?_eq_getElem hkl] at hcell
        have hfr := hblk.free k
        generalize (i64s (d ++ List.replicate (n - k) 0))[k] = old at hcell
        have hput := i64s_put d k n x hnd.symm hlt
        have hnew : Blk (wr.setCell ⟨N, k, none⟩ (.int .i64 x)) N 2 (i64s ((d ++ [x]) ++ List.replicate (n - (k + 1)) 0)) := by rw [← hput]; exact hblk.store k _
        have HNEW := Lib.hid hnew
        have H642 : Hid (All64 (d ++ [x])) := all64_rep (m := 1) h64 hx64
        have HL1 : Hid ((d ++ [x]).length = k + 1) := by show _ = _; rw [List.length_append, hnd]; rfl
        have HK : Hid (k < n) := hlt
        clear hq hto hbel hblk h64 htr hnd hbw hkl hx hnx hx64 htr2 hput hnew
        go_wp2_with (go_at_call 121; refine HQ.out.mono ?_; rintro e w1 ⟨rfl, rfl⟩)
        go_roundw
        case rel => exact ⟨d ++ [x], nx, rfl, by rw [HL1.out]; go_num, by rw [HL1.out]; exact HK.out, H642.out, HTR2.out, by rw [HL1.out]; exact HNEW.out, HBEL.out.setCell (by simp) _⟩
        case measure => simp [intOf]; have := HK.out; omega
    · obtain rfl : k = n := by omega
      have HI : Hid (Ints wr (some ⟨N, 0, none⟩) d) := by
        have hb2 := hblk
        rw [Nat.sub_self, List.replicate_zero, List.append_nil] at hb2
        exact ints_blk hb2
      clear hbel hblk h64 htr hnd
      go_wp2
      go_ret2
      exact RdE.mk HND.out HI.out (Nat.le_refl _) (by omega) H64.out (by rw [HNN.out]; exact HBEL.out) fun l' h' => ⟨rfl, trp_full HTR.out HND.out l' (HEN.out l' h').1 (HEN.out l' h').2.1 (HEN.out l' h').2.2⟩
end Go.Proofs.YtfgmdaemcaamiaaDoor

/-! ints.readRuns. -/
namespace Go.Proofs.YtfgmdaemcaamiaaDoor
open Go.RowKit
set_option linter.unusedVariables false

theorem decF_pos : ∀ (f k m : Nat) (t : List UInt8) (n c : Nat), decF f k m t = some (n, c) → k + 1 ≤ c
  | 0, _, _, _, _, _, h => by simp [decF] at h
  | _ + 1, _, _, [], _, _, h => by simp [decF] at h
  | f + 1, k, m, x :: t, n, c, h => by
    rw [decF] at h
    split at h
    · split at h
      · cases h
      · simp only [Option.some.injEq, Prod.mk.injEq] at h
        omega
    · have := decF_pos f (k + 1) _ t n c h
      omega
theorem takeO_pos {l : List UInt8} {at_ : Int} {n c : Nat} (h : takeO l at_ = some (n, c)) : 1 ≤ c := by
  unfold takeO at h
  by_cases hp : 0 ≤ at_ ∧ at_ ≤ l.length
  · rw [if_pos hp] at h
    exact decF_pos _ _ _ _ _ _ h
  · rw [if_neg hp] at h; cases h
theorem mk_i64c {ops : Array Oper} {rest : List Oper} {o : Oper} {a : Act} {Q : Exit → Act → World → Prop} {w : World} (w0 : World) (hgd : o.guard = none) (l c : Operand)
    (hop : o.op = Op.makeSlice 69 l c) (C : Int) (n : Nat) (hl : a.eval l = .int .i64 0) (hc : a.eval c = .int .i64 C) (hC : C = (n : Int)) (hsz : n ≤ 2814749767106) (hbel : Below w0.heap.size w0 w)
    (h : ∀ v w', OwnI w' w0.heap.size v [] → Below w0.heap.size w0 w' → wpList Tryd.prog ops Q rest (a.put o.dst v) w') : wpList Tryd.prog ops Q (o :: rest) a w := by
  obtain ⟨i0, hti, hz0, hz1, hz2⟩ := info_parts info_i64
  refine wpList_make_own w hgd l c 69 hop w0.heap.size 2 i0 (.int .i64 0) 1 Tryd.underlying69 hti hz0 hz1 .i64 .i64 C n hl hc hC (by rw [hz2]; omega) (by unfold maxLen; omega) hbel.size ?_
  intro w' h1 h2
  exact h _ w' h1 (hbel.grown h2 hbel.size (by simp))

set_option maxRecDepth 100000 in
set_option maxHeartbeats 8000000 in
theorem readruns_any (A : Option Addr) (cap n : Nat) (r : List UInt8) (W : World) (hb : Byt W A r) (hc : r.length ≤ cap) (hm : cap ≤ 9223372036854775807) (hL : r.length ≤ 140737488355328) (hn : n ≤ 4096) :
    Calls Tryd.prog 113 #[.slice A r.length cap, .int .i64 (n : Int)] W (RdE W (BodyOf 1 n r)) := by
  have hen : ∀ l, BodyOf 1 n r l → All64 l ∧ l.length = n ∧ [] ++ (runsL l).flatMap layRun = r := fun l h => h
  have HEN := Lib.hid hen
  have HB := Lib.hid hb
  obtain ⟨nb, hnb⟩ : ∃ nb, r.length = nb := ⟨_, rfl⟩
  have HNB := Lib.hid hnb
  rw [hnb] at hc hL ⊢
  have HT0 : Hid (TrR [] r n [] 0) := trr_0 [] r n
  have HREF : Hid (Below W.heap.size W W) := Below.refl _ _
  have HN := Lib.hid hn
  clear hb hnb hen
  go_enter Tryd.func113, Tryd.ntmps113
  go_wp2_with (at_make; refine mk_i64c W rfl _ _ rfl _ n rfl rfl rfl (by omega) HREF.out ?_; intro v1 w1 hown1 hbel1; obtain ⟨A1, c1, rfl, _, _, _⟩ := hown1.form; have O1 := Lib.hid hown1; have E1 := Lib.hid hbel1; clear hown1 hbel1)
  go_loopw [6, 7] (fun v p wr => ∃ (d : List Int) (at_ : Int), p = .int .i64 at_ ∧ 0 ≤ at_ ∧ at_ ≤ nb ∧ d.length ≤ n ∧ All64 d ∧ TrR [] r n d at_ ∧ OwnI wr W.heap.size v d ∧ Below W.heap.size W wr) (fun _ p _ => nb - (intOf p).toNat)
  case atStart => exact ⟨[], 0, rfl, by omega, by omega, by simp, fun y hy => absurd hy (by simp), HT0.out, O1.out, E1.out⟩
  case round =>
    obtain ⟨d, at_, rfl, hp0, hp1, hdn, h64, htr, hown, hbel⟩ := hrel
    obtain ⟨A5, c5, rfl, hi5, hc5, hl5⟩ := hown.form
    obtain ⟨nd, hnd⟩ : ∃ nd, d.length = nd := ⟨_, rfl⟩
    have hown5 := hown
    rw [hnd] at hdn hl5 hown5 ⊢
    have HND := Lib.hid hnd
    have HOWN := Lib.hid hown5
    have HBEL := Lib.hid hbel
    have HI5 := Lib.hid hi5
    have HL5 := Lib.hid hl5
    have H64 := Lib.hid h64
    have HTR := Lib.hid htr
    have HND4 : Hid (nd ≤ 4096) := by show _ ≤ _; omega
    have hbw := HB.out.keep hbel
    by_cases hlt : at_ < (nb : Int)
    · have hdlt : at_ < r.length ∨ d.length < n := .inl (by rw [HNB.out]; exact hlt)
      have HLT := Lib.hid hdlt
      have hsub : IntKind.i64.wrap ((n : Int) - (nd : Int)) = (n : Int) - (nd : Int) := by rw [IntKind.wrap_i64]; omega
      have hcu : IntKind.u64.wrap ((n : Int) - (nd : Int)) = (n : Int) - (nd : Int) := by rw [IntKind.wrap_u64]; omega
      cases hto : takeO r at_ with
      | none =>
        have hq := tn_none A cap nb at_ r wr HNB.out hbw hc (by omega) (by omega) hto
        have HQ := Lib.hid hq
        have HNO : Hid (∀ l', BodyOf 1 n r l' → False) := fun l' h' => trr_bad1 HTR.out HLT.out HN.out hto l' (HEN.out l' h').1 (HEN.out l' h').2.1 (HEN.out l' h').2.2
        clear hq hto hown hown5 hbel hi5 hl5 hc5 h64 htr hnd hbw hdlt
        go_wp2_with (go_at_call 56; refine HQ.out.mono ?_; rintro e w1 ⟨rfl, rfl⟩)
        go_ret2
        exact RdE.nul HBEL.out HNO.out
      | some mc =>
        obtain ⟨m, c⟩ := mc
        have hq := tn_some A cap nb at_ r wr HNB.out hbw hc (by omega) (by omega) hto
        have hm64 := take_lt hto
        have hend := takeO_end hto
        have hpos := takeO_pos hto
        rw [HNB.out] at hend
        by_cases hmn : n - nd < m
        · have HNO : Hid (∀ l', BodyOf 1 n r l' → False) := fun l' h' => trr_bad3 HTR.out HLT.out HN.out hto (.inr (by rw [hnd]; omega)) l' (HEN.out l' h').1 (HEN.out l' h').2.1 (HEN.out l' h').2.2
          have hmi : (n : Int) - (nd : Int) < (m : Int) := by omega
          obtain ⟨p2, hp2⟩ : ∃ p2, at_ + (c : Int) = p2 := ⟨_, rfl⟩
          rw [hp2] at hq
          have HQ := Lib.hid hq
          clear hq hto hown hown5 hbel hi5 hl5 hc5 h64 htr hnd hbw hdlt hend hp2
          go_wp2_with (go_at_call 56; refine HQ.out.mono ?_; rintro e w1 ⟨rfl, rfl⟩)
          go_ret2
          exact RdE.nul HBEL.out HNO.out
        · have hmi : ¬ (n : Int) - (nd : Int) < (m : Int) := by omega
          cases hts : takeO r (at_ + c) with
          | none =>
            have hq2 := ts_none A cap nb (at_ + c) r wr HNB.out hbw hc (by omega) (by omega) hts
            have HNO : Hid (∀ l', BodyOf 1 n r l' → False) := fun l' h' => trr_bad2 HTR.out HLT.out HN.out hto hts l' (HEN.out l' h').1 (HEN.out l' h').2.1 (HEN.out l' h').2.2
            obtain ⟨p2, hp2⟩ : ∃ p2, at_ + (c : Int) = p2 := ⟨_, rfl⟩
            rw [hp2] at hq hq2
            have HQ := Lib.hid hq
            have HQ2 := Lib.hid hq2
            clear hq hq2 hto hts hown hown5 hbel hi5 hl5 hc5 h64 htr hnd hbw hdlt hend hp2
            go_wp2_with (first | (go_at_call 56; refine HQ.out.mono ?_; rintro e w1 ⟨rfl, rfl⟩) | (go_at_call 121; refine HQ2.out.mono ?_; rintro e w1 ⟨rfl, rfl⟩))
            go_ret2
            exact RdE.nul HBEL.out HNO.out
          | some zc =>
            obtain ⟨z, c2⟩ := zc
            have hq2 := ts_some A cap nb (at_ + c) r wr HNB.out hbw hc (by omega) (by omega) hts
            have hx64 := zag_64 (take_lt hts)
            have hend2 := takeO_end hts
            rw [HNB.out] at hend2
            have htr2 := trr_step htr hdlt hn hto hts
            obtain ⟨x, hx⟩ : ∃ x, zag z = x := ⟨_, rfl⟩
            have hgt : at_ < at_ + (c : Int) + (c2 : Int) := by omega
            obtain ⟨p2, hp2⟩ : ∃ p2, at_ + (c : Int) = p2 := ⟨_, rfl⟩
            rw [hp2] at hq hq2 htr2 hend2 hend hgt
            obtain ⟨nx, hnx⟩ : ∃ nx, p2 + (c2 : Int) = nx := ⟨_, rfl⟩
            rw [hx] at hq2 hx64 htr2
            rw [hnx] at hq2 htr2 hend2 hgt
            have HQ := Lib.hid hq
            have HQ2 := Lib.hid hq2
            have HTR2 := Lib.hid htr2
            have HX64 := Lib.hid hx64
            have HEND := Lib.hid hend2
            have HGT := Lib.hid hgt
            have HMN : Hid (nd + m ≤ n) := by show _ ≤ _; omega
            have HAT : Hid (0 ≤ at_ ∧ at_ < (nb : Int)) := ⟨hp0, hlt⟩
            clear hq hq2 hto hts hown hown5 hbel hi5 hl5 hc5 h64 htr hnd hbw hdlt hend hp2 hx hnx hend2 hx64 htr2 hgt hpos
            go_wp2_with (first | (go_at_call 56; refine HQ.out.mono ?_; rintro e w1 ⟨rfl, rfl⟩) | (go_at_call 121; refine HQ2.out.mono ?_; rintro e w1 ⟨rfl, rfl⟩))
            go_loopw [6, 47] (fun v i w2 => ∃ j : Nat, j ≤ m ∧ i = .int .u64 j ∧ OwnI w2 W.heap.size v (d ++ List.replicate j x) ∧ Below W.heap.size W w2) (fun _ i _ => m - (intOf i).toNat)
            case atStart => exact ⟨0, by omega, rfl, by rw [List.replicate_zero, List.append_nil]; exact HOWN.out, HBEL.out⟩
            case round =>
              obtain ⟨j, hj, rfl, hown2, hbel2⟩ := hrel
              obtain ⟨A6, c6, rfl, hi6, hc6, hl6⟩ := hown2.form
              have hjl : (d ++ List.replicate j x).length = nd + j := by rw [List.length_append, List.length_replicate, HND.out]
              rw [hjl] at hl6 ⊢
              have HO2 := Lib.hid hown2
              have HB2 := Lib.hid hbel2
              have HJL := Lib.hid hjl
              have HL6 := Lib.hid hl6
              by_cases hjm : j < m
              · have HKL : Hid ((d ++ List.replicate j x).length + 1 ≤ 17000000000000) := by show _ ≤ _; have := HND4.out; omega
                have HJM : Hid (j < m) := hjm
                have HO3 : Hid (OwnI wr W.heap.size (.slice A6 (nd + j) c6) (d ++ List.replicate j x)) := by rw [← hjl]; exact hown2
                clear hown2 hbel2 hjl hi6 hc6 hl6
                go_wp2_with (refine app_i64 W rfl _ _ rfl _ (d ++ List.replicate j x) rfl (World.ownsRow.alloc HO3.out _) (HB2.out.alloc HB2.out.size _) (some ⟨_, 0, none⟩) 1 1 [x] rfl rfl (ints_born _ 2 [x]) (by simp) HKL.out ?_; intro v6 w6 hown6 hbel6; rw [rep_snoc] at hown6; have O6 := Lib.hid hown6; have E6 := Lib.hid hbel6; clear hown6 hbel6)
                go_roundw
                case rel => exact ⟨j + 1, HJM.out, by go_num, O6.out, E6.out⟩
                case measure => simp [intOf]; have := HJM.out; omega
              · obtain rfl : j = m := by omega
                clear hown2 hbel2 hjl hi6 hc6 hl6
                go_wp2
                go_roundw
                case rel => exact ⟨d ++ List.replicate j x, nx, rfl, by have := HEND.out; have := HGT.out; have := HAT.out; omega, HEND.out.2, by rw [HJL.out]; exact HMN.out, all64_rep H64.out HX64.out j, HTR2.out, by rw [← HJL.out] at *; exact HO2.out, HB2.out⟩
                case measure => simp [intOf]; have := HGT.out; have := HAT.out; omega
    · have hge : (nb : Int) ≤ at_ := by omega
      have HGE := Lib.hid hge
      clear hown hown5 hbel hi5 hl5 hc5 h64 htr hnd hbw
      go_wp2
      go_ret2
      exact RdE.mk HND.out HI5.out HL5.out (by have := HND4.out; omega) H64.out HBEL.out fun l' h' => ⟨rfl, trr_full HTR.out (.inl (by rw [HNB.out]; exact HGE.out)) l' (HEN.out l' h').1 (HEN.out l' h').2.1 (HEN.out l' h').2.2⟩
end Go.Proofs.YtfgmdaemcaamiaaDoor

/-! ints.addSteps, addOffsets. -/
namespace Go.Proofs.YtfgmdaemcaamiaaDoor
open Go.RowKit
set_option linter.unusedVariables false

/-- A list handed back. -/
def LstR (W0 : World) (l : List Int) (e : Ending) (W' : World) : Prop := ∃ A c, e = .returned (.slice A l.length c) ∧ Ints W' A l ∧ l.length ≤ c ∧ Below W0.heap.size W0 W'

set_option maxRecDepth 100000 in
set_option maxHeartbeats 4000000 in
theorem addsteps_any (A : Option Addr) (cap : Nat) (x : Int) (V : List W64) (W : World) (hV : Num W A V) (hx : I64 x) (hn : V.length ≤ 4096) :
    Calls Tryd.prog 115 #[.int .i64 x, .slice A V.length cap] W (LstR W (accL x V)) := by
  have HO1 : Hid (OwnI (W.alloc (.cells #[Value.int .i64 x] 2)) W.heap.size (.slice (some ⟨W.heap.size, 0, none⟩) 1 1) (accL x (V.take 0))) := owni_one W x
  have HB1 : Hid (Below W.heap.size W (W.alloc (.cells #[Value.int .i64 x] 2))) := (Below.refl _ _).alloc (Nat.le_refl _) _
  obtain ⟨ln, hln⟩ : ∃ ln, V.length = ln := ⟨_, rfl⟩
  have HLN := Lib.hid hln
  have HNUM := Lib.hid hV
  have HX64 := Lib.hid hx
  rw [hln] at hn ⊢
  clear hln hV hx
  go_enter Tryd.func115, Tryd.ntmps115
  go_wp2
  go_loopw [0, 5, 12] (fun xv v i wr => ∃ j : Nat, j ≤ ln ∧ i = .int .i64 j ∧ xv = .int .i64 (lastX x (V.take j)) ∧ OwnI wr W.heap.size v (accL x (V.take j)) ∧ Below W.heap.size W wr) (fun _ _ i _ => ln - (intOf i).toNat)
  case atStart => exact ⟨0, by omega, rfl, rfl, HO1.out, HB1.out⟩
  case round =>
    obtain ⟨j, hj, rfl, rfl, hown, hbel⟩ := hrel
    obtain ⟨A5, c5, rfl, hi5, hc5, hl5⟩ := hown.form
    have hkl : (accL x (V.take j)).length = j + 1 := by rw [accL_len, List.length_take, HLN.out]; omega
    have HOWN := Lib.hid hown
    have HBEL := Lib.hid hbel
    have HKL := Lib.hid hkl
    rw [hkl] at HOWN hl5 ⊢
    by_cases hlt : j < ln
    · have hj1 : j < V.length := by rw [HLN.out]; exact hlt
      obtain ⟨bs, os, rfl, hcs⟩ := (HNUM.out.keep hbel) j hj1
      have hst : accL x (V.take (j + 1)) = accL x (V.take j) ++ [lastX x (V.take (j + 1))] := by
        rw [List.take_succ_eq_append_getElem hj1, accL_snoc]
      have hnx : lastX x (V.take (j + 1)) = IntKind.i64.wrap (lastX x (V.take j) + zag (V[j]).toNat) := by
        rw [List.take_succ_eq_append_getElem hj1, lastX_snoc]
      have hs64 := (V[j]).isLt
      generalize V[j] = sj at hcs hnx hs64
      obtain ⟨s, hs⟩ : ∃ s : Nat, sj.toNat = s := ⟨_, rfl⟩
      rw [hs] at hcs hnx hs64
      have hzw := zag_wire s (by omega)
      obtain ⟨u, hu⟩ : ∃ u, lastX x (V.take j) = u := ⟨_, rfl⟩
      obtain ⟨u', hu'⟩ : ∃ u', lastX x (V.take (j + 1)) = u' := ⟨_, rfl⟩
      rw [hu'] at hst hnx
      rw [hu] at hnx ⊢
      have HST := Lib.hid hst
      have HU := Lib.hid hu'
      have HJ : Hid (j < ln) := hlt
      have HK1 : Hid ((accL x (V.take j)).length + 1 ≤ 17000000000000) := by show _ ≤ _; omega
      have hw64 : ∀ y, IntKind.i64.wrap y = wrap64 y := fun y => by rw [IntKind.wrap_i64]; unfold wrap64; omega
      rw [hw64] at hnx
      have hsI : (s : Int) ≤ 18446744073709551615 := by omega
      rw [show wrap64 ((s : Int) / 2) = (s : Int) / 2 by unfold wrap64; omega] at hzw
      rw [← hzw] at hnx
      clear hzw
      have HNX := Lib.hid hnx
      clear hown hbel hi5 hc5 hl5 hkl hj1 hst hs hu hu' hw64 hnx
      go_wp2_with (refine app_i64 W rfl _ _ rfl _ (accL x (V.take j)) rfl (World.ownsRow.alloc HOWN.out _) (HBEL.out.alloc HBEL.out.size _) (some ⟨_, 0, none⟩) 1 1 [u'] rfl rfl (by rw [HNX.out]; exact ints_born _ 2 [_]) (by simp) HK1.out ?_; intro v6 w6 hown6 hbel6; rw [← HST.out] at hown6; have O6 := Lib.hid hown6; have E6 := Lib.hid hbel6; clear hown6 hbel6)
      go_roundw
      case rel => exact ⟨j + 1, HJ.out, by go_num, by rw [HU.out, HNX.out], O6.out, E6.out⟩
      case measure => simp [intOf]; have := HJ.out; omega
    · obtain rfl : j = ln := by omega
      have hVj : V.take j = V := List.take_of_length_le (by rw [HLN.out]; exact Nat.le_refl _)
      rw [hVj] at hi5 hkl
      have HI5 := Lib.hid hi5
      have HL5 := Lib.hid hl5
      have HKV := Lib.hid hkl
      clear hown hbel hi5 hc5 hl5 hkl hVj
      go_wp2
      go_ret
      exact ⟨A5, c5, by rw [HKV.out]; rfl, HI5.out, by rw [HKV.out]; exact HL5.out, HBEL.out⟩

set_option maxRecDepth 100000 in
set_option maxHeartbeats 4000000 in
theorem addoffsets_any (A : Option Addr) (cap : Nat) (x : Int) (V : List W64) (W : World) (hV : Num W A V) (hn : V.length ≤ 4096) :
    Calls Tryd.prog 116 #[.int .i64 x, .slice A V.length cap] W (LstR W (V.map (addW x))) := by
  obtain ⟨n, hln⟩ : ∃ n, V.length = n := ⟨_, rfl⟩
  obtain ⟨N, hN⟩ : ∃ N, W.heap.size = N := ⟨_, rfl⟩
  obtain ⟨W1, hW1⟩ : ∃ x, x = W.alloc (.cells (i64s (List.replicate n 0)).toArray 2) := ⟨_, rfl⟩
  have HBK : Hid (Blk W1 N 2 (i64s ((V.take 0).map (addW x) ++ List.replicate (n - 0) 0))) := by rw [hW1, ← hN]; exact Blk.born W _ _
  have HE1 : Hid (Below N W W1) := by rw [hW1, ← hN]; exact (Below.refl _ _).alloc (Nat.le_refl _) _
  have HW1 := Lib.hid hW1
  have HNN := Lib.hid hN
  have HLN := Lib.hid hln
  have HNUM := Lib.hid hV
  rw [hln] at hn ⊢
  clear hln hV hN hW1
  go_enter Tryd.func116, Tryd.ntmps116
  go_wp2_with (refine mk_i64 rfl _ _ rfl n rfl rfl (by omega) ?_)
  rw [← HW1.out, HNN.out]
  go_loopw [13] (fun i wr => ∃ k : Nat, k ≤ n ∧ i = .int .i64 k ∧ Blk wr N 2 (i64s ((V.take k).map (addW x) ++ List.replicate (n - k) 0)) ∧ Below N W wr) (fun i _ => n - (intOf i).toNat)
  case atStart => exact ⟨0, by omega, rfl, HBK.out, HE1.out⟩
  case round =>
    obtain ⟨k, hk, rfl, hblk, hbel⟩ := hrel
    have hkd : ((V.take k).map (addW x)).length = k := by rw [List.length_map, List.length_take, HLN.out]; omega
    have HBEL := Lib.hid hbel
    have HKD := Lib.hid hkd
    by_cases hlt : k < n
    · have hj1 : k < V.length := by rw [HLN.out]; exact hlt
      obtain ⟨bs, os, rfl, hcs⟩ := (HNUM.out.keep (HNN.out ▸ hbel : Below W.heap.size W wr)) k hj1
      have hst : (V.take (k + 1)).map (addW x) = (V.take k).map (addW x) ++ [addW x V[k]] := by
        rw [List.take_succ_eq_append_getElem hj1, List.map_append]; rfl
      have hav := addW_ref x V[k]
      generalize V[k] = sj at hcs hst hav
      obtain ⟨av, hae⟩ : ∃ av, addW x sj = av := ⟨_, rfl⟩
      rw [hae] at hav hst
      have hkl : k < (i64s ((V.take k).map (addW x) ++ List.replicate (n - k) 0)).length := by rw [i64s_len, List.length_append, List.length_replicate, hkd]; omega
      have hcell := hblk.at_ k
      rw [List.getElem?_eq_getElem hkl] at hcell
      have hfr := hblk.free k
      generalize (i64s ((V.take k).map (addW x) ++ List.replicate (n - k) 0))[k] = old at hcell
      have hput := i64s_put ((V.take k).map (addW x)) k n av hkd.symm hlt
      rw [← hst] at hput
      have hnew : Blk (wr.setCell ⟨N, k, none⟩ (.int .i64 av)) N 2 (i64s ((V.take (k + 1)).map (addW x) ++ List.replicate (n - (k + 1)) 0)) := by rw [← hput]; exact hblk.store k _
      have HNEW := Lib.hid hnew
      have HAV := Lib.hid hav
      have HK : Hid (k < n) := hlt
      clear hbel hblk hkl hput hnew hst hae hj1 hkd
      go_wp2
      go_roundw
      case rel => exact ⟨k + 1, HK.out, by go_num, by first | exact HNEW.out | (rw [HAV.out]; exact HNEW.out), HBEL.out.setCell (by simp) _⟩
      case measure => simp [intOf]; have := HK.out; omega
    · obtain rfl : k = n := by omega
      have hVj : V.take k = V := List.take_of_length_le (by rw [HLN.out]; exact Nat.le_refl _)
      have HI : Hid (Ints wr (some ⟨N, 0, none⟩) (V.map (addW x))) := by
        have hb2 := hblk
        rw [Nat.sub_self, List.replicate_zero, List.append_nil, hVj] at hb2
        exact ints_blk hb2
      rw [hVj] at hkd
      have HKV := Lib.hid hkd
      clear hbel hblk hkd hVj
      go_wp2
      go_ret
      exact ⟨_, k, by rw [HKV.out]; rfl, HI.out, by rw [HKV.out]; exact Nat.le_refl _, by rw [HNN.out]; exact HBEL.out⟩
end Go.Proofs.YtfgmdaemcaamiaaDoor

/-! ints.readPacked. -/
namespace Go.Proofs.YtfgmdaemcaamiaaDoor
open Go.RowKit
set_option linter.unusedVariables false

theorem wide_bod2 {n k : Nat} {r : List UInt8} {l : List Int} (h : BodyOf 2 n r l) (hn : n = k + 1) : ∃ a D, I64 a ∧ D.length = k ∧ l = accL a D ∧ [] ++ (sgn a ++ packD D) = r := by
  obtain ⟨h1, h2, h3⟩ := h
  cases l with
  | nil => rw [← h2] at hn; cases hn
  | cons a t =>
    refine ⟨a, stepsL (a :: t), h1 a (by simp), by rw [stepsL_len]; rw [List.length_cons] at h2; omega, (accL_steps t a h1).symm, h3⟩
theorem wide_bod3 {n k : Nat} {r : List UInt8} {l : List Int} (h : BodyOf 3 n r l) (hn : n = k ∧ 0 < k) : ∃ m D, I64 m ∧ D.length = k ∧ l = D.map (addW m) ∧ [] ++ (sgn m ++ packD D) = r := by
  obtain ⟨h1, h2, h3⟩ := h
  cases l with
  | nil => rw [← h2] at hn; simp at hn; omega
  | cons a t =>
    refine ⟨minL (a :: t), (a :: t).map (offW (minL (a :: t))), minL_64 h1 (by simp), by rw [List.length_map]; omega, (addW_map h1).symm, h3⟩

set_option maxRecDepth 100000 in
set_option maxHeartbeats 8000000 in
theorem readpacked2_any (A : Option Addr) (cap n k : Nat) (r : List UInt8) (W : World) (hb : Byt W A r) (hc : r.length ≤ cap) (hm : cap ≤ 9223372036854775807) (hL : r.length ≤ 140737488355328) (hk : k ≤ 4096) (hn : n = k + 1) (hT : TabAt W) :
    Calls Tryd.prog 114 #[.slice A r.length cap, .int .i64 (k : Int), .func (.func 115) #[] #[]] W (RdE W (BodyOf 2 n r)) := by
  have HREF : Hid (Below W.heap.size W W) := Below.refl _ _
  have hen := fun l (h : BodyOf 2 n r l) => wide_bod2 h hn
  have hwa := fun m (D : List W64) (h1 : I64 m) (h2 : D.length = k) (h3 : [] ++ (sgn m ++ packD D) = r) => wide_at [] r m D h1 (by omega) h3
  cases hto : takeO r 0 with
  | none =>
    have hq := ts_none A cap r.length 0 r W rfl hb hc (by omega) (by omega) hto
    have HQ := Lib.hid hq
    have HNO : Hid (∀ l', BodyOf 2 n r l' → False) := fun l' h' => by
      obtain ⟨m, D, h1, h2, _, h4⟩ := hen l' h'
      have := (hwa m D h1 h2 h4).1
      rw [show ((([] : List UInt8).length : Nat) : Int) = 0 from rfl, hto] at this
      cases this
    clear hq hb hT hen hwa hto
    generalize r.length = nb at *
    go_enter Tryd.func114, Tryd.ntmps114
    go_wp2_with (go_at_call 121; refine HQ.out.mono ?_; rintro e w1 ⟨rfl, rfl⟩)
    go_ret2
    exact RdE.nul HREF.out HNO.out
  | some zc =>
    obtain ⟨z, p⟩ := zc
    have hq := ts_some A cap r.length 0 r W rfl hb hc (by omega) (by omega) hto
    have hend := takeO_end hto
    rw [Int.zero_add] at hq
    have HQ := Lib.hid hq
    by_cases hlt : p < r.length
    · obtain ⟨bx, ox, rfl, hcp⟩ := hb p hlt
      have hlr : (r.drop (p + 1)).length = r.length - (p + 1) := List.length_drop
      have hli : (p : Int) < (r.length : Int) := by omega
      have hwp : IntKind.i64.wrap ((p : Int) + 1) = (p : Int) + 1 := by rw [IntKind.wrap_i64]; omega
      have hz64 := zag_64 (take_lt hto)
      have hbr := hb.rest (p + 1)
      obtain ⟨w, hw⟩ : ∃ w, r[p] = w := ⟨_, rfl⟩
      rw [hw] at hcp
      have hw256 := w.toNat_lt
      have hcv : IntKind.i64.wrap (w.toNat : Int) = (w.toNat : Int) := by rw [IntKind.wrap_i64]; omega
      have HCP := Lib.hid hcp
      have HUN : Hid (∀ A' c' (W' : World), Below W.heap.size W W' → Byt W A' (r.drop (p + 1)) → Calls Tryd.prog 57 #[.slice A' (r.length - (p + 1)) c', .int .i64 (k : Int), .int .i64 (w.toNat : Int)] W' (UnpR W' (unV (k : Int) (w.toNat : Int) (r.drop (p + 1))) (unE (k : Int) (w.toNat : Int) (r.drop (p + 1))))) := fun A' c' W' hW h => by
        have := un_prog (k : Int) (w.toNat : Int) A' c' (r.drop (p + 1)) W' (h.keep hW) (hT.keep hW)
        rwa [hlr] at this
      have hAR : ∃ AR, (if cap = p + 1 then (some ⟨bx, ox, none⟩ : Option Addr) else some ⟨bx, ox + (p + 1), none⟩) = AR ∧ Byt W AR (r.drop (p + 1)) := by
        by_cases hcap : cap = p + 1
        · refine ⟨_, if_pos hcap, ?_⟩
          rw [List.drop_of_length_le (by omega)]
          exact Byt.empty _ _
        · exact ⟨_, if_neg hcap, hbr⟩
      obtain ⟨AR, hAR, hyr⟩ := hAR
      obtain ⟨V, hV⟩ : ∃ V, unV (k : Int) (w.toNat : Int) (r.drop (p + 1)) = V := ⟨_, rfl⟩
      obtain ⟨er, hE⟩ : ∃ er, unE (k : Int) (w.toNat : Int) (r.drop (p + 1)) = er := ⟨_, rfl⟩
      obtain ⟨ln, hln⟩ : ∃ ln, V.length = ln := ⟨_, rfl⟩
      have HYR := Lib.hid hyr
      rw [hV, hE] at HUN
      have hgood : ∀ l', BodyOf 2 n r l' → er = 0 ∧ l' = accL (zag z) V := fun l' h' => by
        obtain ⟨m, D, h1, h2, h3, h4⟩ := hen l' h'
        obtain ⟨e1, hlt', e2, e3⟩ := hwa m D h1 h2 h4
        rw [show ((([] : List UInt8).length : Nat) : Int) = 0 from rfl, hto] at e1
        simp only [Option.some.injEq, Prod.mk.injEq] at e1
        obtain ⟨rfl, rfl⟩ := e1
        have hpp : ([] : List UInt8).length + (sgn m).length = (sgn m).length := Nat.zero_add _
        simp only [hpp] at e2 e3
        rw [hw, h2, hE] at e2
        rw [hw, h2, hV] at e3
        exact ⟨e2, by rw [h3, e3, zag_zig]⟩
      have hVn : er = 0 → V.length = k := fun h => by
        have := (back2 (by rw [hE]; exact h)).1
        rw [hV] at this
        omega
      have HGOOD := Lib.hid hgood
      have hps1 : (0 : Int) ≤ (p : Int) + 1 := by omega
      have hps2 : (p : Int) + 1 ≤ (r.length : Int) := by omega
      have HLN := Lib.hid hln
      have HKK := Lib.hid hk
      clear hq hb hT hen hwa hto hlr hw hbr hcp hyr hV hE hln hgood hlt hk
      generalize r.length = nb at *
      go_enter Tryd.func114, Tryd.ntmps114
      go_wp2_with (go_at_call 121; refine HQ.out.mono ?_; rintro e w1 ⟨rfl, rfl⟩)
      refine wpS_start (fun W' => Below W.heap.size W W') 16 (by kernel_rfl) rfl (fun RG HR => ?_)
      refine wpS_take HR (i := 0) (v := .slice (some ⟨bx, ox, none⟩) nb cap) rfl (by decide +kernel) (by decide +kernel) (by decide +kernel) (fun _ _ _ h => h) (by rfl) (HREF.out.drew) (fun W' hW => by go_simp) ?_
      go_simp
      refine wpS_take HR (i := 1) (v := .int .i64 (p : Int)) rfl (by decide +kernel) (by decide +kernel) (by decide +kernel) (fun _ _ _ h => h) (by rfl) (HREF.out.drew) (fun W' hW => by go_simp) ?_
      go_simp
      refine wpS_take HR (i := 2) (v := .int .i64 ((p : Int) + 1)) rfl (by decide +kernel) (by decide +kernel) (by decide +kernel) (fun _ _ _ h => h) (by rfl) (HREF.out.drew) (fun W' hW => by go_simp) ?_
      go_simp
      refine wpS_take HR (i := 3) (v := .slice AR (nb - (p + 1)) (cap - (p + 1))) rfl (by decide +kernel) (by decide +kernel) (by decide +kernel) (fun _ _ _ h => h) (by rfl) (HREF.out.drew) (fun W' hW => by go_simp) ?_
      go_simp
      refine wpS_take HR (i := 4) (v := .int .i64 (k : Int)) rfl (by decide +kernel) (by decide +kernel) (by decide +kernel) (fun _ _ _ h => h) (by rfl) (HREF.out.drew) (fun W' hW => by go_simp) ?_
      go_simp
      refine wpS_take HR (i := 5) (v := .slice (some ⟨bx, ox, none⟩) nb cap) rfl (by decide +kernel) (by decide +kernel) (by decide +kernel) (fun _ _ _ h => h) (by rfl) (HREF.out.drew) (fun W' hW => by go_simp) ?_
      go_simp
      refine wpS_take HR (i := 6) (v := .int .i64 (p : Int)) rfl (by decide +kernel) (by decide +kernel) (by decide +kernel) (fun _ _ _ h => h) (by rfl) (HREF.out.drew) (fun W' hW => by go_simp) ?_
      go_simp
      refine wpS_take HR (i := 7) (v := .pointer (some ⟨bx, ox + p, none⟩)) rfl (by decide +kernel) (by decide +kernel) (by decide +kernel) (fun _ _ _ h => h) (by rfl) (HREF.out.drew) (fun W' hW => by go_simp) ?_
      go_simp
      refine wpS_take HR (i := 8) (v := .int .u8 (w.toNat : Int)) rfl (by decide +kernel) (by decide +kernel) (by decide +kernel) (fun _ _ _ h => h) (by rfl) (HREF.out.drew) (fun W' hW => by have hc := cell_low hW HCP.out; go_simp) ?_
      go_simp
      refine wpS_take HR (i := 9) (v := .int .i64 (w.toNat : Int)) rfl (by decide +kernel) (by decide +kernel) (by decide +kernel) (fun _ _ _ h => h) (by rfl) (HREF.out.drew) (fun W' hW => by go_simp) ?_
      go_simp
      refine wpS_step1 HR (i := 10) (by decide +kernel) ?_
      refine stepS_call HR rfl (by rfl) (by go_simp; exact ⟨rfl, rfl⟩) ?_
      refine (HUN.out _ _ _ HREF.out.drew HYR.out).mono ?_
      rintro e w2 ⟨A8, c8, rfl, hnum, hb2⟩
      rw [HLN.out]
      have HNUM := Lib.hid hnum
      have E2 := Lib.hid (HREF.out.drew.trans hb2 : Below W.heap.size W w2)
      clear hnum hb2
      refine ⟨_, rfl, E2.out, ?_⟩
      go_simp
      refine wpS_take HR (i := 11) (v := .tuple #[.slice A8 ln c8, .int .i64 er]) rfl (by decide +kernel) (by decide +kernel) (by decide +kernel) (fun _ _ _ h => h) (by rfl) (E2.out) (fun W' hW => by go_simp) ?_
      go_simp
      refine wpS_take HR (i := 12) (v := .slice A8 ln c8) rfl (by decide +kernel) (by decide +kernel) (by decide +kernel) (fun _ _ _ h => h) (by rfl) (E2.out) (fun W' hW => by go_simp) ?_
      go_simp
      refine wpS_take HR (i := 13) (v := .int .i64 er) rfl (by decide +kernel) (by decide +kernel) (by decide +kernel) (fun _ _ _ h => h) (by rfl) (E2.out) (fun W' hW => by go_simp) ?_
      go_simp
      refine wpS_take HR (i := 14) (v := .slice A8 ln c8) rfl (by decide +kernel) (by decide +kernel) (by decide +kernel) (fun _ _ _ h => h) (by rfl) (E2.out) (fun W' hW => by go_simp) ?_
      go_simp
      refine wpS_take HR (i := 15) (v := .int .i64 er) rfl (by decide +kernel) (by decide +kernel) (by decide +kernel) (fun _ _ _ h => h) (by rfl) (E2.out) (fun W' hW => by go_simp) ?_
      go_simp
      refine wpS_done HR (by decide +kernel) ?_
      obtain ⟨x, hx⟩ : ∃ x, zag z = x := ⟨_, rfl⟩
      rw [hx] at HGOOD hz64 ⊢
      clear hx
      by_cases her : er = 0
      · subst her
        have hlk : ln = k := by rw [← HLN.out]; exact hVn rfl
        have hadd := addsteps_any A8 c8 x V w2 HNUM.out hz64 (by rw [HLN.out, hlk]; exact HKK.out)
        rw [HLN.out] at hadd
        have HADD := Lib.hid hadd
        have HX64 := Lib.hid hz64
        obtain ⟨ol, hol⟩ : ∃ ol, (accL x V).length = ol := ⟨_, rfl⟩
        have HOL := Lib.hid hol
        have HLK := Lib.hid hlk
        clear hVn hadd hz64 hol hlk
        go_wp2_with (go_at_call 115; refine HADD.out.mono ?_; rintro e w3 ⟨A9, c9, rfl, hi9, hl9, hb9⟩; rw [HOL.out] at hl9 ⊢; have HI9 := Lib.hid hi9; have HL9 := Lib.hid hl9; have HB9 := Lib.hid (E2.out.trans (hb9.mono E2.out.size)); clear hi9 hl9 hb9)
        go_ret2
        exact RdE.mk HOL.out HI9.out HL9.out (by rw [← HOL.out]; have h1 := HLN.out; have h2 := HLK.out; have h3 := HKK.out; rw [accL_len]; omega) (accL_64 V x HX64.out) HB9.out fun l' h' => ⟨rfl, (HGOOD.out l' h').2.symm⟩
      · have hei : (er == 0) = false := by rw [beq_eq_false_iff_ne]; exact her
        have hei2 : (er != 0) = true := by simp [her]
        have HER : Hid (¬ er = 0) := her
        clear hVn hz64
        go_wp2
        go_ret2
        exact RdE.nul E2.out fun l' h' => HER.out (HGOOD.out l' h').1
    · have HNO : Hid (∀ l', BodyOf 2 n r l' → False) := fun l' h' => by
        obtain ⟨m, D, h1, h2, _, h4⟩ := hen l' h'
        obtain ⟨e1, e2, _⟩ := hwa m D h1 h2 h4
        rw [show ((([] : List UInt8).length : Nat) : Int) = 0 from rfl, hto] at e1
        simp only [Option.some.injEq, Prod.mk.injEq] at e1
        have : ([] : List UInt8).length = 0 := rfl
        omega
      have hle : (r.length : Int) ≤ (p : Int) := by omega
      clear hq hb hT hen hwa hto
      generalize r.length = nb at *
      go_enter Tryd.func114, Tryd.ntmps114
      go_wp2_with (go_at_call 121; refine HQ.out.mono ?_; rintro e w1 ⟨rfl, rfl⟩)
      go_ret2
      exact RdE.nul HREF.out HNO.out

set_option maxRecDepth 100000 in
set_option maxHeartbeats 8000000 in
theorem readpacked3_any (A : Option Addr) (cap n k : Nat) (r : List UInt8) (W : World) (hb : Byt W A r) (hc : r.length ≤ cap) (hm : cap ≤ 9223372036854775807) (hL : r.length ≤ 140737488355328) (hk : k ≤ 4096) (hn : n = k ∧ 0 < k) (hT : TabAt W) :
    Calls Tryd.prog 114 #[.slice A r.length cap, .int .i64 (k : Int), .func (.func 116) #[] #[]] W (RdE W (BodyOf 3 n r)) := by
  have HREF : Hid (Below W.heap.size W W) := Below.refl _ _
  have hen := fun l (h : BodyOf 3 n r l) => wide_bod3 h hn
  have hwa := fun m (D : List W64) (h1 : I64 m) (h2 : D.length = k) (h3 : [] ++ (sgn m ++ packD D) = r) => wide_at [] r m D h1 (by omega) h3
  cases hto : takeO r 0 with
  | none =>
    have hq := ts_none A cap r.length 0 r W rfl hb hc (by omega) (by omega) hto
    have HQ := Lib.hid hq
    have HNO : Hid (∀ l', BodyOf 3 n r l' → False) := fun l' h' => by
      obtain ⟨m, D, h1, h2, _, h4⟩ := hen l' h'
      have := (hwa m D h1 h2 h4).1
      rw [show ((([] : List UInt8).length : Nat) : Int) = 0 from rfl, hto] at this
      cases this
    clear hq hb hT hen hwa hto
    generalize r.length = nb at *
    go_enter Tryd.func114, Tryd.ntmps114
    go_wp2_with (go_at_call 121; refine HQ.out.mono ?_; rintro e w1 ⟨rfl, rfl⟩)
    go_ret2
    exact RdE.nul HREF.out HNO.out
  | some zc =>
    obtain ⟨z, p⟩ := zc
    have hq := ts_some A cap r.length 0 r W rfl hb hc (by omega) (by omega) hto
    have hend := takeO_end hto
    rw [Int.zero_add] at hq
    have HQ := Lib.hid hq
    by_cases hlt : p < r.length
    · obtain ⟨bx, ox, rfl, hcp⟩ := hb p hlt
      have hlr : (r.drop (p + 1)).length = r.length - (p + 1) := List.length_drop
      have hli : (p : Int) < (r.length : Int) := by omega
      have hwp : IntKind.i64.wrap ((p : Int) + 1) = (p : Int) + 1 := by rw [IntKind.wrap_i64]; omega
      have hz64 := zag_64 (take_lt hto)
      have hbr := hb.rest (p + 1)
      obtain ⟨w, hw⟩ : ∃ w, r[p] = w := ⟨_, rfl⟩
      rw [hw] at hcp
      have hw256 := w.toNat_lt
      have hcv : IntKind.i64.wrap (w.toNat : Int) = (w.toNat : Int) := by rw [IntKind.wrap_i64]; omega
      have HCP := Lib.hid hcp
      have HUN : Hid (∀ A' c' (W' : World), Below W.heap.size W W' → Byt W A' (r.drop (p + 1)) → Calls Tryd.prog 57 #[.slice A' (r.length - (p + 1)) c', .int .i64 (k : Int), .int .i64 (w.toNat : Int)] W' (UnpR W' (unV (k : Int) (w.toNat : Int) (r.drop (p + 1))) (unE (k : Int) (w.toNat : Int) (r.drop (p + 1))))) := fun A' c' W' hW h => by
        have := un_prog (k : Int) (w.toNat : Int) A' c' (r.drop (p + 1)) W' (h.keep hW) (hT.keep hW)
        rwa [hlr] at this
      have hAR : ∃ AR, (if cap = p + 1 then (some ⟨bx, ox, none⟩ : Option Addr) else some ⟨bx, ox + (p + 1), none⟩) = AR ∧ Byt W AR (r.drop (p + 1)) := by
        by_cases hcap : cap = p + 1
        · refine ⟨_, if_pos hcap, ?_⟩
          rw [List.drop_of_length_le (by omega)]
          exact Byt.empty _ _
        · exact ⟨_, if_neg hcap, hbr⟩
      obtain ⟨AR, hAR, hyr⟩ := hAR
      obtain ⟨V, hV⟩ : ∃ V, unV (k : Int) (w.toNat : Int) (r.drop (p + 1)) = V := ⟨_, rfl⟩
      obtain ⟨er, hE⟩ : ∃ er, unE (k : Int) (w.toNat : Int) (r.drop (p + 1)) = er := ⟨_, rfl⟩
      obtain ⟨ln, hln⟩ : ∃ ln, V.length = ln := ⟨_, rfl⟩
      have HYR := Lib.hid hyr
      rw [hV, hE] at HUN
      have hgood : ∀ l', BodyOf 3 n r l' → er = 0 ∧ l' = V.map (addW (zag z)) := fun l' h' => by
        obtain ⟨m, D, h1, h2, h3, h4⟩ := hen l' h'
        obtain ⟨e1, hlt', e2, e3⟩ := hwa m D h1 h2 h4
        rw [show ((([] : List UInt8).length : Nat) : Int) = 0 from rfl, hto] at e1
        simp only [Option.some.injEq, Prod.mk.injEq] at e1
        obtain ⟨rfl, rfl⟩ := e1
        have hpp : ([] : List UInt8).length + (sgn m).length = (sgn m).length := Nat.zero_add _
        simp only [hpp] at e2 e3
        rw [hw, h2, hE] at e2
        rw [hw, h2, hV] at e3
        exact ⟨e2, by rw [h3, e3, zag_zig]⟩
      have hVn : er = 0 → V.length = k := fun h => by
        have := (back2 (by rw [hE]; exact h)).1
        rw [hV] at this
        omega
      have HGOOD := Lib.hid hgood
      have hps1 : (0 : Int) ≤ (p : Int) + 1 := by omega
      have hps2 : (p : Int) + 1 ≤ (r.length : Int) := by omega
      have HLN := Lib.hid hln
      have HKK := Lib.hid hk
      clear hq hb hT hen hwa hto hlr hw hbr hcp hyr hV hE hln hgood hlt hk
      generalize r.length = nb at *
      go_enter Tryd.func114, Tryd.ntmps114
      go_wp2_with (go_at_call 121; refine HQ.out.mono ?_; rintro e w1 ⟨rfl, rfl⟩)
      refine wpS_start (fun W' => Below W.heap.size W W') 16 (by kernel_rfl) rfl (fun RG HR => ?_)
      refine wpS_take HR (i := 0) (v := .slice (some ⟨bx, ox, none⟩) nb cap) rfl (by decide +kernel) (by decide +kernel) (by decide +kernel) (fun _ _ _ h => h) (by rfl) (HREF.out.drew) (fun W' hW => by go_simp) ?_
      go_simp
      refine wpS_take HR (i := 1) (v := .int .i64 (p : Int)) rfl (by decide +kernel) (by decide +kernel) (by decide +kernel) (fun _ _ _ h => h) (by rfl) (HREF.out.drew) (fun W' hW => by go_simp) ?_
      go_simp
      refine wpS_take HR (i := 2) (v := .int .i64 ((p : Int) + 1)) rfl (by decide +kernel) (by decide +kernel) (by decide +kernel) (fun _ _ _ h => h) (by rfl) (HREF.out.drew) (fun W' hW => by go_simp) ?_
      go_simp
      refine wpS_take HR (i := 3) (v := .slice AR (nb - (p + 1)) (cap - (p + 1))) rfl (by decide +kernel) (by decide +kernel) (by decide +kernel) (fun _ _ _ h => h) (by rfl) (HREF.out.drew) (fun W' hW => by go_simp) ?_
      go_simp
      refine wpS_take HR (i := 4) (v := .int .i64 (k : Int)) rfl (by decide +kernel) (by decide +kernel) (by decide +kernel) (fun _ _ _ h => h) (by rfl) (HREF.out.drew) (fun W' hW => by go_simp) ?_
      go_simp
      refine wpS_take HR (i := 5) (v := .slice (some ⟨bx, ox, none⟩) nb cap) rfl (by decide +kernel) (by decide +kernel) (by decide +kernel) (fun _ _ _ h => h) (by rfl) (HREF.out.drew) (fun W' hW => by go_simp) ?_
      go_simp
      refine wpS_take HR (i := 6) (v := .int .i64 (p : Int)) rfl (by decide +kernel) (by decide +kernel) (by decide +kernel) (fun _ _ _ h => h) (by rfl) (HREF.out.drew) (fun W' hW => by go_simp) ?_
      go_simp
      refine wpS_take HR (i := 7) (v := .pointer (some ⟨bx, ox + p, none⟩)) rfl (by decide +kernel) (by decide +kernel) (by decide +kernel) (fun _ _ _ h => h) (by rfl) (HREF.out.drew) (fun W' hW => by go_simp) ?_
      go_simp
      refine wpS_take HR (i := 8) (v := .int .u8 (w.toNat : Int)) rfl (by decide +kernel) (by decide +kernel) (by decide +kernel) (fun _ _ _ h => h) (by rfl) (HREF.out.drew) (fun W' hW => by have hc := cell_low hW HCP.out; go_simp) ?_
      go_simp
      refine wpS_take HR (i := 9) (v := .int .i64 (w.toNat : Int)) rfl (by decide +kernel) (by decide +kernel) (by decide +kernel) (fun _ _ _ h => h) (by rfl) (HREF.out.drew) (fun W' hW => by go_simp) ?_
      go_simp
      refine wpS_step1 HR (i := 10) (by decide +kernel) ?_
      refine stepS_call HR rfl (by rfl) (by go_simp; exact ⟨rfl, rfl⟩) ?_
      refine (HUN.out _ _ _ HREF.out.drew HYR.out).mono ?_
      rintro e w2 ⟨A8, c8, rfl, hnum, hb2⟩
      rw [HLN.out]
      have HNUM := Lib.hid hnum
      have E2 := Lib.hid (HREF.out.drew.trans hb2 : Below W.heap.size W w2)
      clear hnum hb2
      refine ⟨_, rfl, E2.out, ?_⟩
      go_simp
      refine wpS_take HR (i := 11) (v := .tuple #[.slice A8 ln c8, .int .i64 er]) rfl (by decide +kernel) (by decide +kernel) (by decide +kernel) (fun _ _ _ h => h) (by rfl) (E2.out) (fun W' hW => by go_simp) ?_
      go_simp
      refine wpS_take HR (i := 12) (v := .slice A8 ln c8) rfl (by decide +kernel) (by decide +kernel) (by decide +kernel) (fun _ _ _ h => h) (by rfl) (E2.out) (fun W' hW => by go_simp) ?_
      go_simp
      refine wpS_take HR (i := 13) (v := .int .i64 er) rfl (by decide +kernel) (by decide +kernel) (by decide +kernel) (fun _ _ _ h => h) (by rfl) (E2.out) (fun W' hW => by go_simp) ?_
      go_simp
      refine wpS_take HR (i := 14) (v := .slice A8 ln c8) rfl (by decide +kernel) (by decide +kernel) (by decide +kernel) (fun _ _ _ h => h) (by rfl) (E2.out) (fun W' hW => by go_simp) ?_
      go_simp
      refine wpS_take HR (i := 15) (v := .int .i64 er) rfl (by decide +kernel) (by decide +kernel) (by decide +kernel) (fun _ _ _ h => h) (by rfl) (E2.out) (fun W' hW => by go_simp) ?_
      go_simp
      refine wpS_done HR (by decide +kernel) ?_
      obtain ⟨x, hx⟩ : ∃ x, zag z = x := ⟨_, rfl⟩
      rw [hx] at HGOOD hz64 ⊢
      clear hx
      by_cases her : er = 0
      · subst her
        have hlk : ln = k := by rw [← HLN.out]; exact hVn rfl
        have hadd := addoffsets_any A8 c8 x V w2 HNUM.out (by rw [HLN.out, hlk]; exact HKK.out)
        rw [HLN.out] at hadd
        have HADD := Lib.hid hadd
        have HX64 := Lib.hid hz64
        obtain ⟨ol, hol⟩ : ∃ ol, (V.map (addW x)).length = ol := ⟨_, rfl⟩
        have HOL := Lib.hid hol
        have HLK := Lib.hid hlk
        clear hVn hadd hz64 hol hlk
        go_wp2_with (go_at_call 116; refine HADD.out.mono ?_; rintro e w3 ⟨A9, c9, rfl, hi9, hl9, hb9⟩; rw [HOL.out] at hl9 ⊢; have HI9 := Lib.hid hi9; have HL9 := Lib.hid hl9; have HB9 := Lib.hid (E2.out.trans (hb9.mono E2.out.size)); clear hi9 hl9 hb9)
        go_ret2
        exact RdE.mk HOL.out HI9.out HL9.out (by rw [← HOL.out]; have h1 := HLN.out; have h2 := HLK.out; have h3 := HKK.out; rw [List.length_map]; omega) (addW_64 x V) HB9.out fun l' h' => ⟨rfl, (HGOOD.out l' h').2.symm⟩
      · have hei : (er == 0) = false := by rw [beq_eq_false_iff_ne]; exact her
        have hei2 : (er != 0) = true := by simp [her]
        have HER : Hid (¬ er = 0) := her
        clear hVn hz64
        go_wp2
        go_ret2
        exact RdE.nul E2.out fun l' h' => HER.out (HGOOD.out l' h').1
    · have HNO : Hid (∀ l', BodyOf 3 n r l' → False) := fun l' h' => by
        obtain ⟨m, D, h1, h2, _, h4⟩ := hen l' h'
        obtain ⟨e1, e2, _⟩ := hwa m D h1 h2 h4
        rw [show ((([] : List UInt8).length : Nat) : Int) = 0 from rfl, hto] at e1
        simp only [Option.some.injEq, Prod.mk.injEq] at e1
        have : ([] : List UInt8).length = 0 := rfl
        omega
      have hle : (r.length : Int) ≤ (p : Int) := by omega
      clear hq hb hT hen hwa hto
      generalize r.length = nb at *
      go_enter Tryd.func114, Tryd.ntmps114
      go_wp2_with (go_at_call 121; refine HQ.out.mono ?_; rintro e w1 ⟨rfl, rfl⟩)
      go_ret2
      exact RdE.nul HREF.out HNO.out
end Go.Proofs.YtfgmdaemcaamiaaDoor

/-! ints.read, ints.Decode. -/
namespace Go.Proofs.YtfgmdaemcaamiaaDoor
open Go.RowKit
set_option linter.unusedVariables false

theorem RdE.sub {W0 : World} {P Q : List Int → Prop} (h : ∀ l, Q l → P l) {e : Ending} {W' : World} (hr : RdE W0 P e W') : RdE W0 Q e W' := by
  obtain ⟨A, c, l, er, h1, h2, h3, h4, h5, h6, h7⟩ := hr
  exact ⟨A, c, l, er, h1, h2, h3, h4, h5, h6, fun l' h' => h7 l' (h l' h')⟩
set_option maxHeartbeats 4000000 in
theorem read_plain (A : Option Addr) (cap n : Nat) (r : List UInt8) (W : World) (hb : Byt W A r) (hc : r.length ≤ cap) (hm : cap ≤ 9223372036854775807) (hL : r.length ≤ 140737488355328) (hn : n ≤ 4096) :
    Calls Tryd.prog 106 #[.int .i64 0, .slice A r.length cap, .int .i64 (n : Int)] W (RdE W (BodyOf 0 n r)) := by
  have HC := Lib.hid (readplain_any A cap n r W hb hc hm hL hn)
  clear hb
  generalize r.length = nb at *
  go_enter Tryd.func106, Tryd.ntmps106
  go_wp2_with (go_at_call 112; refine HC.out.mono ?_; rintro e w1 ⟨A1, c1, l1, er, rfl, h2, h3, h4, h5, h6, h7⟩)
  go_ret2
  exact ⟨A1, c1, l1, er, rfl, h2, h3, h4, h5, h6, h7⟩
set_option maxHeartbeats 4000000 in
theorem read_runs (A : Option Addr) (cap n : Nat) (r : List UInt8) (W : World) (hb : Byt W A r) (hc : r.length ≤ cap) (hm : cap ≤ 9223372036854775807) (hL : r.length ≤ 140737488355328) (hn : n ≤ 4096) :
    Calls Tryd.prog 106 #[.int .i64 1, .slice A r.length cap, .int .i64 (n : Int)] W (RdE W (BodyOf 1 n r)) := by
  have HC := Lib.hid (readruns_any A cap n r W hb hc hm hL hn)
  clear hb
  generalize r.length = nb at *
  go_enter Tryd.func106, Tryd.ntmps106
  go_wp2_with (go_at_call 113; refine HC.out.mono ?_; rintro e w1 ⟨A1, c1, l1, er, rfl, h2, h3, h4, h5, h6, h7⟩)
  go_ret2
  exact ⟨A1, c1, l1, er, rfl, h2, h3, h4, h5, h6, h7⟩
set_option maxHeartbeats 4000000 in
theorem read_zero (f : Nat) (A : Option Addr) (cap : Nat) (r : List UInt8) (W : World) (hf : 2 ≤ f) :
    Calls Tryd.prog 106 #[.int .i64 (f : Int), .slice A r.length cap, .int .i64 0] W (RdE W (BodyOf f 0 r)) := by
  have HREF : Hid (Below W.heap.size W W) := Below.refl _ _
  generalize r.length = nb at *
  have h0 : ((f : Int) == 0) = false := by rw [beq_eq_false_iff_ne]; omega
  have h1 : ((f : Int) == 1) = false := by rw [beq_eq_false_iff_ne]; omega
  go_enter Tryd.func106, Tryd.ntmps106
  go_wp2
  go_ret2
  exact ⟨none, 0, [], 0, rfl, fun k hk => absurd hk (by simp), Nat.le_refl _, by simp, fun y hy => absurd hy (by simp), HREF.out, fun l' h' => ⟨rfl, (List.length_eq_zero_iff.1 h'.2.1).symm⟩⟩
set_option maxHeartbeats 4000000 in
theorem read_steps (A : Option Addr) (cap n : Nat) (r : List UInt8) (W : World) (hb : Byt W A r) (hc : r.length ≤ cap) (hm : cap ≤ 9223372036854775807) (hL : r.length ≤ 140737488355328) (hn : n ≤ 4096) (h0 : 0 < n) (hT : TabAt W) :
    Calls Tryd.prog 106 #[.int .i64 2, .slice A r.length cap, .int .i64 (n : Int)] W (RdE W (BodyOf 2 n r)) := by
  obtain ⟨k, hk⟩ : ∃ k, n = k + 1 := ⟨n - 1, by omega⟩
  have HC := Lib.hid (readpacked2_any A cap n k r W hb hc hm hL (by omega) hk hT)
  have hz : ((n : Int) == 0) = false := by rw [beq_eq_false_iff_ne]; omega
  have hki : IntKind.i64.wrap ((n : Int) - 1) = (k : Int) := by rw [IntKind.wrap_i64]; omega
  have hki2 : (n : Int) - 1 = (k : Int) := by omega
  clear hb hk hT
  generalize r.length = nb at *
  go_enter Tryd.func106, Tryd.ntmps106
  go_wp2_with (go_at_call 114; refine HC.out.mono ?_; rintro e w1 ⟨A1, c1, l1, er, rfl, h2, h3, h4, h5, h6, h7⟩)
  go_ret2
  exact ⟨A1, c1, l1, er, rfl, h2, h3, h4, h5, h6, h7⟩
set_option maxHeartbeats 4000000 in
theorem read_frame (A : Option Addr) (cap n : Nat) (r : List UInt8) (W : World) (hb : Byt W A r) (hc : r.length ≤ cap) (hm : cap ≤ 9223372036854775807) (hL : r.length ≤ 140737488355328) (hn : n ≤ 4096) (h0 : 0 < n) (hT : TabAt W) :
    Calls Tryd.prog 106 #[.int .i64 3, .slice A r.length cap, .int .i64 (n : Int)] W (RdE W (BodyOf 3 n r)) := by
  have HC := Lib.hid (readpacked3_any A cap n n r W hb hc hm hL hn ⟨rfl, h0⟩ hT)
  have hz : ((n : Int) == 0) = false := by rw [beq_eq_false_iff_ne]; omega
  clear hb hT
  generalize r.length = nb at *
  go_enter Tryd.func106, Tryd.ntmps106
  go_wp2_with (go_at_call 114; refine HC.out.mono ?_; rintro e w1 ⟨A1, c1, l1, er, rfl, h2, h3, h4, h5, h6, h7⟩)
  go_ret2
  exact ⟨A1, c1, l1, er, rfl, h2, h3, h4, h5, h6, h7⟩
set_option maxHeartbeats 4000000 in
theorem read_form (f n : Nat) (A : Option Addr) (cap : Nat) (r : List UInt8) (W : World) (hf : 4 ≤ f) (h0 : 0 < n) :
    Calls Tryd.prog 106 #[.int .i64 (f : Int), .slice A r.length cap, .int .i64 (n : Int)] W fun e w' => e = .returned (.tuple #[.slice none 0 0, .int .i64 60]) ∧ W = w' := by
  generalize r.length = nb at *
  have h1 : ((f : Int) == 0) = false := by rw [beq_eq_false_iff_ne]; omega
  have h2 : ((f : Int) == 1) = false := by rw [beq_eq_false_iff_ne]; omega
  have h3 : ((f : Int) == 2) = false := by rw [beq_eq_false_iff_ne]; omega
  have h4 : ((f : Int) == 3) = false := by rw [beq_eq_false_iff_ne]; omega
  have hz : ((n : Int) == 0) = false := by rw [beq_eq_false_iff_ne]; omega
  go_enter Tryd.func106, Tryd.ntmps106
  go_wp2
  go_ret2
  exact ⟨rfl, rfl⟩
theorem read_any (f n : Nat) (hf : f < 4) (A : Option Addr) (cap : Nat) (r : List UInt8) (W : World) (hb : Byt W A r) (hc : r.length ≤ cap) (hm : cap ≤ 9223372036854775807) (hL : r.length ≤ 140737488355328) (hn : n ≤ 4096) (hT : TabAt W) :
    Calls Tryd.prog 106 #[.int .i64 (f : Int), .slice A r.length cap, .int .i64 (n : Int)] W (RdE W (BodyOf f n r)) := by
  by_cases hz : n = 0 ∧ 2 ≤ f
  · obtain ⟨rfl, h2⟩ := hz
    exact read_zero f A cap r W h2
  · match f, hf, hz with
    | 0, _, _ => exact read_plain A cap n r W hb hc hm hL hn
    | 1, _, _ => exact read_runs A cap n r W hb hc hm hL hn
    | 2, _, hz => exact read_steps A cap n r W hb hc hm hL hn (by omega) hT
    | 3, _, hz => exact read_frame A cap n r W hb hc hm hL hn (by omega) hT
theorem equal_any (A B : Option Addr) (c d : Nat) (a b : List UInt8) (W : World) (ha : Byt W A a) (hb : Byt W B b) :
    Calls Tryd.prog 34 #[.slice A a.length c, .slice B b.length d] W fun e w' => e = .returned (.bool (decide (a = b))) ∧ W = w' := by
  have h1 := conv ha c
  have h2 := conv hb d
  clear ha hb
  by_cases h : a = b
  · subst h
    rw [decide_eq_true rfl]
    go_enter Tryd.func34, Tryd.ntmps34
    go_wp2
    go_ret
    exact ⟨rfl, rfl⟩
  · rw [decide_eq_false h]
    have h3 := str_ne h
    go_enter Tryd.func34, Tryd.ntmps34
    go_wp2
    go_ret
    exact ⟨rfl, rfl⟩
end Go.Proofs.YtfgmdaemcaamiaaDoor

/-! ints.Decode. -/
namespace Go.Proofs.YtfgmdaemcaamiaaDoor
open Go.RowKit
set_option linter.unusedVariables false

theorem dec_arg (A : Option Addr) (cap : Nat) (b : List UInt8) (n : Int) (W : World) (h : n < 0 ∨ 4096 < n) :
    Calls Tryd.prog 90 #[.slice A b.length cap, .int .i64 n] W (DecR W b n) := by
  have HNO : Hid (∀ l, ¬ decP b n l) := fun l hl => by obtain ⟨f, _, h1, h2, _⟩ := hl; omega
  have HREF : Hid (Below W.heap.size W W) := Below.refl _ _
  have HH := Lib.hid h
  by_cases h1 : n < 0
  · generalize b.length = nb at *
    clear h
    go_enter Tryd.func90, Tryd.ntmps90
    go_wp2
    go_ret2
    exact ⟨HREF.out, .inr ⟨HNO.out, by rw [if_pos HH.out]; rfl⟩⟩
  · have h2 : 4096 < n := by omega
    generalize b.length = nb at *
    clear h
    go_enter Tryd.func90, Tryd.ntmps90
    go_wp2
    go_ret2
    exact ⟨HREF.out, .inr ⟨HNO.out, by rw [if_pos HH.out]; rfl⟩⟩
theorem dec_none (A : Option Addr) (cap : Nat) (b : List UInt8) (n : Nat) (W : World) (hn : n ≤ 4096) (h0 : b.length = 0) :
    Calls Tryd.prog 90 #[.slice A b.length cap, .int .i64 (n : Int)] W (DecR W b n) := by
  have HH : Hid (¬ ((n : Int) < 0 ∨ 4096 < (n : Int))) := by show ¬ _; omega
  have HREF : Hid (Below W.heap.size W W) := Below.refl _ _
  have HNO : Hid (∀ l, ¬ decP b n l) := fun l hl => by
    obtain ⟨f, hf, h1, h2, _, _, e⟩ := hl
    subst e
    simp [encI] at h0
  have hle : ¬ (4096 : Int) < (n : Int) := by omega
  rw [h0]
  clear h0
  go_enter Tryd.func90, Tryd.ntmps90
  go_wp2
  go_ret2
  exact ⟨HREF.out, .inr ⟨HNO.out, by rw [if_neg HH.out]; rfl⟩⟩

set_option maxRecDepth 100000 in
set_option maxHeartbeats 4000000 in
theorem dec_in (f : Nat) (A : Option Addr) (cap : Nat) (b : List UInt8) (n : Nat) (W : World) (hb : Byt W A b) (hc : b.length ≤ cap) (hm : cap ≤ 9223372036854775807) (hL : b.length ≤ 140737488355328) (hn : n ≤ 4096) (h0 : 0 < b.length) (hf : (b[0]).toNat = f) (hf4 : f < 4) (hT : TabAt W) :
    Calls Tryd.prog 90 #[.slice A b.length cap, .int .i64 (n : Int)] W (DecR W b n) := by
  have HH : Hid (¬ ((n : Int) < 0 ∨ 4096 < (n : Int))) := by show ¬ _; omega
  have HDF : Hid (∀ l, decP b n l → EncOf f n b l) := fun l h => (dec_f h0 hf h).2.2
  have HMK : Hid (∀ l, EncOf f n b l → decP b n l) := fun l h => ⟨f, by omega, by omega, by omega, h⟩
  obtain ⟨bx, ox, rfl, hca⟩ := hb 0 h0
  rw [hf] at hca
  have hca0 : W.cell? ⟨bx, ox, none⟩ = some (.int .u8 (f : Int)) := hca
  have HCA := Lib.hid hca0
  have HREF : Hid (Below W.heap.size W W) := Below.refl _ _
  have hzi : ((b.length : Int) == 0) = false := by rw [beq_eq_false_iff_ne]; omega
  have hle : ¬ (4096 : Int) < (n : Int) := by omega
  have hn0 : ¬ (n : Int) < 0 := by omega
  have hcv : IntKind.i64.wrap (f : Int) = (f : Int) := by rw [IntKind.wrap_i64]; omega
  obtain ⟨r, hr⟩ : ∃ r, b.drop 1 = r := ⟨_, rfl⟩
  have hlr : r.length = b.length - 1 := by rw [← hr]; exact List.length_drop
  have hbr : Byt W (some ⟨bx, ox + 1, none⟩) r := by rw [← hr]; exact hb.rest 1
  have hbb : b = UInt8.ofNat f :: r := by
    rw [← hr]
    cases b with
    | nil => cases h0
    | cons x t => show x :: t = _ :: t; rw [← hf]; simp
  have hbod : ∀ l, EncOf f n b l ↔ BodyOf f n r l := fun l => by
    unfold EncOf BodyOf encI
    rw [hbb]
    simp
  have HBOD := Lib.hid hbod
  have HRD : Hid (∀ A' c' (W' : World), Below W.heap.size W W' → Byt W A' r → b.length - 1 ≤ c' → c' ≤ 9223372036854775807 → Calls Tryd.prog 106 #[.int .i64 (f : Int), .slice A' (b.length - 1) c', .int .i64 (n : Int)] W' (RdE W' (BodyOf f n r))) := fun A' c' W' hW h h1 h2 => by
    rw [← hlr] at h1 ⊢
    exact read_any f n hf4 A' c' r W' (h.keep hW) h1 h2 (by omega) hn (hT.keep hW)
  have hAR : ∃ AR, (if cap = 1 then (some ⟨bx, ox, none⟩ : Option Addr) else some ⟨bx, ox + 1, none⟩) = AR ∧ Byt W AR r := by
    by_cases hcap : cap = 1
    · refine ⟨_, if_pos hcap, ?_⟩
      have : r = [] := List.length_eq_zero_iff.1 (by omega)
      rw [this]
      exact Byt.empty _ _
    · exact ⟨_, if_neg hcap, hbr⟩
  obtain ⟨AR, hAR, hyr⟩ := hAR
  have HYR := Lib.hid hyr
  have HB := Lib.hid hb
  have HENC : Hid (∀ A c l (w1 : World), Below W.heap.size W w1 → Ints w1 A l → All64 l → l.length = n → n ≤ c → Calls Tryd.prog 43 #[.int .i64 (f : Int), .slice A n c] w1 (LaidI w1 (encI f l))) := fun A c l w1 hW hl h64 hln hc => by
    subst hln
    exact enc_any f hf4 A c l w1 hl h64 (by omega) hc (hT.keep hW)
  obtain ⟨nb, hnb⟩ : ∃ nb, b.length = nb := ⟨_, rfl⟩
  have HNB := Lib.hid hnb
  have hps : (1 : Int) ≤ (b.length : Int) := by omega
  have hcc : cap - 1 ≤ 9223372036854775807 := by omega
  have hcb : b.length - 1 ≤ cap - 1 := by omega
  have HCC := Lib.hid hcc
  have HCB := Lib.hid hcb
  rw [hnb] at h0 hzi hc hps HRD HCB ⊢
  unfold LaidI at HENC
  clear hb hca hf hT hr hlr hbr hbb hbod hyr hnb hcc hcb hca0
  go_enter Tryd.func90, Tryd.ntmps90
  go_wp2
  refine wpS_start (fun W' => Below W.heap.size W W') 13 (by kernel_rfl) rfl (fun RG HR => ?_)
  refine wpS_take HR (i := 0) (v := .slice (some ⟨bx, ox, none⟩) nb cap) rfl (by decide +kernel) (by decide +kernel) (by decide +kernel) (fun _ _ _ h => h) (by rfl) (HREF.out.drew) (fun W' hW => by go_simp) ?_
  go_simp
  refine wpS_take HR (i := 1) (v := .pointer (some ⟨bx, ox, none⟩)) rfl (by decide +kernel) (by decide +kernel) (by decide +kernel) (fun _ _ _ h => h) (by rfl) (HREF.out.drew) (fun W' hW => by go_simp) ?_
  go_simp
  refine wpS_take HR (i := 2) (v := .int .u8 (f : Int)) rfl (by decide +kernel) (by decide +kernel) (by decide +kernel) (fun _ _ _ h => h) (by rfl) (HREF.out.drew) (fun W' hW => by have hc := cell_low hW HCA.out; go_simp) ?_
  go_simp
  refine wpS_take HR (i := 3) (v := .int .i64 (f : Int)) rfl (by decide +kernel) (by decide +kernel) (by decide +kernel) (fun _ _ _ h => h) (by rfl) (HREF.out.drew) (fun W' hW => by go_simp) ?_
  go_simp
  refine wpS_take HR (i := 4) (v := .slice (some ⟨bx, ox, none⟩) nb cap) rfl (by decide +kernel) (by decide +kernel) (by decide +kernel) (fun _ _ _ h => h) (by rfl) (HREF.out.drew) (fun W' hW => by go_simp) ?_
  go_simp
  refine wpS_take HR (i := 5) (v := .slice AR (nb - 1) (cap - 1)) rfl (by decide +kernel) (by decide +kernel) (by decide +kernel) (fun _ _ _ h => h) (by rfl) (HREF.out.drew) (fun W' hW => by go_simp) ?_
  go_simp
  refine wpS_take HR (i := 6) (v := .int .i64 (n : Int)) rfl (by decide +kernel) (by decide +kernel) (by decide +kernel) (fun _ _ _ h => h) (by rfl) (HREF.out.drew) (fun W' hW => by go_simp) ?_
  go_simp
  refine wpS_step1 HR (i := 7) (by decide +kernel) ?_
  refine stepS_call HR rfl (by rfl) (by go_simp; exact ⟨rfl, rfl⟩) ?_
  refine (HRD.out _ _ _ HREF.out.drew HYR.out HCB.out HCC.out).mono ?_
  rintro e w1 ⟨A1, c1, l1, er, rfl, hi1, hc1, hl1, h641, hb1, hu1⟩
  obtain ⟨m, hm1⟩ : ∃ m, l1.length = m := ⟨_, rfl⟩
  have HM1 := Lib.hid hm1
  rw [hm1] at hc1 hl1 ⊢
  have HI1 := Lib.hid hi1
  have HB1 := Lib.hid (HREF.out.drew.trans hb1 : Below W.heap.size W w1)
  have H641 := Lib.hid h641
  have HU1 := Lib.hid hu1
  have HC1 := Lib.hid hc1
  clear hm1 hi1 hb1 h641 hu1 HRD hc1
  refine ⟨_, rfl, HB1.out, ?_⟩
  go_simp
  refine wpS_take HR (i := 8) (v := .tuple #[.slice A1 m c1, .int .i64 er]) rfl (by decide +kernel) (by decide +kernel) (by decide +kernel) (fun _ _ _ h => h) (by rfl) (HB1.out) (fun W' hW => by go_simp) ?_
  go_simp
  refine wpS_take HR (i := 9) (v := .slice A1 m c1) rfl (by decide +kernel) (by decide +kernel) (by decide +kernel) (fun _ _ _ h => h) (by rfl) (HB1.out) (fun W' hW => by go_simp) ?_
  go_simp
  refine wpS_take HR (i := 10) (v := .int .i64 er) rfl (by decide +kernel) (by decide +kernel) (by decide +kernel) (fun _ _ _ h => h) (by rfl) (HB1.out) (fun W' hW => by go_simp) ?_
  go_simp
  refine wpS_take HR (i := 11) (v := .slice A1 m c1) rfl (by decide +kernel) (by decide +kernel) (by decide +kernel) (fun _ _ _ h => h) (by rfl) (HB1.out) (fun W' hW => by go_simp) ?_
  go_simp
  refine wpS_take HR (i := 12) (v := .int .i64 er) rfl (by decide +kernel) (by decide +kernel) (by decide +kernel) (fun _ _ _ h => h) (by rfl) (HB1.out) (fun W' hW => by go_simp) ?_
  go_simp
  refine wpS_done HR (by decide +kernel) ?_
  by_cases her : er = 0
  · subst her
    by_cases hmn : m = n
    · subst hmn
      have hmm : ((m : Int) != (m : Int)) = false := by simp
      have HENC2 := Lib.hid (HENC.out A1 c1 l1 w1 HB1.out HI1.out H641.out HM1.out HC1.out)
      obtain ⟨eb, heb⟩ : ∃ eb, encI f l1 = eb := ⟨_, rfl⟩
      rw [heb] at HENC2
      have hcw := cell_low HB1.out HCA.out
      by_cases heq : eb = b
      · have HOK : Hid (EncOf f m b l1) := ⟨H641.out, HM1.out, by rw [heb]; exact heq⟩
        subst heq
        clear heb
        go_wp2_with (first | (go_at_call 43; refine HENC2.out.mono ?_; rintro e w2 ⟨v2, rfl, ho, hb2⟩; obtain ⟨A2, c2, rfl, hy2, _, _, _⟩ := ho.form; have HB2 := Lib.hid (HB1.out.trans (hb2.mono HB1.out.size)); have HI2 := Lib.hid (HI1.out.keep hb2); have heq2 := equal_any A2 (some ⟨bx, ox, none⟩) c2 cap eb eb w2 hy2 (HB.out.keep HB2.out); rw [decide_eq_true rfl, HNB.out] at heq2; have HEQ := Lib.hid heq2; rw [HNB.out]; clear ho hb2 hy2 heq2) | (go_at_call 34; refine HEQ.out.mono ?_; rintro e w3 ⟨rfl, rfl⟩))
        go_ret2
        exact ⟨HB2.out, .inl ⟨A1, c1, l1, HMK.out l1 HOK.out, fun l' h' => (HU1.out l' ((HBOD.out l').1 (HDF.out l' h'))).2, by rw [HM1.out]; rfl, HI2.out, by rw [HM1.out]; exact HC1.out⟩⟩
      · have HNO : Hid (∀ l, ¬ decP b m l) := fun l h => by
          have h2 := HDF.out l h
          have := (HU1.out l ((HBOD.out l).1 h2)).2
          subst this
          exact heq (heb ▸ h2.2.2)
        have HNEQ := Lib.hid heq
        clear heb heq
        obtain ⟨ne, hne⟩ : ∃ ne, eb.length = ne := ⟨_, rfl⟩
        have HNE := Lib.hid hne
        clear hne
        go_wp2_with (first | (go_at_call 43; refine HENC2.out.mono ?_; rintro e w2 ⟨v2, rfl, ho, hb2⟩; obtain ⟨A2, c2, rfl, hy2, _, _, _⟩ := ho.form; have HB2 := Lib.hid (HB1.out.trans (hb2.mono HB1.out.size)); have heq2 := equal_any A2 (some ⟨bx, ox, none⟩) c2 cap eb b w2 hy2 (HB.out.keep HB2.out); rw [decide_eq_false HNEQ.out, HNB.out, HNE.out] at heq2; have HEQ := Lib.hid heq2; rw [HNE.out]; clear ho hb2 hy2 heq2) | (go_at_call 34; refine HEQ.out.mono ?_; rintro e w3 ⟨rfl, rfl⟩))
        go_ret2
        exact ⟨HB2.out, .inr ⟨HNO.out, by rw [if_neg HH.out]; rfl⟩⟩
    · have hmm : ((m : Int) != (n : Int)) = true := by simp; omega
      have hmm2 : ¬ (m : Int) = (n : Int) := by omega
      have HNO : Hid (∀ l, ¬ decP b n l) := fun l h => by
        have h2 := HDF.out l h
        have := (HU1.out l ((HBOD.out l).1 h2)).2
        subst this
        exact hmn (HM1.out.symm.trans h2.2.1)
      clear hmn
      go_wp2
      go_ret2
      exact ⟨HB1.out, .inr ⟨HNO.out, by rw [if_neg HH.out]; rfl⟩⟩
  · have hei : (er == 0) = false := by rw [beq_eq_false_iff_ne]; exact her
    have hei2 : (er != 0) = true := by simp [her]
    have HNO : Hid (∀ l, ¬ decP b n l) := fun l h => her (HU1.out l ((HBOD.out l).1 (HDF.out l h))).1
    go_wp2
    go_ret2
    exact ⟨HB1.out, .inr ⟨HNO.out, by rw [if_neg HH.out]; rfl⟩⟩

set_option maxRecDepth 100000 in
set_option maxHeartbeats 4000000 in
theorem dec_big (f : Nat) (A : Option Addr) (cap : Nat) (b : List UInt8) (n : Nat) (W : World) (hb : Byt W A b) (hc : b.length ≤ cap) (hm : cap ≤ 9223372036854775807) (hL : b.length ≤ 140737488355328) (hn : n ≤ 4096) (h0 : 0 < b.length) (hf : (b[0]).toNat = f) (hf4 : 4 ≤ f) (hT : TabAt W) :
    Calls Tryd.prog 90 #[.slice A b.length cap, .int .i64 (n : Int)] W (DecR W b n) := by
  have HH : Hid (¬ ((n : Int) < 0 ∨ 4096 < (n : Int))) := by show ¬ _; omega
  have HNOO : Hid (∀ l, ¬ decP b n l) := fun l hl => by
    obtain ⟨g, hg, h1, h2, _, _, e⟩ := hl
    subst e
    have e2 : ((encI g l)[0]'(by unfold encI; simp)).toNat = g := by show (UInt8.ofNat g).toNat = g; rw [UInt8.toNat_ofNat']; omega
    omega
  obtain ⟨bx, ox, rfl, hca⟩ := hb 0 h0
  rw [hf] at hca
  have hca0 : W.cell? ⟨bx, ox, none⟩ = some (.int .u8 (f : Int)) := hca
  have HCA := Lib.hid hca0
  have HREF : Hid (Below W.heap.size W W) := Below.refl _ _
  have hzi : ((b.length : Int) == 0) = false := by rw [beq_eq_false_iff_ne]; omega
  have hle : ¬ (4096 : Int) < (n : Int) := by omega
  have hn0 : ¬ (n : Int) < 0 := by omega
  have hf256 : f < 256 := by rw [← hf]; exact (b[0]).toNat_lt
  have hcv : IntKind.i64.wrap (f : Int) = (f : Int) := by rw [IntKind.wrap_i64]; omega
  obtain ⟨r, hr⟩ : ∃ r, b.drop 1 = r := ⟨_, rfl⟩
  have hlr : r.length = b.length - 1 := by rw [← hr]; exact List.length_drop
  have hbr : Byt W (some ⟨bx, ox + 1, none⟩) r := by rw [← hr]; exact hb.rest 1
  have HRD : Hid (∀ A' c' (W' : World), Below W.heap.size W W' → Byt W A' r → b.length - 1 ≤ c' → c' ≤ 9223372036854775807 → Calls Tryd.prog 106 #[.int .i64 (f : Int), .slice A' (b.length - 1) c', .int .i64 (n : Int)] W' (RdE W' (fun _ => False))) := fun A' c' W' hW h h1 h2 => by
    rw [← hlr]
    by_cases hz : n = 0
    · subst hz
      refine (read_zero f A' c' r W' (by omega)).mono ?_
      rintro e w ⟨A, c, l, er, h1, h2, h3, h4, h5, h6, _⟩
      exact ⟨A, c, l, er, h1, h2, h3, h4, h5, h6, fun _ h => h.elim⟩
    · refine (read_form f n A' c' r W' hf4 (by omega)).mono ?_
      rintro e w ⟨rfl, rfl⟩
      exact RdE.nul (Below.refl _ _) fun _ h => h
  have hAR : ∃ AR, (if cap = 1 then (some ⟨bx, ox, none⟩ : Option Addr) else some ⟨bx, ox + 1, none⟩) = AR ∧ Byt W AR r := by
    by_cases hcap : cap = 1
    · refine ⟨_, if_pos hcap, ?_⟩
      have : r = [] := List.length_eq_zero_iff.1 (by omega)
      rw [this]
      exact Byt.empty _ _
    · exact ⟨_, if_neg hcap, hbr⟩
  obtain ⟨AR, hAR, hyr⟩ := hAR
  have HYR := Lib.hid hyr
  have HB := Lib.hid hb
  have HENC : Hid (∀ A c (w1 : World), Calls Tryd.prog 43 #[.int .i64 (f : Int), .slice A n c] w1 fun e W' => e = .returned (.tuple #[.slice none 0 0, .int .i64 2]) ∧ w1 = W') := fun A c w1 => enc_bad f A c n w1 (by omega) (.inr (.inl (by omega)))
  obtain ⟨nb, hnb⟩ : ∃ nb, b.length = nb := ⟨_, rfl⟩
  have HNB := Lib.hid hnb
  have hps : (1 : Int) ≤ (b.length : Int) := by omega
  have hcc : cap - 1 ≤ 9223372036854775807 := by omega
  have hcb : b.length - 1 ≤ cap - 1 := by omega
  have HCC := Lib.hid hcc
  have HCB := Lib.hid hcb
  rw [hnb] at h0 hzi hc hps HRD HCB ⊢
  clear hb hca hf hT hr hlr hbr hyr hnb hcc hcb hca0
  go_enter Tryd.func90, Tryd.ntmps90
  go_wp2
  refine wpS_start (fun W' => Below W.heap.size W W') 13 (by kernel_rfl) rfl (fun RG HR => ?_)
  refine wpS_take HR (i := 0) (v := .slice (some ⟨bx, ox, none⟩) nb cap) rfl (by decide +kernel) (by decide +kernel) (by decide +kernel) (fun _ _ _ h => h) (by rfl) (HREF.out.drew) (fun W' hW => by go_simp) ?_
  go_simp
  refine wpS_take HR (i := 1) (v := .pointer (some ⟨bx, ox, none⟩)) rfl (by decide +kernel) (by decide +kernel) (by decide +kernel) (fun _ _ _ h => h) (by rfl) (HREF.out.drew) (fun W' hW => by go_simp) ?_
  go_simp
  refine wpS_take HR (i := 2) (v := .int .u8 (f : Int)) rfl (by decide +kernel) (by decide +kernel) (by decide +kernel) (fun _ _ _ h => h) (by rfl) (HREF.out.drew) (fun W' hW => by have hc := cell_low hW HCA.out; go_simp) ?_
  go_simp
  refine wpS_take HR (i := 3) (v := .int .i64 (f : Int)) rfl (by decide +kernel) (by decide +kernel) (by decide +kernel) (fun _ _ _ h => h) (by rfl) (HREF.out.drew) (fun W' hW => by go_simp) ?_
  go_simp
  refine wpS_take HR (i := 4) (v := .slice (some ⟨bx, ox, none⟩) nb cap) rfl (by decide +kernel) (by decide +kernel) (by decide +kernel) (fun _ _ _ h => h) (by rfl) (HREF.out.drew) (fun W' hW => by go_simp) ?_
  go_simp
  refine wpS_take HR (i := 5) (v := .slice AR (nb - 1) (cap - 1)) rfl (by decide +kernel) (by decide +kernel) (by decide +kernel) (fun _ _ _ h => h) (by rfl) (HREF.out.drew) (fun W' hW => by go_simp) ?_
  go_simp
  refine wpS_take HR (i := 6) (v := .int .i64 (n : Int)) rfl (by decide +kernel) (by decide +kernel) (by decide +kernel) (fun _ _ _ h => h) (by rfl) (HREF.out.drew) (fun W' hW => by go_simp) ?_
  go_simp
  refine wpS_step1 HR (i := 7) (by decide +kernel) ?_
  refine stepS_call HR rfl (by rfl) (by go_simp; exact ⟨rfl, rfl⟩) ?_
  refine (HRD.out _ _ _ HREF.out.drew HYR.out HCB.out HCC.out).mono ?_
  rintro e w1 ⟨A1, c1, l1, er, rfl, hi1, hc1, hl1, h641, hb1, hu1⟩
  obtain ⟨m, hm1⟩ : ∃ m, l1.length = m := ⟨_, rfl⟩
  have HM1 := Lib.hid hm1
  rw [hm1] at hc1 hl1 ⊢
  have HI1 := Lib.hid hi1
  have HB1 := Lib.hid (HREF.out.drew.trans hb1 : Below W.heap.size W w1)
  have H641 := Lib.hid h641
  have HU1 := Lib.hid hu1
  have HC1 := Lib.hid hc1
  clear hm1 hi1 hb1 h641 hu1 HRD hc1
  refine ⟨_, rfl, HB1.out, ?_⟩
  go_simp
  refine wpS_take HR (i := 8) (v := .tuple #[.slice A1 m c1, .int .i64 er]) rfl (by decide +kernel) (by decide +kernel) (by decide +kernel) (fun _ _ _ h => h) (by rfl) (HB1.out) (fun W' hW => by go_simp) ?_
  go_simp
  refine wpS_take HR (i := 9) (v := .slice A1 m c1) rfl (by decide +kernel) (by decide +kernel) (by decide +kernel) (fun _ _ _ h => h) (by rfl) (HB1.out) (fun W' hW => by go_simp) ?_
  go_simp
  refine wpS_take HR (i := 10) (v := .int .i64 er) rfl (by decide +kernel) (by decide +kernel) (by decide +kernel) (fun _ _ _ h => h) (by rfl) (HB1.out) (fun W' hW => by go_simp) ?_
  go_simp
  refine wpS_take HR (i := 11) (v := .slice A1 m c1) rfl (by decide +kernel) (by decide +kernel) (by decide +kernel) (fun _ _ _ h => h) (by rfl) (HB1.out) (fun W' hW => by go_simp) ?_
  go_simp
  refine wpS_take HR (i := 12) (v := .int .i64 er) rfl (by decide +kernel) (by decide +kernel) (by decide +kernel) (fun _ _ _ h => h) (by rfl) (HB1.out) (fun W' hW => by go_simp) ?_
  go_simp
  refine wpS_done HR (by decide +kernel) ?_
  by_cases her : er = 0
  · subst her
    by_cases hmn : m = n
    · subst hmn
      have hmm : ((m : Int) != (m : Int)) = false := by simp
      have HENC2 := Lib.hid (HENC.out A1 c1 w1)
      have hcw := cell_low HB1.out HCA.out
      go_wp2_with (go_at_call 43; refine HENC2.out.mono ?_; rintro e w2 ⟨rfl, rfl⟩)
      go_ret2
      exact ⟨HB1.out, .inr ⟨HNOO.out, by rw [if_neg HH.out]; rfl⟩⟩
    · have hmm : ((m : Int) != (n : Int)) = true := by simp; omega
      have hmm2 : ¬ (m : Int) = (n : Int) := by omega
      have HNO : Hid (∀ l, ¬ decP b n l) := HNOO.out
      clear hmn
      go_wp2
      go_ret2
      exact ⟨HB1.out, .inr ⟨HNO.out, by rw [if_neg HH.out]; rfl⟩⟩
  · have hei : (er == 0) = false := by rw [beq_eq_false_iff_ne]; exact her
    have hei2 : (er != 0) = true := by simp [her]
    have HNO : Hid (∀ l, ¬ decP b n l) := HNOO.out
    go_wp2
    go_ret2
    exact ⟨HB1.out, .inr ⟨HNO.out, by rw [if_neg HH.out]; rfl⟩⟩

theorem decode_any (A : Option Addr) (cap : Nat) (b : List UInt8) (n : Int) (W : World) (hb : Byt W A b) (hc : b.length ≤ cap) (hm : cap ≤ 9223372036854775807) (hL : b.length ≤ 140737488355328) (hT : TabAt W) :
    Calls Tryd.prog 90 #[.slice A b.length cap, .int .i64 n] W (DecR W b n) := by
  by_cases h : n < 0 ∨ 4096 < n
  · exact dec_arg A cap b n W h
  · obtain ⟨k, rfl⟩ : ∃ k : Nat, n = (k : Int) := ⟨n.toNat, by omega⟩
    by_cases h0 : b.length = 0
    · exact dec_none A cap b k W (by omega) h0
    · have h1 : 0 < b.length := by omega
      by_cases hlo : (b[0]).toNat < 4
      · exact dec_in _ A cap b k W hb hc hm hL (by omega) h1 rfl hlo hT
      · exact dec_big _ A cap b k W hb hc hm hL (by omega) h1 rfl (by omega) hT
end Go.Proofs.YtfgmdaemcaamiaaDoor

/-! The walk of stackyardlaw06.IntsReads. -/
namespace Go.Proofs.YtfgmdaemcaamiaaDoor
open Go.RowKit
set_option linter.unusedVariables false

/-- A list and whether, handed back. -/
def LsE (W : World) (l : List Int) (er : Int) (e : Ending) (W' : World) : Prop := ∃ A c, e = .returned (.tuple #[.slice A l.length c, .int .i64 er]) ∧ Ints W' A l ∧ l.length ≤ c ∧ Below W.heap.size W W'
theorem DecR.some {W : World} {b : List UInt8} {n : Int} {l : List Int} (hl : decP b n l) {e : Ending} {W' : World} (h : DecR W b n e W') : LsE W l 0 e W' := by
  obtain ⟨hb, ⟨A, c, l', _, hu, rfl, hi, hc⟩ | ⟨hno, _⟩⟩ := h
  · obtain rfl := hu l hl
    exact ⟨A, c, rfl, hi, hc, hb⟩
  · exact absurd hl (hno l)
theorem DecR.none {W : World} {b : List UInt8} {n : Int} (hl : ∀ l, ¬ decP b n l) {e : Ending} {W' : World} (h : DecR W b n e W') : LsE W [] (if n < 0 ∨ 4096 < n then 2 else 60) e W' := by
  obtain ⟨hb, ⟨A, c, l', h1, _⟩ | ⟨_, rfl⟩⟩ := h
  · exact absurd h1 (hl l')
  · exact ⟨Option.none, 0, rfl, fun k hk => absurd hk (by simp), Nat.le_refl _, hb⟩
end Go.Proofs.YtfgmdaemcaamiaaDoor
