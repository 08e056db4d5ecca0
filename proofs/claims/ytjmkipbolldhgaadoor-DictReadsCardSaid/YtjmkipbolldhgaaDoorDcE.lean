/- dict.takeTexts. -/
import Derived.Test.YtjmkipbolldhgaaDoorDcD
import Derived.Test.YtjmkipbolldhgaaDoorTakeW
namespace Go.Proofs.YtjmkipbolldhgaaDoor
open Go.RowKit
set_option linter.unusedVariables false

theorem takeO_at (p r : List UInt8) (n : Nat) (hn : n < 18446744073709551616) : takeO (p ++ (num n ++ r)) (p.length : Int) = some (n, (num n).length) := by
  unfold takeO
  rw [if_pos ⟨by omega, by simp; omega⟩, Int.toNat_natCast, List.drop_left]
  have h := decF_back 9 0 0 n r (by omega) (by omega) (by rw [room_0]; exact hn)
  have e : 0 + n * 128 ^ 0 = n := by simp
  rw [e, Nat.zero_add] at h
  exact h
theorem textO_at (q r : List UInt8) (t : Tx) (ht : t.length ≤ 1024) : textO (q ++ (txt t ++ r)) (q.length : Int) 1024 = some (t, ((q.length + (txt t).length : Nat) : Int)) := by
  unfold textO txt
  rw [List.append_assoc, takeO_at q (t ++ r) t.length (by omega)]
  simp only
  have hl : (q ++ (num t.length ++ (t ++ r))).length = q.length + (num t.length).length + t.length + r.length := by simp; omega
  rw [if_neg (by rw [hl]; omega)]
  have e3 : ((q.length : Int) + ((num t.length).length : Nat)).toNat = (q ++ num t.length).length := by rw [List.length_append]; omega
  rw [e3, ← List.append_assoc, List.drop_left, List.take_left]
  congr 2
  rw [List.length_append]
  omega
theorem decF_le7 : ∀ (f k m : Nat) (t : List UInt8) (n c : Nat), decF f k m t = some (n, c) → c ≤ k + t.length
  | 0, _, _, _, _, _, h => by simp [decF] at h
  | _ + 1, _, _, [], _, _, h => by simp [decF] at h
  | f + 1, k, m, x :: t, n, c, h => by
    rw [decF] at h
    rw [List.length_cons]
    split at h
    · split at h
      · cases h
      · simp only [Option.some.injEq, Prod.mk.injEq] at h
        omega
    · have := decF_le7 f (k + 1) _ t n c h
      omega
theorem takeO_end7 {l : List UInt8} {at_ : Int} {n c : Nat} (h : takeO l at_ = some (n, c)) : 0 ≤ at_ ∧ at_ + c ≤ l.length := by
  unfold takeO at h
  by_cases hp : 0 ≤ at_ ∧ at_ ≤ l.length
  · rw [if_pos hp] at h
    have := decF_le7 _ _ _ _ _ _ h
    rw [List.length_drop] at this
    omega
  · rw [if_neg hp] at h; cases h
theorem textO_end {l : List UInt8} {at_ p : Int} {t : Tx} (h : textO l at_ 1024 = some (t, p)) : t.length ≤ 1024 ∧ 0 ≤ p ∧ p ≤ l.length := by
  unfold textO at h
  cases ht : takeO l at_ with
  | none => rw [ht] at h; cases h
  | some x =>
    obtain ⟨n, c⟩ := x
    rw [ht] at h
    have he := takeO_end7 ht
    simp only at h
    split at h
    · cases h
    · simp only [Option.some.injEq, Prod.mk.injEq] at h
      obtain ⟨rfl, rfl⟩ := h
      rw [List.length_take]
      omega
/-- Texts lie at a place. -/
def LiesT (p b : List UInt8) (L : List Tx) : Prop := ∃ r, p ++ (L.flatMap txt ++ r) = b
/-- So far as texts were read, they are those of any list that lies there. -/
def TrT (p b : List UInt8) (n : Nat) (d : List Tx) (at_ : Int) : Prop := ∀ L : List Tx, (∀ x ∈ L, x.length ≤ 1024) → L.length = n → LiesT p b L → d = L.take d.length ∧ at_ = ((p ++ d.flatMap txt).length : Int)
theorem trt_0 (p b : List UInt8) (n : Nat) : TrT p b n [] (p.length : Int) := fun L _ _ _ => ⟨rfl, by simp⟩
theorem trt_at {p b : List UInt8} {n : Nat} {d : List Tx} {at_ : Int} (h : TrT p b n d at_) (hk : d.length < n) (L : List Tx) (h64 : ∀ x ∈ L, x.length ≤ 1024) (hl : L.length = n) (hb : LiesT p b L) :
    textO b at_ 1024 = some (L[d.length]'(by omega), at_ + ((txt (L[d.length]'(by omega))).length : Int)) ∧ d ++ [L[d.length]'(by omega)] = L.take (d.length + 1) := by
  obtain ⟨h1, h2⟩ := h L h64 hl hb
  have hkl : d.length < L.length := by omega
  have hsp : L = d ++ (L[d.length] :: L.drop (d.length + 1)) := by
    conv => lhs; rw [← List.take_append_drop d.length L, ← h1, List.drop_eq_getElem_cons hkl]
  have hx := h64 _ (List.getElem_mem hkl)
  refine ⟨?_, by rw [List.take_succ_eq_append_getElem hkl, ← h1]⟩
  obtain ⟨r, hb⟩ := hb
  generalize L[d.length] = x at *
  rw [h2, ← hb, hsp, List.flatMap_append, List.flatMap_cons, List.append_assoc, List.append_assoc, ← List.append_assoc p]
  have := textO_at (p ++ d.flatMap txt) ((L.drop (d.length + 1)).flatMap txt ++ r) x hx
  rw [this]
  congr 2
theorem trt_bad {p b : List UInt8} {n : Nat} {d : List Tx} {at_ : Int} (h : TrT p b n d at_) (hk : d.length < n) (hE : textO b at_ 1024 = none) (L : List Tx) (h64 : ∀ x ∈ L, x.length ≤ 1024) (hl : L.length = n) (hb : LiesT p b L) : False := by
  have := (trt_at h hk L h64 hl hb).1
  rw [hE] at this
  cases this
theorem trt_step {p b : List UInt8} {n : Nat} {d : List Tx} {at_ : Int} (h : TrT p b n d at_) (hk : d.length < n) {t : Tx} {p' : Int} (hE : textO b at_ 1024 = some (t, p')) : TrT p b n (d ++ [t]) p' := fun L h64 hl hb => by
  have hq := trt_at h hk L h64 hl hb
  obtain ⟨h1, h2⟩ := h L h64 hl hb
  obtain ⟨q1, q2⟩ := hq
  rw [hE] at q1
  simp only [Option.some.injEq, Prod.mk.injEq] at q1
  obtain ⟨rfl, rfl⟩ := q1
  refine ⟨by rw [List.length_append]; exact q2, ?_⟩
  rw [h2, List.flatMap_append, List.flatMap_cons, List.flatMap_nil, List.append_nil, ← List.append_assoc, List.length_append (bs := txt _)]
  omega
theorem trt_full {p b : List UInt8} {n : Nat} {d : List Tx} {at_ : Int} (h : TrT p b n d at_) (hk : d.length = n) (L : List Tx) (h64 : ∀ x ∈ L, x.length ≤ 1024) (hl : L.length = n) (hb : LiesT p b L) : d = L ∧ at_ = ((p ++ L.flatMap txt).length : Int) := by
  obtain ⟨h1, h2⟩ := h L h64 hl hb
  have e : d = L := by rwa [List.take_of_length_le (by omega)] at h1
  exact ⟨e, by rw [h2, e]⟩
theorem tt_none (a : Option Addr) (cap nb : Nat) (at_ : Int) (l : List UInt8) (w : World) (hnb : l.length = nb) (hb : Byt w a l) (hn : a = none → cap = 0) (hc : nb ≤ cap) (hm : cap ≤ 9223372036854775807) (hL : nb ≤ 140737488355328) (h : textO l at_ 1024 = none) :
    Calls Tryd.prog 58 #[.slice a nb cap, .int .i64 at_, .int .i64 1024] w fun e w' => e = .returned (.tuple #[.string ⟨#[]⟩, .int .i64 0, .int .i64 20]) ∧ w = w' := by
  subst hnb
  refine (taketext_anyW a cap at_ 1024 l w hb hn hc hm (by omega)).mono ?_
  rintro e w' ⟨rfl, rfl⟩
  refine ⟨?_, rfl⟩
  simp [txS, txP, txE, h, str]
theorem tt_some (a : Option Addr) (cap nb : Nat) (at_ : Int) (l : List UInt8) (w : World) (hnb : l.length = nb) (hb : Byt w a l) (hn : a = none → cap = 0) (hc : nb ≤ cap) (hm : cap ≤ 9223372036854775807) (hL : nb ≤ 140737488355328) {t : Tx} {p : Int} (h : textO l at_ 1024 = some (t, p)) :
    Calls Tryd.prog 58 #[.slice a nb cap, .int .i64 at_, .int .i64 1024] w fun e w' => e = .returned (.tuple #[.string (str t), .int .i64 p, .int .i64 0]) ∧ w = w' := by
  subst hnb
  refine (taketext_anyW a cap at_ 1024 l w hb hn hc hm (by omega)).mono ?_
  rintro e w' ⟨rfl, rfl⟩
  refine ⟨?_, rfl⟩
  simp [txS, txP, txE, h]
def zS (k : Nat) : Array Value := ((List.replicate k ([] : Tx)).map encStr).toArray
theorem made_str (k : Nat) : madeCells (Value.string ⟨#[]⟩).cells k = zS k := by
  unfold zS
  apply Array.ext'
  apply List.ext_getElem
  · simp [madeCells]
  · intro i h1 h2
    have e1 : i % 1 = 0 := Nat.mod_one i
    simp [madeCells, Value.cells, e1, encStr]
theorem mk_strn {ops : Array Oper} {rest : List Oper} {o : Oper} {a : Act} {Q : Exit → Act → World → Prop} {w : World} (hgd : o.guard = none) (l c : Operand)
    (hop : o.op = Op.makeSlice 22 l c) (k : Nat) (hl : a.eval l = .int .i64 (k : Int)) (hc : a.eval c = .int .i64 (k : Int)) (hsz : k ≤ 281474976710)
    (h : wpList Tryd.prog ops Q rest (a.put o.dst (.slice (some ⟨w.heap.size, 0, none⟩) k k)) (w.alloc (.cells (zS k) 9))) : wpList Tryd.prog ops Q (o :: rest) a w := by
  obtain ⟨i0, hti, hz0, hz1, hz2⟩ := info_parts info_str
  have hr := run_make (P := Tryd.prog) w 22 9 i0 (.string ⟨#[]⟩) Tryd.underlying22 hti hz0 .i64 .i64 k k (by omega) (by omega) (by rw [hz2]; omega) (by omega)
  simp only [Int.toNat_natCast] at hr
  rw [hz1, Nat.mul_one, made_str] at hr
  refine wpList_plain hgd fun K hK' => ?_
  unfold Oper.wp
  simp [execOp, hop, hl, hc, hr, Result.andThen]
  exact hK' _ _ h
theorem strs_put (l : List Tx) (k n : Nat) (x : Tx) (h : k = l.length) (hk : k < n) : ((l ++ List.replicate (n - k) ([] : Tx)).map encStr).set k (.string (str x)) = ((l ++ [x]) ++ List.replicate (n - (k + 1)) ([] : Tx)).map encStr := by
  obtain ⟨m, hm⟩ : ∃ m, n - k = m + 1 := ⟨n - k - 1, by omega⟩
  rw [hm, show n - (k + 1) = m by omega, List.replicate_succ, List.map_append, List.map_append, List.map_append, List.set_append_right _ _ (by rw [List.length_map, h]; exact Nat.le_refl _), List.length_map, h, Nat.sub_self, List.append_assoc]
  rfl
theorem strs_bk {W : World} {g : Nat} {t : TypeId} {l : List Tx} (h : Blk W g t (l.map encStr)) : Strs W (some ⟨g, 0, none⟩) l := strs_blk (t := t) h
/-- What takeTexts hands back. -/
def TkT (W0 : World) (p b : List UInt8) (n : Nat) (e : Ending) (W' : World) : Prop := ∃ A c d at_ er, e = .returned (.tuple #[.slice A d.length c, .int .i64 at_, .int .i64 er]) ∧ Strs W' A d ∧ d.length ≤ c ∧ (∀ x ∈ d, x.length ≤ 1024) ∧ Below W0.heap.size W0 W' ∧ (er = 0 → d.length = n ∧ 0 ≤ at_ ∧ at_ ≤ b.length) ∧
  (∀ L : List Tx, (∀ x ∈ L, x.length ≤ 1024) → L.length = n → LiesT p b L → er = 0 ∧ d = L ∧ at_ = ((p ++ L.flatMap txt).length : Int))

set_option maxRecDepth 100000 in
set_option maxHeartbeats 8000000 in
theorem taketexts_any (A : Option Addr) (cap n nb : Nat) (p b : List UInt8) (a0 : Int) (W : World) (hnb : b.length = nb) (hp : a0 = (p.length : Int)) (hb : Byt W A b) (hA : A = none → cap = 0) (hc : nb ≤ cap) (hm : cap ≤ 9223372036854775807) (hL : nb ≤ 140737488355328) (hn : n ≤ 4096) (hpb : 0 ≤ a0 ∧ a0 ≤ nb) :
    Calls Tryd.prog 44 #[.slice A nb cap, .int .i64 a0, .int .i64 (n : Int)] W (TkT W p b n) := by
  have HB := Lib.hid hb
  have HNB := Lib.hid hnb
  have HT0 : Hid (TrT p b n [] a0) := by rw [hp]; exact trt_0 p b n
  obtain ⟨N, hN⟩ : ∃ N, W.heap.size = N := ⟨_, rfl⟩
  obtain ⟨W1, hW1⟩ : ∃ x, x = W.alloc (.cells (zS n) 9) := ⟨_, rfl⟩
  have HBK : Hid (Blk W1 N 9 (([] ++ List.replicate (n - 0) ([] : Tx)).map encStr)) := by rw [hW1, ← hN]; exact Blk.born W _ _
  have HE1 : Hid (Below N W W1) := by rw [hW1, ← hN]; exact (Below.refl _ _).alloc (Nat.le_refl _) _
  have HW1 := Lib.hid hW1
  have HNN := Lib.hid hN
  have HA := Lib.hid hA
  clear hb hN hW1 hA hp hnb
  go_enter Tryd.func44, Tryd.ntmps44
  go_wp2_with (refine mk_strn rfl _ _ rfl n rfl rfl (by omega) ?_)
  rw [← HW1.out, HNN.out]
  go_loopw [1, 16] (fun pv i wr => ∃ (d : List Tx) (at_ : Int), pv = .int .i64 at_ ∧ i = .int .i64 (d.length : Int) ∧ d.length ≤ n ∧ (∀ x ∈ d, x.length ≤ 1024) ∧ (0 ≤ at_ ∧ at_ ≤ nb) ∧ TrT p b n d at_ ∧ Blk wr N 9 ((d ++ List.replicate (n - d.length) ([] : Tx)).map encStr) ∧ Below N W wr) (fun _ i _ => n - (intOf i).toNat)
  case atStart => exact ⟨[], a0, rfl, rfl, by simp, fun y hy => absurd hy (by simp), hpb, HT0.out, HBK.out, HE1.out⟩
  case round =>
    obtain ⟨d, at_, rfl, rfl, hdn, h64, hat, htr, hblk, hbel⟩ := hrel
    obtain ⟨k, hnd⟩ : ∃ k, d.length = k := ⟨_, rfl⟩
    rw [hnd] at hdn hblk ⊢
    have HND := Lib.hid hnd
    have HBEL := Lib.hid hbel
    have HBLK := Lib.hid hblk
    have H64 := Lib.hid h64
    have HTR := Lib.hid htr
    have HAT := Lib.hid hat
    by_cases hlt : k < n
    · have hbw := HB.out.keep (HNN.out ▸ hbel : Below W.heap.size W wr)
      have hkl : k < ((d ++ List.replicate (n - k) ([] : Tx)).map encStr).length := by rw [List.length_map, List.length_append, List.length_replicate, hnd]; omega
      have hcell := hblk.at_ k
      rw [List.getElem?_eq_getElem hkl] at hcell
      have hfr := hblk.free k
      cases hto : textO b at_ 1024 with
      | none =>
        have hq := tt_none A cap nb at_ b wr HNB.out hbw HA.out hc hm hL hto
        have HQ := Lib.hid hq
        have HNO : Hid (∀ L : List Tx, (∀ x ∈ L, x.length ≤ 1024) → L.length = n → LiesT p b L → False) := fun L h1 h2 h3 => trt_bad htr (by rw [hnd]; exact hlt) hto L h1 h2 h3
        generalize ((d ++ List.replicate (n - k) ([] : Tx)).map encStr)[k] = old at hcell
        clear hq hto hbel hblk h64 htr hnd hbw hkl
        go_wp2_with (go_at_call 58; refine HQ.out.mono ?_; rintro e w1 ⟨rfl, rfl⟩)
        go_ret3
        exact ⟨none, 0, [], 0, 20, rfl, fun k hk => absurd hk (by simp), Nat.le_refl _, fun y hy => absurd hy (by simp), by rw [HNN.out]; exact HBEL.out.setCell (by simp) _, fun h => by omega, fun L h1 h2 h3 => (HNO.out L h1 h2 h3).elim⟩
      | some tp =>
        obtain ⟨t, p'⟩ := tp
        have hq := tt_some A cap nb at_ b wr HNB.out hbw HA.out hc hm hL hto
        have hend := textO_end hto
        have htr2 := trt_step htr (by rw [hnd]; exact hlt) hto
        have hput := strs_put d k n t hnd.symm hlt
        have hnew : Blk (wr.setCell ⟨N, k, none⟩ (.string (str t))) N 9 (((d ++ [t]) ++ List.replicate (n - (k + 1)) ([] : Tx)).map encStr) := by rw [← hput]; exact hblk.store k _
        have HQ := Lib.hid hq
        have HTR2 := Lib.hid htr2
        have HNEW := Lib.hid hnew
        have H642 : Hid (∀ x ∈ d ++ [t], x.length ≤ 1024) := fun x hx => by
          rcases List.mem_append.1 hx with h | h
          · exact h64 x h
          · rw [List.mem_singleton.1 h]; exact hend.1
        have HL1 : Hid ((d ++ [t]).length = k + 1) := by show _ = _; rw [List.length_append, hnd]; rfl
        have HEND : Hid (0 ≤ p' ∧ p' ≤ (nb : Int)) := by have := HNB.out; exact ⟨hend.2.1, by omega⟩
        have HK : Hid (k < n) := hlt
        generalize ((d ++ List.replicate (n - k) ([] : Tx)).map encStr)[k] = old at hcell
        obtain ⟨sx, hsx⟩ : ∃ sx, str t = sx := ⟨_, rfl⟩
        rw [hsx] at HQ HNEW
        clear hq hto hbel hblk h64 htr hnd hbw hkl htr2 hput hnew hend hsx
        go_wp2_with (go_at_call 58; refine HQ.out.mono ?_; rintro e w1 ⟨rfl, rfl⟩)
        go_roundw
        case rel => exact ⟨d ++ [t], p', rfl, by rw [HL1.out]; go_num, by rw [HL1.out]; exact HK.out, H642.out, HEND.out, HTR2.out, by rw [HL1.out]; exact HNEW.out, HBEL.out.setCell (by simp) _⟩
        case measure => simp [intOf]; have := HK.out; omega
    · obtain rfl : k = n := by omega
      have HI : Hid (Strs wr (some ⟨N, 0, none⟩) d) := by
        have hb2 := hblk
        rw [Nat.sub_self, List.replicate_zero, List.append_nil] at hb2
        exact strs_bk hb2
      clear hbel hblk h64 htr hnd
      go_wp2
      go_ret3
      exact ⟨some ⟨N, 0, none⟩, k, d, at_, 0, by rw [HND.out]; rfl, HI.out, by rw [HND.out]; exact Nat.le_refl _, H64.out, by rw [HNN.out]; exact HBEL.out, fun _ => ⟨HND.out, HAT.out.1, by have := HAT.out.2; have := HNB.out; omega⟩, fun L h1 h2 h3 => by
        obtain ⟨e1, e2⟩ := trt_full HTR.out HND.out L h1 h2 h3
        exact ⟨rfl, e1, e2⟩⟩
end Go.Proofs.YtjmkipbolldhgaaDoor
