/- Plain arithmetic of the check sum (CRC-32C) on 32-bit words: one bit's step, a byte's step, a text's sum; a step is one to one. -/
import Derived.Laws.BitsAllLaws
import Derived.KernelRfl
namespace Go.Proofs.YtfgmdaemcaamiaaDoor

def P32 : BitVec 32 := 2197175160#32
def bitN (r : BitVec 32) : BitVec 32 := (r >>> 1) ^^^ (if r.getLsbD 0 then P32 else 0#32)
def bitsN : Nat → BitVec 32 → BitVec 32
  | 0, r => r
  | n + 1, r => bitN (bitsN n r)
def byteN (r : BitVec 32) (c : UInt8) : BitVec 32 := bitsN 8 (r ^^^ BitVec.ofNat 32 c.toNat)
def foldN (r : BitVec 32) (l : List UInt8) : BitVec 32 := l.foldl byteN r
def ones32 : BitVec 32 := ~~~0#32
def crcN (l : List UInt8) : BitVec 32 := ~~~(foldN ones32 l)

theorem foldN_snoc (r : BitVec 32) (l : List UInt8) (c : UInt8) : foldN r (l ++ [c]) = byteN (foldN r l) c := by simp [foldN, List.foldl_append]
theorem foldN_app (r : BitVec 32) (l m : List UInt8) : foldN r (l ++ m) = foldN (foldN r l) m := by simp [foldN, List.foldl_append]
theorem foldN_take (r : BitVec 32) (l : List UInt8) (k : Nat) (h : k < l.length) : foldN r (l.take (k + 1)) = byteN (foldN r (l.take k)) l[k] := by
  rw [List.take_succ_eq_append_getElem h, foldN_snoc]

theorem wrap_u32_bv (x : BitVec 32) : IntKind.u32.wrap (x.toNat : Int) = (x.toNat : Int) := by
  rw [IntKind.wrap_u32']; have := x.isLt; omega
theorem ofInt_bv (x : BitVec 32) : BitVec.ofInt 32 (x.toNat : Int) = x := by
  rw [BitVec.ofInt_natCast]; simp
theorem bits_xor32 (a b : Int) : bits .xor .u32 a b = ((BitVec.ofInt 32 a ^^^ BitVec.ofInt 32 b).toNat : Int) := wrap_u32_bv _
theorem bits_and32 (a b : Int) : bits .and .u32 a b = ((BitVec.ofInt 32 a &&& BitVec.ofInt 32 b).toNat : Int) := wrap_u32_bv _

theorem half_bv (r : BitVec 32) : BitVec.ofInt 32 ((r.toNat : Int) / 2) = r >>> 1 := by
  apply BitVec.eq_of_toNat_eq
  have h : ((r.toNat : Int) / 2) = ((r.toNat / 2 : Nat) : Int) := by omega
  rw [h, BitVec.ofInt_natCast, BitVec.toNat_ofNat, BitVec.toNat_ushiftRight, Nat.shiftRight_eq_div_pow]
  have := r.isLt
  omega

theorem low_bv (r : BitVec 32) : (r &&& 1#32).toNat = r.toNat % 2 := by
  rw [BitVec.toNat_and]
  simp [Nat.and_one_is_mod]

theorem lsb0 (r : BitVec 32) : r.getLsbD 0 = decide (r.toNat % 2 = 1) := by
  simp [BitVec.getLsbD, Nat.testBit_zero]

/-- One bit's step as the program's text spells it. -/
theorem step_wire (r : BitVec 32) :
    bits .xor .u32 ((r.toNat : Int) / 2) (bits .and .u32 2197175160 (-bits .and .u32 (r.toNat : Int) 1 % 4294967296)) = ((bitN r).toNat : Int) := by
  rw [bits_xor32, half_bv]
  congr 1
  unfold bitN
  congr 2
  rw [bits_and32, bits_and32, ofInt_bv, ofInt_bv]
  have h1 : BitVec.ofInt 32 1 = 1#32 := rfl
  have hP : BitVec.ofInt 32 2197175160 = P32 := rfl
  rw [h1, hP, low_bv, lsb0]
  by_cases h : r.toNat % 2 = 1
  · rw [h]; simp; decide
  · have h0 : r.toNat % 2 = 0 := by omega
    rw [h0]; simp

theorem step_ref1 (r : BitVec 32) (h : (r.toNat : Int) % 2 = 1) : bits .xor .u32 ((r.toNat : Int) / 2) 2197175160 = ((bitN r).toNat : Int) := by
  rw [bits_xor32, half_bv]
  unfold bitN
  rw [lsb0, show r.toNat % 2 = 1 by omega]
  rfl
theorem step_ref0 (r : BitVec 32) (h : ¬ (r.toNat : Int) % 2 = 1) : ((r.toNat : Int) / 2) = ((bitN r).toNat : Int) := by
  unfold bitN
  rw [lsb0, show r.toNat % 2 = 0 by omega]
  simp [Nat.shiftRight_eq_div_pow]
theorem xor_byte (r : BitVec 32) (c : UInt8) : bits .xor .u32 (r.toNat : Int) ((c.toNat : Int) % 4294967296) = ((r ^^^ BitVec.ofNat 32 c.toNat).toNat : Int) := by
  rw [bits_xor32, ofInt_bv]
  congr 2
  have := c.toNat_lt
  rw [show ((c.toNat : Int) % 4294967296) = (c.toNat : Int) by omega, BitVec.ofInt_natCast]

theorem not_wire (x : BitVec 32) : bits .xor .u32 IntKind.u32.max (x.toNat : Int) = ((~~~x).toNat : Int) := by
  rw [bits_xor32, ofInt_bv, show BitVec.ofInt 32 IntKind.u32.max = BitVec.allOnes 32 from rfl, BitVec.allOnes_xor]
theorem not_ref (x : BitVec 32) : bits .xor .u32 (x.toNat : Int) 4294967295 = ((~~~x).toNat : Int) := by
  rw [bits_xor32, ofInt_bv, show BitVec.ofInt 32 4294967295 = BitVec.allOnes 32 from rfl, BitVec.xor_allOnes]

/-- A bit's step is one to one. -/
theorem bitN_inj {r s : BitVec 32} (h : bitN r = bitN s) : r = s := by
  have top : ∀ x : BitVec 32, (bitN x).getLsbD 31 = x.getLsbD 0 := by
    intro x
    unfold bitN
    rw [BitVec.getLsbD_xor, BitVec.getLsbD_ushiftRight]
    cases hx : x.getLsbD 0
    · simp
    · simp [P32]
  have h0 : r.getLsbD 0 = s.getLsbD 0 := by rw [← top, ← top, h]
  have hs : r >>> 1 = s >>> 1 := by
    unfold bitN at h
    rw [h0] at h
    exact (BitVec.xor_left_inj _).mp h
  apply BitVec.eq_of_getLsbD_eq
  intro i hi
  rcases i with _ | i
  · exact h0
  · have := congrArg (fun x => BitVec.getLsbD x i) hs
    simpa [BitVec.getLsbD_ushiftRight, Nat.add_comm] using this

theorem bitsN_inj : ∀ (n : Nat) {r s : BitVec 32}, bitsN n r = bitsN n s → r = s
  | 0, _, _, h => h
  | n + 1, _, _, h => bitsN_inj n (bitN_inj h)
theorem byteN_inj_left {r s : BitVec 32} (c : UInt8) (h : byteN r c = byteN s c) : r = s := by
  have := bitsN_inj 8 h
  simpa using this
theorem byteN_inj_right (r : BitVec 32) {c d : UInt8} (h : byteN r c = byteN r d) : c = d := by
  have h1 := bitsN_inj 8 h
  have h2 : BitVec.ofNat 32 c.toNat = BitVec.ofNat 32 d.toNat := by simpa using h1
  have h3 := congrArg BitVec.toNat h2
  simp only [BitVec.toNat_ofNat] at h3
  have hc := c.toNat_lt
  have hd := d.toNat_lt
  apply UInt8.toNat_inj.mp
  omega
theorem foldN_inj : ∀ (l : List UInt8) {r s : BitVec 32}, foldN r l = foldN s l → r = s
  | [], _, _, h => h
  | c :: l, _, _, h => byteN_inj_left c (foldN_inj l h)
/-- A text of which one byte is another one has another sum. -/
theorem crcN_set (l : List UInt8) (i : Nat) (c : UInt8) (hi : i < l.length) (hc : l[i] ≠ c) : crcN (l.set i c) ≠ crcN l := by
  intro h
  have h1 : foldN ones32 (l.set i c) = foldN ones32 l := by
    unfold crcN at h
    exact BitVec.not_inj.mp h
  have e1 : l.set i c = l.take i ++ c :: l.drop (i + 1) := by rw [List.set_eq_take_append_cons_drop, if_pos hi]
  have e2 : l = l.take i ++ l[i] :: l.drop (i + 1) := by rw [List.getElem_cons_drop, List.take_append_drop]
  rw [e1] at h1
  conv at h1 => rhs; rw [e2]
  rw [foldN_app, foldN_app] at h1
  have h2 : byteN (foldN ones32 (l.take i)) c = byteN (foldN ones32 (l.take i)) l[i] := foldN_inj (l.drop (i + 1)) h1
  exact hc (byteN_inj_right _ h2).symm

end Go.Proofs.YtfgmdaemcaamiaaDoor
