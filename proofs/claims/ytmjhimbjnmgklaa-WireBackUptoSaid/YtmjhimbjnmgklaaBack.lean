/- The walk of WireBack (6), of bytes and texts of at most a million bytes. -/
import Derived.Test.YtmjhimbjnmgklaaShown
import Derived.Test.YtmjhimbjnmgklaaTakeW
import Derived.Lib.SlicesS
namespace Go.Proofs.Ytmjhimbjnmgklaa
open Go.RowKit
set_option linter.unusedVariables false

theorem take_num (l r : List UInt8) (n : Nat) (hn : n < 18446744073709551616) (L : Nat) (hL : L = l.length) : takeO (l ++ num n ++ r) (L : Int) = some (n, (num n).length) := by
  subst hL
  unfold takeO
  rw [if_pos ⟨by omega, by simp; omega⟩, Int.toNat_natCast, List.append_assoc, List.drop_left]
  have h := decF_back 9 0 0 n r (by omega) (by omega) (by rw [room_0]; exact hn)
  have e : 0 + n * 128 ^ 0 = n := by simp
  rw [e, Nat.zero_add] at h
  exact h
theorem takeW_any_wide (A : Option Addr) (c i : Nat) (B : List UInt8) (w : World) (h : Byt w A B) (hc : B.length ≤ c) (hm : c ≤ maxLen) (hB : B.length ≤ 400000000000000) (n P : Nat) (e1 : tV B (i : Int) = n) (e2 : tP B (i : Int) = P) (e3 : tE B (i : Int) = 0) :
    Calls Try.prog 15 #[.slice A B.length c, .int .i64 i] w fun e w' => e = .returned (.tuple #[.int .u64 n, .int .i64 P, .int .i64 0]) ∧ w = w' := by
  have := take_anyW A c i B w h hc (by unfold maxLen at hm; omega) hB
  unfold Took at this
  rw [e1, e2, e3] at this
  exact this
theorem takeS_any_wide (A : Option Addr) (c i : Nat) (B : List UInt8) (w : World) (h : Byt w A B) (hc : B.length ≤ c) (hm : c ≤ maxLen) (hB : B.length ≤ 400000000000000) (m : Int) (Q : Nat) (e1 : unzig B (i : Int) = m) (e2 : tP B (i : Int) = Q) (e3 : tE B (i : Int) = 0) :
    Calls Try.prog 17 #[.slice A B.length c, .int .i64 i] w fun e w' => e = .returned (.tuple #[.int .i64 m, .int .i64 Q, .int .i64 0]) ∧ w = w' := by
  have := takesigned_anyW A c i B w h hc (by unfold maxLen at hm; omega) hB
  unfold TookS at this
  rw [e1, e2, e3] at this
  exact this
theorem takeT_any_wide (A : Option Addr) (c i k : Nat) (B : List UInt8) (w : World) (h : Byt w A B) (hn : A = none → c = 0) (hc : B.length ≤ c) (hm : c ≤ maxLen) (hB : B.length ≤ 400000000000000) (t : ByteArray) (R : Nat) (e1 : txS B (i : Int) (k : Int) = t) (e2 : txP B (i : Int) (k : Int) = R) (e3 : txE B (i : Int) (k : Int) = 0) :
    Calls Try.prog 25 #[.slice A B.length c, .int .i64 i, .int .i64 k] w fun e w' => e = .returned (.tuple #[.string t, .int .i64 R, .int .i64 0]) ∧ w = w' := by
  have := taketext_anyW A c i k B w h hn hc (by unfold maxLen at hm; omega) hB
  unfold TookT at this
  rw [e1, e2, e3] at this
  exact this
/-- What is laid, and what is read of it. -/
theorem back_list (l0 l4 : List UInt8) (n : Nat) (m : Int) (t : ByteArray) (hn : n < 18446744073709551616) (m0 : -9223372036854775808 ≤ m) (m1 : m ≤ 9223372036854775807) (ht : t.size ≤ 100000) (D B : List UInt8)
    (hD : D = l0 ++ num n ++ num (zig m) ++ num t.size ++ t.data.toList) (hB : B = D ++ l4) : ∃ P Q : Nat, Q ≤ D.length ∧ P ≤ D.length ∧
    tV B (l0.length : Int) = n ∧ tP B (l0.length : Int) = P ∧ tE B (l0.length : Int) = 0 ∧ unzig B P = m ∧ tP B P = Q ∧ tE B P = 0 ∧ txS B Q (t.size : Int) = t ∧ txP B Q (t.size : Int) = D.length ∧ txE B Q (t.size : Int) = 0 := by
  have hl : t.data.toList.length = t.size := by rw [Array.length_toList]; rfl
  have hDl : D.length = l0.length + (num n).length + (num (zig m)).length + (num t.size).length + t.size := by rw [hD]; simp only [List.length_append, hl]
  have k1 : takeO B (l0.length : Int) = some (n, (num n).length) := by
    rw [hB, hD]
    simp only [List.append_assoc]
    have := take_num l0 (num (zig m) ++ (num t.size ++ (t.data.toList ++ l4))) n hn _ rfl
    rwa [List.append_assoc] at this
  have k2 : takeO B ((l0.length + (num n).length : Nat) : Int) = some (zig m, (num (zig m)).length) := by
    have := take_num (l0 ++ num n) (num t.size ++ (t.data.toList ++ l4)) (zig m) (zig_lt m m0 m1) (l0.length + (num n).length) (by simp)
    rw [hB, hD]
    simp only [List.append_assoc] at this ⊢
    exact this
  have k3 : takeO B ((l0.length + (num n).length + (num (zig m)).length : Nat) : Int) = some (t.size, (num t.size).length) := by
    have := take_num (l0 ++ num n ++ num (zig m)) (t.data.toList ++ l4) t.size (by omega) (l0.length + (num n).length + (num (zig m)).length) (by simp; omega)
    rw [hB, hD]
    simp only [List.append_assoc] at this ⊢
    exact this
  have k4 : textO B ((l0.length + (num n).length + (num (zig m)).length : Nat) : Int) (t.size : Int) = some (t.data.toList, (D.length : Int)) := by
    unfold textO
    rw [k3]
    have hBl : B.length = D.length + l4.length := by rw [hB, List.length_append]
    simp only
    rw [if_neg (by omega)]
    have e : (((l0.length + (num n).length + (num (zig m)).length : Nat) : Int) + ((num t.size).length : Nat)).toNat = (l0 ++ num n ++ num (zig m) ++ num t.size).length := by simp only [List.length_append]; omega
    rw [e, hB, hD, List.append_assoc _ t.data.toList l4, List.drop_left, ← hl, List.take_left]
    congr 2
    simp only [List.length_append]
    omega
  refine ⟨l0.length + (num n).length, l0.length + (num n).length + (num (zig m)).length, by omega, by omega, (t_some k1).1, by rw [(t_some k1).2.1]; omega, (t_some k1).2.2, ?_, by rw [(t_some k2).2.1]; omega, (t_some k2).2.2, ?_, ?_, ?_⟩
  · simp only [unzig, k2, zag_zig]
  · simp only [txS, k4, str]
  · simp only [txP, k4]
  · simp only [txE, k4]

theorem txt_len (t : ByteArray) : t.data.toList.length = t.size := by rw [Array.length_toList]; rfl
set_option maxHeartbeats 6000000 in
set_option maxRecDepth 100000 in
theorem backs_core (A0 : Option Addr) (c0 : Nat) (l0 : List UInt8) (n : Nat) (m : Int) (s t : ByteArray) (A4 : Option Addr) (c4 : Nat) (l4 : List UInt8) (w : World) (hb0 : Byt w A0 l0) (hn0 : A0 = none → c0 = 0) (hb4 : Byt w A4 l4) (hn4 : A4 = none → c4 = 0)
    (hl0 : l0.length ≤ 1048576) (hl4 : l4.length ≤ 1048576) (hn : n < 18446744073709551616) (m0 : -9223372036854775808 ≤ m) (m1 : m ≤ 9223372036854775807) (hs : s.size ≤ maxLen) (ht : t.size ≤ 100000)
    (hcut : (s.size ≤ 100000 ∧ t = s) ∨ (¬ s.size ≤ 100000 ∧ t = s.extract 0 100000)) :
    Calls Try.prog 6 #[.slice A0 l0.length c0, .int .u64 n, .int .i64 m, .string s, .slice A4 l4.length c4] w fun e w' => e = .returned (.bool true) ∧ Below w.heap.size w w' := by
  have hsh := shown_any w
  have a1 := num_len n
  have a2 := num_len (zig m)
  have a3 := num_len t.size
  obtain ⟨P, Q, hQ, hP, e1, e2, e3, e4, e5, e6, e7, e8, e9⟩ := back_list l0 l4 n m t hn m0 m1 ht _ _ rfl rfl
  have h19 := fun w1 (h : Below w.heap.size w w1) => number_any A0 c0 n l0 w1 (hb0.keep h) hn0 (by omega) hn
  have h21 := fun A c w1 (h : Byt w1 A (l0 ++ num n)) (hA : A = none → c = 0) => signed_any A c m (l0 ++ num n) w1 h hA (by rw [List.length_append]; omega) m0 m1
  have h23 := fun A c w1 (h : Byt w1 A (l0 ++ num n ++ num (zig m))) (hA : A = none → c = 0) => text_any A c t (l0 ++ num n ++ num (zig m)) w1 (by omega) h hA (by rw [List.length_append, List.length_append]; omega)
  have hDl : (l0 ++ num n ++ num (zig m) ++ num t.size ++ t.data.toList).length ≤ 1200000 := by simp only [List.length_append, txt_len]; omega
  generalize hd1 : l0 ++ num n = D1 at h19 h21 h23 hQ hP hDl e1 e2 e3 e4 e5 e6 e7 e8 e9
  generalize hd2 : D1 ++ num (zig m) = D2 at h21 h23 hQ hP hDl e1 e2 e3 e4 e5 e6 e7 e8 e9
  generalize hd3 : D2 ++ num t.size ++ t.data.toList = D at h23 hQ hP hDl e1 e2 e3 e4 e5 e6 e7 e8 e9
  clear hd1 hd2 hd3 a1 a2 a3
  have hBl : (D ++ l4).length ≤ 400000000000000 := by rw [List.length_append]; omega
  have hz1 : ([] : List UInt8).length + D.length ≤ 200000000000000 := by simp; omega
  have hz2 : ([] ++ D : List UInt8).length + l4.length ≤ 200000000000000 := by simp; omega
  have hDle : (D.length : Int) ≤ 1200000 := by omega
  have h4le : (l4.length : Int) ≤ 1048576 := by omega
  generalize hB : D ++ l4 = B at e1 e2 e3 e4 e5 e6 e7 e8 e9 hBl
  have h15 := fun A c w1 (h : Byt w1 A B) (hc : B.length ≤ c) (hm : c ≤ maxLen) => takeW_any_wide A c l0.length B w1 h hc hm hBl n P e1 e2 e3
  have h17 := fun A c w1 (h : Byt w1 A B) (hc : B.length ≤ c) (hm : c ≤ maxLen) => takeS_any_wide A c P B w1 h hc hm hBl m Q e4 e5 e6
  have h25 := fun A c w1 (h : Byt w1 A B) (hn : A = none → c = 0) (hc : B.length ≤ c) (hm : c ≤ maxLen) => takeT_any_wide A c Q t.size B w1 h hn hc hm hBl t D.length e7 e8 e9
  clear e1 e2 e3 e4 e5 e6 e7 e8 e9 hBl hn m0 m1 hQ hP
  have hT1 : True := trivial
  rcases hcut with ⟨hc, rfl⟩ | ⟨hc, htx⟩
  · have tm : min (t.size : Int) 100000 = (t.size : Int) := by omega
    go_enter Try.func6, Try.ntmps6
    go_wp2_with (first | (go_at_call 14; refine hsh.mono ?_; rintro e w1 ⟨rfl, hb⟩) | (go_at_call 19; refine (h19 _ hb).mono ?_; rintro e w2 ⟨v2, rfl, ho2, hb2⟩; obtain ⟨A1, c1, rfl, hy1, hA1, _, _⟩ := ho2.form; have hb := hb.trans (hb2.mono hb.size); clear h19) | (go_at_call 21; refine (h21 _ _ _ hy1 hA1).mono ?_; rintro e w3 ⟨v3, rfl, ho3, hb3⟩; obtain ⟨A2, c2, rfl, hy2, hA2, _, _⟩ := ho3.form; have hb := hb.trans (hb3.mono hb.size); clear h21) | (go_at_call 23; refine (h23 _ _ _ hy2 hA2).mono ?_; rintro e w4 ⟨v4, rfl, ho4, hb4'⟩; obtain ⟨A3, c3, rfl, hy3, hA3, _, _⟩ := ho4.form; have hb := hb.trans (hb4'.mono hb.size); clear h23) | (at_make; refine mk_byt w4 rfl _ _ rfl _ (D.length + l4.length) rfl rfl ?_ ?_ (Below.refl _ _) ?_; omega; omega; intro w5 ho5 hb5) | (at_builtin; have tok := hT1; refine app_byt w4 rfl _ _ rfl _ [] rfl ho5 hb5 A3 D.length c3 D rfl rfl (hy3.keep hb5) hA3 hz1 ?_; intro v6 w6 ho6 hb6 _; clear tok hT1; obtain ⟨A6, c6, rfl, _, _, _, _⟩ := ho6.form; have hT2 : True := trivial) | (at_builtin; have tok := hT2; refine app_byt w4 rfl _ _ rfl _ ([] ++ D) rfl ho6 hb6 A4 l4.length c4 l4 rfl rfl (hb4.keep (hb.trans (hb6.mono hb.size))) hn4 hz2 ?_; intro v7 w7 ho7 hb7 _; clear tok hT2; have ho7' : Own w7 w4.heap.size v7 B := (by rw [← hB]; exact ho7); clear ho7; obtain ⟨A7, c7, rfl, hy7, hA7, hc7, hm7⟩ := ho7'.form; have hbF := hb.trans (hb7.mono hb.size)) | (go_at_call 15; refine (h15 _ _ _ hy7 hc7 hm7).mono ?_; rintro e w8 ⟨rfl, rfl⟩) | (go_at_call 17; refine (h17 _ _ _ hy7 hc7 hm7).mono ?_; rintro e w8 ⟨rfl, rfl⟩) | (go_at_call 25; refine (h25 _ _ _ hy7 hA7 hc7 hm7).mono ?_; rintro e w8 ⟨rfl, rfl⟩))

    go_ret
    exact ⟨rfl, hbF⟩
  · have tm : min (s.size : Int) 100000 = 100000 := by omega
    have hx := htx.symm
    clear htx
    go_enter Try.func6, Try.ntmps6
    go_wp2_with (first | (go_at_call 14; refine hsh.mono ?_; rintro e w1 ⟨rfl, hb⟩) | (go_at_call 19; refine (h19 _ hb).mono ?_; rintro e w2 ⟨v2, rfl, ho2, hb2⟩; obtain ⟨A1, c1, rfl, hy1, hA1, _, _⟩ := ho2.form; have hb := hb.trans (hb2.mono hb.size); clear h19) | (go_at_call 21; refine (h21 _ _ _ hy1 hA1).mono ?_; rintro e w3 ⟨v3, rfl, ho3, hb3⟩; obtain ⟨A2, c2, rfl, hy2, hA2, _, _⟩ := ho3.form; have hb := hb.trans (hb3.mono hb.size); clear h21) | (go_at_call 23; refine (h23 _ _ _ hy2 hA2).mono ?_; rintro e w4 ⟨v4, rfl, ho4, hb4'⟩; obtain ⟨A3, c3, rfl, hy3, hA3, _, _⟩ := ho4.form; have hb := hb.trans (hb4'.mono hb.size); clear h23) | (at_make; refine mk_byt w4 rfl _ _ rfl _ (D.length + l4.length) rfl rfl ?_ ?_ (Below.refl _ _) ?_; omega; omega; intro w5 ho5 hb5) | (at_builtin; have tok := hT1; refine app_byt w4 rfl _ _ rfl _ [] rfl ho5 hb5 A3 D.length c3 D rfl rfl (hy3.keep hb5) hA3 hz1 ?_; intro v6 w6 ho6 hb6 _; clear tok hT1; obtain ⟨A6, c6, rfl, _, _, _, _⟩ := ho6.form; have hT2 : True := trivial) | (at_builtin; have tok := hT2; refine app_byt w4 rfl _ _ rfl _ ([] ++ D) rfl ho6 hb6 A4 l4.length c4 l4 rfl rfl (hb4.keep (hb.trans (hb6.mono hb.size))) hn4 hz2 ?_; intro v7 w7 ho7 hb7 _; clear tok hT2; have ho7' : Own w7 w4.heap.size v7 B := (by rw [← hB]; exact ho7); clear ho7; obtain ⟨A7, c7, rfl, hy7, hA7, hc7, hm7⟩ := ho7'.form; have hbF := hb.trans (hb7.mono hb.size)) | (go_at_call 15; refine (h15 _ _ _ hy7 hc7 hm7).mono ?_; rintro e w8 ⟨rfl, rfl⟩) | (go_at_call 17; refine (h17 _ _ _ hy7 hc7 hm7).mono ?_; rintro e w8 ⟨rfl, rfl⟩) | (go_at_call 25; refine (h25 _ _ _ hy7 hA7 hc7 hm7).mono ?_; rintro e w8 ⟨rfl, rfl⟩))
    go_ret
    exact ⟨rfl, hbF⟩
end Go.Proofs.Ytmjhimbjnmgklaa
