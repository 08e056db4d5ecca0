/- Rows of integers of the call's own. -/
import Derived.Test.YtdchaojgldfagaaDoorInN
import Derived.Test.YtdchaojgldfagaaDoorPaY
namespace Go.Proofs.YtdchaojgldfagaaDoor
open Go.RowKit
set_option linter.unusedVariables false

def OwnI (w : World) (B : Nat) (v : Value) (l : List Int) : Prop := w.ownsRow B 2 1 v l.length (i64s l)
theorem i64s_app (l m : List Int) : i64s (l ++ m) = i64s l ++ i64s m := by simp [i64s]
theorem i64s_one (l : List Int) : ∀ u ∈ i64s l, u.oneCell' = true := by
  intro u hu
  obtain ⟨c, _, rfl⟩ := List.mem_map.1 hu
  rfl
theorem Ints.news {w : World} {ad : Addr} {l : List Int} (h : Ints w (some ad) l) : ∀ j u, (i64s l)[j]? = some u → w.cell? (ad.add j) = some u := by
  intro j u hu
  have hj : j < l.length := by
    have := (List.getElem?_eq_some_iff.1 hu).1
    rwa [i64s_len] at this
  obtain ⟨b, o, e, hc⟩ := h j hj
  injection e with e
  subst e
  rw [Addr.add_lit, hc, ← hu]
  simp [i64s, hj]
theorem OwnI.form {w : World} {B : Nat} {v : Value} {l : List Int} (h : OwnI w B v l) : ∃ A c, v = .slice A l.length c ∧ Ints w A l ∧ (A = none → c = 0) ∧ l.length ≤ c := by
  rcases h.2 with ⟨rfl, h0⟩ | ⟨g, cap, cur, rfl, hb, hg, hn, hm, hs, ht⟩
  · have : l = [] := List.length_eq_zero_iff.1 h0
    subst this
    exact ⟨none, 0, rfl, fun k hk => by simp at hk, fun _ => rfl, Nat.le_refl _⟩
  · refine ⟨some ⟨g, 0, none⟩, cap, rfl, ?_, by simp, hn⟩
    intro k hk
    refine ⟨g, 0, rfl, ?_⟩
    have := World.ownsRow.cells h (g := g) rfl k (.int .i64 l[k]) (by simp [i64s, hk])
    rwa [Addr.add_lit] at this
theorem app_i64 {ops : Array Oper} {rest : List Oper} {o : Oper} {a : Act} {Q : Exit → Act → World → Prop} {w : World} (w0 : World) (hgd : o.guard = none) (s x : Operand)
    (ho : o.op = .call { callee := .builtin .append, args := #[s, x], argTypes := #[22, 22] }) (v : Value) (d : List Int) (hs : a.eval s = v) (hown : OwnI w w0.heap.size v d) (hbel : Below w0.heap.size w0 w)
    (A : Option Addr) (m c : Nat) (q : List Int) (hx : a.eval x = .slice A m c) (hm : m = q.length) (hq : Ints w A q) (hn : A = none → c = 0) (hsz : d.length + q.length ≤ 17000000000000)
    (h : ∀ v' w', OwnI w' w0.heap.size v' (d ++ q) → Below w0.heap.size w0 w' → wpList Tryd.prog ops Q rest (a.put o.dst v') w') : wpList Tryd.prog ops Q (o :: rest) a w := by
  obtain ⟨i0, hti, hz0, hz1, hz2⟩ := info_parts info_i64
  subst hm
  cases A with
  | none =>
    obtain rfl := hq.nil
    obtain rfl := hn rfl
    refine wpList_append_own_none hgd s x 22 ho w0.heap.size 2 i0 1 Tryd.underlying22 hti v d.length (i64s d) hs hown hx (h v w ?_ hbel)
    rw [List.append_nil]; exact hown
  | some ad =>
    refine wpList_append_own w hgd s x 22 ho w0.heap.size 2 i0 (.int .i64 0) 1 8 Tryd.underlying22 hti hz0 hz1 hz2 rfl (by decide) v d.length (i64s d) hs hown ad q.length c (i64s q) hx (by rw [i64s_len]; omega) hq.news (i64s_one q) (by unfold maxLen; omega) (by omega) hbel.size ?_
    intro v' w' h1 h2 h5
    refine h v' w' ?_ (hbel.grown h2 hbel.size (fun k hk => (World.ownsRow.lt hown k hk).1))
    show w'.ownsRow w0.heap.size 2 1 v' (d ++ q).length (i64s (d ++ q))
    rw [List.length_append, i64s_app]; exact h1

set_option maxRecDepth 100000 in
set_option maxHeartbeats 4000000 in
theorem inear_any (low : Int) (A : Option Addr) (cap : Nat) (b : List UInt8) (w : World) (hb : Byt w A b) (hcap : b.length ≤ cap) (hn : b.length ≤ 4611686018427387904) (hlow : I64 low) (hT : TabAt w) :
    Calls Tryd.prog 8 #[.int .i64 low, .slice A b.length cap] w fun e w' => e = .returned (.bool true) ∧ Below w.heap.size w w' := by
  have hs := shown6_any w hT
  obtain ⟨m, hm⟩ : ∃ m, min b.length 1000 = m := ⟨_, rfl⟩
  have hmi : min (b.length : Int) 1000 = (m : Int) := by omega
  obtain ⟨B, hB⟩ : ∃ B, b.take m = B := ⟨_, rfl⟩
  have hBm : B.length = m := by rw [← hB, List.length_take]; omega
  have hby : Byt w A B := by rw [← hB]; exact hb.cut m
  obtain ⟨n, hbl⟩ : ∃ n, b.length = n := ⟨_, rfl⟩
  rw [hbl] at hmi hm hcap hn ⊢
  have hm1 : m ≤ n := by omega
  have hm2 : m ≤ 1000 := by omega
  have hm3 : m ≤ cap := by omega
  by_cases hbig : (9223372036854775508 : Int) < low
  · clear hb hT hbl hby
    go_enter Tryd.func8, Tryd.ntmps8
    go_wp2_with (go_at_call 9; refine hs.mono ?_; rintro e w1 ⟨rfl, hb1⟩; have HB := Lib.hid hb1; clear hb1 hs)
    go_ret
    exact ⟨rfl, HB.out⟩
  · obtain ⟨NL, hNL⟩ : ∃ NL : Nat → List Int, NL = fun k => (B.take k).map fun c => low + (c.toNat : Int) := ⟨_, rfl⟩
    have hN0 : NL 0 = [] := by rw [hNL]; simp
    have hNl : ∀ k, k ≤ m → (NL k).length = k := fun k hk => by rw [hNL]; simp only [List.length_map, List.length_take]; omega
    have hNs : ∀ k (h : k < B.length), NL (k + 1) = NL k ++ [low + ((B[k]).toNat : Int)] := fun k h => by rw [hNL]; simp only [List.take_succ_eq_append_getElem h, List.map_append, List.map_cons, List.map_nil]
    have hnear := best_near low B hlow.1 (by omega) (by omega)
    have hNm : (B.map fun c => low + (c.toNat : Int)) = NL m := by rw [hNL]; simp only; rw [List.take_of_length_le (by omega)]
    rw [hNm, hBm] at hnear
    have h64 : All64 (NL m) := fun y hy => by
      rw [← hNm] at hy
      obtain ⟨c, _, rfl⟩ := List.mem_map.1 hy
      have := c.toNat_lt
      unfold I64 at *
      omega
    have hbest := fun (A : Option Addr) (cap : Nat) (w1 : World) (hi : Ints w1 A (NL m)) (hc : m ≤ cap) (hT : TabAt w1) => best_any A cap (NL m) w1 hi h64 (by rw [hNl m (Nat.le_refl _)]; omega) (by rw [hNl m (Nat.le_refl _)]; exact hc) hT
    have henc := fun (A : Option Addr) (cap : Nat) (w1 : World) (hi : Ints w1 A (NL m)) (hc : m ≤ cap) (hT : TabAt w1) => enc_any (bestL (NL m)) (bestL_spec (NL m)).1 A cap (NL m) w1 hi h64 (by rw [hNl m (Nat.le_refl _)]; omega) (by rw [hNl m (Nat.le_refl _)]; exact hc) hT
    have hln : (encI (bestL (NL m)) (NL m)).length ≤ m + 12 := hnear
    have hlm := hNl m (Nat.le_refl _)
    rw [hlm] at hbest henc
    generalize encI (bestL (NL m)) (NL m) = eb at henc hln
    generalize bestL (NL m) = fb at hbest henc
    unfold LaidI at henc
    have HBEST := Lib.hid hbest
    have HENC := Lib.hid henc
    have HLN := Lib.hid hln
    have HT := Lib.hid hT
    have HBY := Lib.hid hby
    have HBM := Lib.hid hBm
    have HNL := Lib.hid hNl
    have HNS := Lib.hid hNs
    have HN0 := Lib.hid hN0
    have HLOW := Lib.hid hlow
    clear hb hT hbl hby hbest henc hln hnear h64 hNm hNL hN0 hNl hNs hB hBm hlm
    go_enter Tryd.func8, Tryd.ntmps8
    go_wp2_with (go_at_call 9; refine hs.mono ?_; rintro e w1 ⟨rfl, hb1⟩; have HB := Lib.hid hb1; clear hb1 hs)
    go_loopw [6, 7] (fun v i wr => ∃ k : Nat, k ≤ m ∧ i = .int .i64 k ∧ OwnI wr w.heap.size v (NL k) ∧ Below w.heap.size w wr) (fun _ i _ => m - (intOf i).toNat)
    case atStart => exact ⟨0, by omega, rfl, by rw [HN0.out]; exact ⟨rfl, .inl ⟨rfl, rfl⟩⟩, HB.out⟩
    case round =>
      obtain ⟨k, hk, rfl, hown, hbel⟩ := hrel
      obtain ⟨A4, c4, rfl, hi4, _, hc4⟩ := hown.form
      have hkl := HNL.out k hk
      have HOWN := Lib.hid hown
      have HBEL := Lib.hid hbel
      have HI4 := Lib.hid hi4
      by_cases hlt : k < m
      · have hk1 : k < B.length := by rw [HBM.out]; exact hlt
        obtain ⟨bb, o, rfl, hcA⟩ := HBY.out.keep HBEL.out k hk1
        have hns := HNS.out k hk1
        have hclt := (B[k]).toNat_lt
        generalize B[k] = ch at hcA hns hclt
        obtain ⟨xv, hxv⟩ : ∃ xv : Int, low + (ch.toNat : Int) = xv := ⟨_, rfl⟩
        have hw : IntKind.i64.wrap (low + (ch.toNat : Int)) = xv := by have := HLOW.out; unfold I64 at this; rw [IntKind.wrap_i64]; omega
        rw [hxv] at hns
        have hw2 : wrap64 xv = xv := by have := HLOW.out; unfold I64 at this; unfold wrap64; omega
        have HNSK := Lib.hid hns
        have HK : Hid (k < m) := hlt
        have HKL : Hid ((NL k).length + 1 ≤ 17000000000000) := by show _ ≤ _; omega
        rw [hkl] at HOWN ⊢
        clear hns hown hbel hi4 hc4 hkl
        go_wp2_with (rw [hw2]; refine app_i64 w rfl _ _ rfl _ (NL k) rfl (World.ownsRow.alloc HOWN.out _) (HBEL.out.alloc HBEL.out.size _) (some ⟨wr.heap.size, 0, none⟩) 1 1 [xv] rfl rfl (ints_born wr 2 [xv]) (by simp) HKL.out ?_; intro v6 w6 hown6 hbel6; obtain ⟨A6, c6, rfl, _, _, _⟩ := hown6.form; obtain ⟨n6, hn6⟩ : ∃ n6, (NL k ++ [xv]).length = n6 := ⟨_, rfl⟩; rw [hn6] at hown6 ⊢; clear hn6; have O6 := Lib.hid hown6; have E6 := Lib.hid hbel6; clear hown6 hbel6)
        go_roundw
        case rel => exact ⟨k + 1, HK.out, by go_num, by rw [HNSK.out]; exact O6.out, E6.out⟩
        case measure => simp [intOf]; have := HK.out; omega
      · obtain rfl : k = m := by omega
        have hcb := HBEST.out A4 c4 wr hi4 (by omega) (HT.out.keep hbel)
        have HCB := Lib.hid hcb
        have hc5 : k ≤ c4 := by omega
        have HC5 := Lib.hid hc5
        rw [hkl]
        clear hcb hown hbel hi4 hc4 hkl hc5
        go_wp2_with (first | (go_at_call 12; refine HCB.out.mono ?_; rintro e w2 ⟨rfl, hb2⟩; have HB2 := Lib.hid hb2; clear hb2) | (go_at_call 10; refine (HENC.out A4 c4 w2 (HI4.out.keep HB2.out) HC5.out (HT.out.keep (HBEL.out.trans (HB2.out.mono HBEL.out.size)))).mono ?_; rintro e w3 ⟨v3, rfl, hown, hb3⟩; obtain ⟨A3, c3, rfl, _, _, _, _⟩ := hown.form; have HB3 := Lib.hid hb3; clear hown hb3; have hle : (eb.length : Int) ≤ (k : Int) + 12 := by have := HLN.out; omega))
        go_ret
        exact ⟨rfl, (HBEL.out.trans (HB2.out.mono HBEL.out.size)).trans (HB3.out.mono (by have h1 := HBEL.out.size; have h2 := HB2.out.size; omega))⟩
end Go.Proofs.YtdchaojgldfagaaDoor
