/- Joined texts: The walk of SchemaTexts. The walk of SchemaBack. -/
import Derived.Test.YtabnjiepmhblaaaDoorJ36
import Derived.Test.YtabnjiepmhblaaaDoorJ10
import Derived.Test.YtabnjiepmhblaaaDoorJ33
import Derived.Test.YtabnjiepmhblaaaDoorJ35
/-! The walk of SchemaTexts. -/
namespace Go.Proofs.YtabnjiepmhblaaaDoor
open Go.RowKit Go.Shelf Go.Maps
set_option linter.unusedVariables false

theorem on_ {W w1 : World} {P : Ending → Prop} {e : Ending} {w' : World} (h : Below W.heap.size W w1) (k : P e ∧ Below w1.heap.size w1 w') : P e ∧ Below W.heap.size W w' := ⟨k.1, h.trans (k.2.mono h.size)⟩
theorem ParsedS.up {W w1 W' : World} {l : List UInt8} {e : Ending} (h : Below W.heap.size W w1) (k : ParsedS w1 l e W') : ParsedS W l e W' := by
  unfold ParsedS at *
  cases hp : parseL l with
  | none =>
    rw [hp] at k
    exact ⟨k.1, h.trans (k.2.mono h.size)⟩
  | some r =>
    rw [hp] at k
    obtain ⟨A, cap, e1, e2, e3, e4⟩ := k
    exact ⟨A, cap, e1, e2, e3, h.trans (e4.mono h.size)⟩

set_option maxHeartbeats 4000000 in
theorem lawtexts_any (A : Option Addr) (cap : Nat) (l : List Col) (s : ByteArray) (W : World) (hl : Cols W A l) (hn : l.length ≤ 140737488351232) (hs : s.size ≤ 3000000000) (hm : ∃ m0 : Int, W.cell? ⟨0, 0, none⟩ = some (.int .i64 m0)) :
    Calls Tryd.prog 3 #[.slice A l.length cap, .string s] W fun e W' => e = .returned (.bool true) ∧ Below W.heap.size W W' := by
  obtain ⟨m0, hm⟩ := hm
  have hb0 : 0 < W.heap.size := World.block_lt_of_cell? W _ hm
  have H0 := Lib.hid (shown5_any W)
  obtain ⟨sb, ev, h1, h2⟩ : ∃ (sb : ByteArray) (ev : Int), (∀ w1, Below W.heap.size W w1 → Calls Tryd.prog 6 #[.slice A l.length cap] w1 fun e w' => e = .returned (.tuple #[.string sb, .int .i64 ev]) ∧ Below W.heap.size W w') ∧
      (∀ w1, Below W.heap.size W w1 → Calls Tryd.prog 7 #[.slice A l.length cap] w1 fun e w' => e = .returned (.tuple #[.string sb, .int .i64 ev]) ∧ Below W.heap.size W w') := by
    cases hr : rightC l with
    | true => exact ⟨⟨(showL l).toArray⟩, 0, fun w1 h => (show_ok A cap l w1 (hl.keep h) hr).mono fun e w' => on_ (P := fun e => e = _) h, fun w1 h => (refshow_ok A cap l w1 (hl.keep h) hr).mono fun e w' => on_ (P := fun e => e = _) h⟩
    | false => exact ⟨⟨#[]⟩, 50, fun w1 h => (show_no A cap l w1 (hl.keep h) (by omega) hr).mono fun e w' => on_ (P := fun e => e = _) h, fun w1 h => (refshow_no A cap l w1 (hl.keep h) (by omega) hr).mono fun e w' ⟨he, hw⟩ => ⟨he, hw ▸ h⟩⟩
  have H1 := Lib.hid h1
  have H2 := Lib.hid h2
  have h3 := fun w1 (h : Below W.heap.size W w1) => (parse_any s m0 w1 (by omega) ((h.cell (p := ⟨0, 0, none⟩) hb0).trans hm)).mono fun e w' => ParsedS.up h
  have h4 := fun w1 (h : Below W.heap.size W w1) => refparse_any s w1 hs
  unfold ParsedS at h3 h4
  generalize l.length = n at *
  cases hp : parseL s.data.toList with
  | none =>
    simp only [hp] at h3 h4
    have H3 := Lib.hid h3
    have H4 := Lib.hid h4
    have h5 : ∀ w, Calls Tryd.prog 10 #[.slice none 0 0, .slice none 0 0] w fun e w' => e = .returned (.bool true) ∧ Below w.heap.size w w' := fun w => same_any none none 0 0 [] [] w (fun k h => absurd h (by simp)) (fun k h => absurd h (by simp)) (by simp) (by simp)
    have H5 := Lib.hid h5
    clear h5
    clear h1 h2 h3 h4 hl hm hp hs
    go_enter Tryd.func3, Tryd.ntmps3
    go_wp2_with (first | (go_at_call 5; refine H0.out.mono ?_; rintro e w1 ⟨rfl, hb⟩; have B1 := Lib.hid hb; clear hb H0) | (go_at_call 6; refine (H1.out _ B1.out).mono ?_; rintro e w2 ⟨rfl, hb⟩; have B2 := Lib.hid hb; clear hb H1) | (go_at_call 7; refine (H2.out _ B2.out).mono ?_; rintro e w3 ⟨rfl, hb⟩; have B3 := Lib.hid hb; clear hb H2) | (go_at_call 8; refine (H3.out _ B3.out).mono ?_; rintro e w4 ⟨rfl, hb⟩; have B4 := Lib.hid hb; clear hb H3) | (go_at_call 9; refine (H4.out _ B4.out).mono ?_; rintro e w5 ⟨rfl, hb⟩; have B5 := Lib.hid (B4.out.trans (hb.mono B4.out.size)); clear hb H4) | (go_at_call 10; refine (H5.out _).mono ?_; rintro e w6 ⟨rfl, hb⟩; have B6 := Lib.hid (B5.out.trans (hb.mono B5.out.size)); clear hb H5))
    go_ret
    exact ⟨rfl, B6.out⟩
  | some r =>
    simp only [hp] at h3 h4
    have hrl := rightC_lens (parseL_show (by rw [sz_list]; omega) hp).1
    have H3 := Lib.hid h3
    have H4 := Lib.hid h4
    have h5 : ∀ A B c1 c2 w, Cols w A r → Cols w B r → Calls Tryd.prog 10 #[.slice A r.length c1, .slice B r.length c2] w fun e w' => e = .returned (.bool true) ∧ Below w.heap.size w w' := fun A B c1 c2 w h1 h2 => by
      have := same_any A B c1 c2 r r w h1 h2 (by omega) (by omega)
      rwa [show decide (r = r) = true by simp] at this
    have H5 := Lib.hid h5
    clear h5
    clear h1 h2 h3 h4 hl hm hp hs hrl
    go_enter Tryd.func3, Tryd.ntmps3
    go_wp2_with (first | (go_at_call 5; refine H0.out.mono ?_; rintro e w1 ⟨rfl, hb⟩; have B1 := Lib.hid hb; clear hb H0) | (go_at_call 6; refine (H1.out _ B1.out).mono ?_; rintro e w2 ⟨rfl, hb⟩; have B2 := Lib.hid hb; clear hb H1) | (go_at_call 7; refine (H2.out _ B2.out).mono ?_; rintro e w3 ⟨rfl, hb⟩; have B3 := Lib.hid hb; clear hb H2) | (go_at_call 8; refine (H3.out _ B3.out).mono ?_; rintro e w4 ⟨A4, c4, rfl, hc4, _, hb⟩; have B4 := Lib.hid hb; have C4 := Lib.hid hc4; clear hb hc4 H3) | (go_at_call 9; refine (H4.out _ B4.out).mono ?_; rintro e w5 ⟨A5, c5, rfl, hc5, _, hb⟩; have B5 := Lib.hid (B4.out.trans (hb.mono B4.out.size)); have C5 := Lib.hid hc5; have C4b := Lib.hid (C4.out.keep hb); clear hb hc5 H4) | (go_at_call 10; refine (H5.out _ _ _ _ _ C4b.out C5.out).mono ?_; rintro e w6 ⟨rfl, hb⟩; have B6 := Lib.hid (B5.out.trans (hb.mono B5.out.size)); clear hb H5))
    go_ret
    exact ⟨rfl, B6.out⟩
end Go.Proofs.YtabnjiepmhblaaaDoor

/-! The walk of SchemaBack. -/
namespace Go.Proofs.YtabnjiepmhblaaaDoor
open Go.RowKit Go.Shelf Go.Maps
set_option linter.unusedVariables false

theorem layC_small {l : List Col} (h : rightC l = true) : (layC l).length ≤ 600 := by
  have h1 := rightC_lens h
  have h2 := num_len l.length
  have h3 := flat_take_len h l.length
  rw [List.take_of_length_le (Nat.le_refl _)] at h3
  unfold layC
  rw [List.length_append]
  have : l.length * 36 ≤ 16 * 36 := Nat.mul_le_mul_right _ h1.2
  omega
theorem rowsD_small {l : List Col} {rs : List (List Vl)} (h : rightC l = true) : (rowsD [] l rs).length ≤ 17100000 := by
  have h1 := rightC_lens h
  have h2 := num_len rs.length
  unfold rowsD
  by_cases hc : rightC l = true ∧ rs.length ≤ 1024 ∧ ∀ r ∈ rs, fitsL l r = true
  · rw [if_pos hc, List.nil_append, List.length_append]
    have h3 := rows_len h1.2 rs.length (Nat.le_refl _) (fun j hj _ => hc.2.2 _ (List.getElem_mem hj))
    rw [List.take_of_length_le (Nat.le_refl _)] at h3
    have : rs.length * 16640 ≤ 1024 * 16640 := Nat.mul_le_mul_right _ hc.2.1
    omega
  · rw [if_neg hc]; simp

set_option maxRecDepth 100000 in
set_option maxHeartbeats 16000000 in
theorem lawback_any (A C Z : Option Addr) (cap ccap zcap : Nat) (l : List Col) (rs : List (List Vl)) (beh : List UInt8) (W : World) (hl : Cols W A l) (hn : l.length ≤ 140737488351232) (hr : Rws W C rs) (hm : rs.length ≤ 140737488351232)
    (hz : Byt W Z beh) (hzn : Z = none → zcap = 0) (hzl : beh.length ≤ 140737488351232) (hm0 : ∃ m0 : Int, W.cell? ⟨0, 0, none⟩ = some (.int .i64 m0)) :
    Calls Tryd.prog 4 #[.slice A l.length cap, .slice C rs.length ccap, .slice Z beh.length zcap] W fun e W' => e = .returned (.bool true) ∧ Below W.heap.size W W' := by
  have H0 := Lib.hid (shown5_any W)
  cases hrr : rightC l with
  | false =>
    have H1 := Lib.hid (fun w1 (h : Below W.heap.size W w1) => (lay_no none A 0 0 cap l w1 (hl.keep h) (by omega) hrr).mono fun e w' => on_ (P := fun e => e = _) h)
    have H2 := Lib.hid (fun w1 (h : Below W.heap.size W w1) => (show_no A cap l w1 (hl.keep h) (by omega) hrr).mono fun e w' => on_ (P := fun e => e = _) h)
    have h3 := fun w1 (h : Below W.heap.size W w1) => (right_any A cap l w1 (hl.keep h) (by omega)).mono fun e w' => on_ (P := fun e => e = _) h
    rw [hrr] at h3
    have H3 := Lib.hid h3
    clear h3 hl hr hz hm0 hrr
    generalize l.length = n at *
    generalize rs.length = m at *
    generalize beh.length = z at *
    go_enter Tryd.func4, Tryd.ntmps4
    go_wp2_with (first | (go_at_call 5; refine H0.out.mono ?_; rintro e w1 ⟨rfl, hb⟩; have B1 := Lib.hid hb; clear hb H0) | (go_at_call 11; refine (H1.out _ B1.out).mono ?_; rintro e w2 ⟨rfl, hb⟩; have B2 := Lib.hid hb; clear hb H1) | (go_at_call 6; refine (H2.out _ B2.out).mono ?_; rintro e w3 ⟨rfl, hb⟩; have B3 := Lib.hid hb; clear hb H2) | (go_at_call 12; refine (H3.out _ B3.out).mono ?_; rintro e w4 ⟨rfl, hb⟩; have B4 := Lib.hid hb; clear hb H3))
    go_ret
    exact ⟨rfl, B4.out⟩
  | true =>
  obtain ⟨m0, hm0⟩ := hm0
  have hb0 : 0 < W.heap.size := World.block_lt_of_cell? W _ hm0
  have hls := layC_small hrr
  have hrsm := rowsD_small (rs := rs) hrr
  have hlen := rightC_lens hrr
  have h1 := fun w1 (h : Below W.heap.size W w1) => lay_ok none A 0 cap [] l w1 (Byt.empty _ _) (fun _ => rfl) (by simp) (hl.keep h) hrr
  have h2 := fun w1 (h : Below W.heap.size W w1) => show_ok A cap l w1 (hl.keep h) hrr
  have ht := takeS_lay beh hrr
  rw [List.nil_append] at h1
  generalize layC l = D1 at *
  obtain ⟨L4, hL4⟩ : ∃ L, D1 ++ beh = L := ⟨_, rfl⟩
  have hl4 : L4.length ≤ 140737488352000 := by rw [← hL4, List.length_append]; omega
  rw [hL4] at ht
  have h4 := fun Av c w1 (hb : Byt w1 Av L4) (hn : Av = none → c = 0) (hc : L4.length ≤ c) (hm : c ≤ maxLen) => takes_any Av c 0 L4 w1 hb hn hc hm (by omega)
  unfold TookSc at h4
  rw [ht] at h4
  simp only at h4
  have hps : parseL (showL l) = some l := parseL_back hrr
  obtain ⟨sb, hsb⟩ : ∃ sb : ByteArray, (⟨(showL l).toArray⟩ : ByteArray) = sb := ⟨_, rfl⟩
  have hsbl : sb.data.toList = showL l := by rw [← hsb]
  have hsbs : sb.size < 4294967281 := by
    have := showL_len hrr l.length
    rw [List.take_of_length_le (Nat.le_refl _)] at this
    rw [← sz_list, hsbl]; omega
  rw [hsb] at h2
  have h5 := fun w1 (h : Below W.heap.size W w1) => parse_any sb m0 w1 hsbs ((h.cell (p := ⟨0, 0, none⟩) hb0).trans hm0)
  unfold ParsedS at h5
  rw [hsbl, hps] at h5
  simp only at h5
  have h6 : ∀ X c w1, Below W.heap.size W w1 → Cols w1 X l → Calls Tryd.prog 10 #[.slice X l.length c, .slice A l.length cap] w1 fun e w' => e = .returned (.bool true) ∧ Below w1.heap.size w1 w' := fun X c w1 h hx => by
    have := same_any X A c cap l l w1 hx (hl.keep h) (by omega) (by omega)
    rwa [show decide (l = l) = true by simp] at this
  have h7 := fun w1 (h : Below W.heap.size W w1) => layrows_own none A C 0 cap ccap [] l rs w1 (Byt.empty _ _) (fun _ => rfl) (by simp) (hl.keep h) (by omega) (hr.keep h) (by omega)
  have htr := fun x (h : rowsE l rs = 0) => takeRw_lay (cols := l) (rs := rs) x h
  have hE : rowsE l rs = 0 ∨ rowsE l rs = 51 := by
    unfold rowsE
    rw [if_pos hrr]
    split <;> simp
  generalize rowsD [] l rs = D2 at *
  have H1 := Lib.hid h1
  have H2 := Lib.hid h2
  have H4 := Lib.hid h4
  have H5 := Lib.hid h5
  have H6 := Lib.hid h6
  have H6b := Lib.hid h6
  have HL4 := Lib.hid hL4
  have HZ := Lib.hid hz
  have HLL := Lib.hid hl4
  have HLS := Lib.hid hls
  have HZN := Lib.hid hzn
  obtain ⟨n1, hn1⟩ : ∃ n1, D1.length = n1 := ⟨_, rfl⟩
  have HN1 := Lib.hid hn1
  rw [hn1] at H4
  obtain ⟨nl4, hnl4⟩ : ∃ x, L4.length = x := ⟨_, rfl⟩
  have HNL4 := Lib.hid hnl4
  rw [hnl4] at H4
  obtain ⟨zz, hzz⟩ : ∃ x, beh.length = x := ⟨_, rfl⟩
  have HZL := Lib.hid hzz
  have hz2 : n1 + beh.length ≤ 200000000000000 := by omega
  have HZ2 := Lib.hid hz2
  rw [hzz]
  rcases hE with hE | hE
  · rw [hE] at h7
    unfold LayO at h7
    rw [List.length_nil] at h7
    obtain ⟨L5, hL5⟩ : ∃ L, D2 ++ beh = L := ⟨_, rfl⟩
    have hl5 : L5.length ≤ 140737505451232 := by rw [← hL5, List.length_append]; omega
    have ht2 := htr beh hE
    rw [hL5] at ht2
    have h8 := fun Av c w1 (h : Below W.heap.size W w1) (hb : Byt w1 Av L5) (hn' : Av = none → c = 0) (hc : L5.length ≤ c) (hm : c ≤ maxLen) => takerows_anyW Av A c cap L5 0 l w1 hb hn' hc hm (by omega) (hl.keep h) (by omega)
    unfold TookRw at h8
    rw [ht2] at h8
    simp only at h8
    have h9 : ∀ X c w1, Below W.heap.size W w1 → Rws w1 X rs → Calls Tryd.prog 16 #[.slice X rs.length c, .slice C rs.length ccap] w1 fun e w' => e = .returned (.bool true) ∧ Below w1.heap.size w1 w' := fun X c w1 h hx => by
      have := samerows_any X C c ccap rs rs w1 hx (hr.keep h) (by omega) (by omega)
      rwa [show decide (rs = rs) = true by simp] at this
    obtain ⟨n2, hn2⟩ : ∃ n2, D2.length = n2 := ⟨_, rfl⟩
    have HN2 := Lib.hid hn2
    rw [hn2] at h8
    rw [hn2] at h7
    have H7 := Lib.hid h7
    obtain ⟨nl5, hnl5⟩ : ∃ x, L5.length = x := ⟨_, rfl⟩
    have HNL5 := Lib.hid hnl5
    rw [hnl5] at h8
    have HL5 := Lib.hid hL5
    have hz3 : n2 + beh.length ≤ 200000000000000 := by omega
    have HZ3 := Lib.hid hz3
    have H8 := Lib.hid h8
    have H9 := Lib.hid h9
    clear h1 h2 h4 h5 h6 h7 h8 h9 hl hr hz hm0 hrr ht ht2 hL4 hL5 hl4 hl5 hps hsb hsbl hsbs htr hE hls hrsm hlen hn1 hn2 hnl4 hnl5 hz2 hz3 hzz hzn hzl
    generalize l.length = n at *
    generalize rs.length = m at *
    go_enter Tryd.func4, Tryd.ntmps4
    go_wp2_with (first | (go_at_call 5; refine H0.out.mono ?_; rintro e w1 ⟨rfl, hb⟩; have B1 := Lib.hid hb; clear hb H0) | (go_at_call 11; refine (H1.out _ B1.out).mono ?_; rintro e w2 ⟨v2, rfl, hown, hb⟩; obtain ⟨A2, c2, rfl, _, _, _, _⟩ := hown.form; have O2 := Lib.hid (hown.base B1.out.size); have B2 := Lib.hid (B1.out.trans (hb.mono B1.out.size)); rw [HN1.out] at O2 ⊢; clear hb hown H1) | (go_at_call 6; refine (H2.out _ B2.out).mono ?_; rintro e w3 ⟨rfl, hb⟩; have B3 := Lib.hid (B2.out.trans (hb.mono B2.out.size)); have O3 := Lib.hid (O2.out.below hb); clear hb H2) | (go_at_call 13; refine (H4.out _ _ _ Y4.out N4.out.1 (by rw [← HNL4.out]; exact N4.out.2.1) N4.out.2.2).mono ?_; rintro e w5 ⟨A5, c5, rfl, C5, _, _, hb⟩; have B5 := Lib.hid (B4.out.trans (hb.mono B4.out.size)); have HC5 := Lib.hid C5; clear hb H4 C5) | (go_at_call 8; refine (H5.out _ B5.out).mono ?_; rintro e w6 ⟨A6, c6, rfl, C6, _, hb⟩; have B6 := Lib.hid (B5.out.trans (hb.mono B5.out.size)); have HC6 := Lib.hid C6; have HC56 := Lib.hid (HC5.out.keep hb); clear hb H5 C6) | (go_at_call 10; refine (H6.out _ _ _ B6.out HC56.out).mono ?_; rintro e w7 ⟨rfl, hb⟩; have B7 := Lib.hid (B6.out.trans (hb.mono B6.out.size)); have HC67 := Lib.hid (HC6.out.keep hb); clear hb H6) | (go_at_call 10; refine (H6b.out _ _ _ B7.out HC67.out).mono ?_; rintro e w8 ⟨rfl, hb⟩; have B8 := Lib.hid (B7.out.trans (hb.mono B7.out.size)); clear hb H6b) | (go_at_call 14; refine (H7.out _ B8.out).mono ?_; rintro e w9 ⟨A9, c9, rfl, ho, _, hb⟩; have B9 := Lib.hid (B8.out.trans (hb.mono B8.out.size)); have O9 := Lib.hid ((ho (by simp)).base B8.out.size); clear hb ho H7) | (go_at_call 15; refine (H8.out _ _ _ B10.out Y10.out N10.out.1 (by rw [← HNL5.out]; exact N10.out.2.1) N10.out.2.2).mono ?_; rintro e w11 ⟨A11, c11, rfl, C11, _, _, hb⟩; have B11 := Lib.hid (B10.out.trans (hb.mono B10.out.size)); have HC11 := Lib.hid C11; clear hb H8 C11) | (go_at_call 16; refine (H9.out _ _ _ B11.out HC11.out).mono ?_; rintro e w12 ⟨rfl, hb⟩; have B12 := Lib.hid (B11.out.trans (hb.mono B11.out.size)); clear hb H9) | (refine app_byt W rfl (.tmp 51) (.tmp 52) rfl (.slice A2 n1 c2) D1 rfl O3.out B3.out Z zz zcap beh rfl HZL.out.symm (HZ.out.keep B3.out) HZN.out (by rw [HN1.out]; exact HZ2.out) ?_; intro v4 w4 hown4 hbel4 _; rw [HL4.out] at hown4; obtain ⟨A4, c4, rfl, y4, n4, l4, m4⟩ := hown4.form; have B4 := Lib.hid hbel4; have Y4 := Lib.hid y4; have N4 := Lib.hid (And.intro n4 (And.intro l4 m4)); rw [HNL4.out]; clear hown4 hbel4 y4 n4 l4 m4) | (refine app_byt W rfl (.tmp 101) (.tmp 102) rfl (.slice A9 n2 c9) D2 rfl O9.out B9.out Z zz zcap beh rfl HZL.out.symm (HZ.out.keep B9.out) HZN.out (by rw [HN2.out]; exact HZ3.out) ?_; intro v10 w10 hown10 hbel10 _; rw [HL5.out] at hown10; obtain ⟨A10, c10, rfl, y10, n10, l10, m10⟩ := hown10.form; have B10 := Lib.hid hbel10; have Y10 := Lib.hid y10; have N10 := Lib.hid (And.intro n10 (And.intro l10 m10)); rw [HNL5.out]; clear hown10 hbel10 y10 n10 l10 m10))
    go_ret
    exact ⟨rfl, B12.out⟩
  · rw [hE] at h7
    unfold LayO at h7
    rw [List.length_nil] at h7
    have H7 := Lib.hid h7
    clear h1 h2 h4 h5 h6 h7 hl hr hz hm0 hrr ht hL4 hl4 hps hsb hsbl hsbs htr hE hls hrsm hlen hn1 hnl4 hz2 hzz hzn hzl
    generalize l.length = n at *
    generalize rs.length = m at *
    go_enter Tryd.func4, Tryd.ntmps4
    go_wp2_with (first | (go_at_call 5; refine H0.out.mono ?_; rintro e w1 ⟨rfl, hb⟩; have B1 := Lib.hid hb; clear hb H0) | (go_at_call 11; refine (H1.out _ B1.out).mono ?_; rintro e w2 ⟨v2, rfl, hown, hb⟩; obtain ⟨A2, c2, rfl, _, _, _, _⟩ := hown.form; have O2 := Lib.hid (hown.base B1.out.size); have B2 := Lib.hid (B1.out.trans (hb.mono B1.out.size)); rw [HN1.out] at O2 ⊢; clear hb hown H1) | (go_at_call 6; refine (H2.out _ B2.out).mono ?_; rintro e w3 ⟨rfl, hb⟩; have B3 := Lib.hid (B2.out.trans (hb.mono B2.out.size)); have O3 := Lib.hid (O2.out.below hb); clear hb H2) | (go_at_call 13; refine (H4.out _ _ _ Y4.out N4.out.1 (by rw [← HNL4.out]; exact N4.out.2.1) N4.out.2.2).mono ?_; rintro e w5 ⟨A5, c5, rfl, C5, _, _, hb⟩; have B5 := Lib.hid (B4.out.trans (hb.mono B4.out.size)); have HC5 := Lib.hid C5; clear hb H4 C5) | (go_at_call 8; refine (H5.out _ B5.out).mono ?_; rintro e w6 ⟨A6, c6, rfl, C6, _, hb⟩; have B6 := Lib.hid (B5.out.trans (hb.mono B5.out.size)); have HC6 := Lib.hid C6; have HC56 := Lib.hid (HC5.out.keep hb); clear hb H5 C6) | (go_at_call 10; refine (H6.out _ _ _ B6.out HC56.out).mono ?_; rintro e w7 ⟨rfl, hb⟩; have B7 := Lib.hid (B6.out.trans (hb.mono B6.out.size)); have HC67 := Lib.hid (HC6.out.keep hb); clear hb H6) | (go_at_call 10; refine (H6b.out _ _ _ B7.out HC67.out).mono ?_; rintro e w8 ⟨rfl, hb⟩; have B8 := Lib.hid (B7.out.trans (hb.mono B7.out.size)); clear hb H6b) | (go_at_call 14; refine (H7.out _ B8.out).mono ?_; rintro e w9 ⟨A9, c9, rfl, _, _, hb⟩; have B9 := Lib.hid (B8.out.trans (hb.mono B8.out.size)); clear hb H7) | (refine app_byt W rfl (.tmp 51) (.tmp 52) rfl (.slice A2 n1 c2) D1 rfl O3.out B3.out Z zz zcap beh rfl HZL.out.symm (HZ.out.keep B3.out) HZN.out (by rw [HN1.out]; exact HZ2.out) ?_; intro v4 w4 hown4 hbel4 _; rw [HL4.out] at hown4; obtain ⟨A4, c4, rfl, y4, n4, l4, m4⟩ := hown4.form; have B4 := Lib.hid hbel4; have Y4 := Lib.hid y4; have N4 := Lib.hid (And.intro n4 (And.intro l4 m4)); rw [HNL4.out]; clear hown4 hbel4 y4 n4 l4 m4))
    go_ret
    exact ⟨rfl, B9.out⟩
end Go.Proofs.YtabnjiepmhblaaaDoor
