/- The walk of stackyardlaw02.WireKeeps (9): it answers true. -/
import Derived.Test.YtmjhimbjnmgklaaText
namespace Go.Proofs.Ytmjhimbjnmgklaa
open Go.RowKit
set_option linter.unusedVariables false

/-- The cells of a row: first the bytes l, then 77 up to place k. -/
def Cells77 (l : List UInt8) (k : Nat) (cs : List Value) : Prop := cs.take l.length = u8s l ∧ ∀ j, l.length ≤ j → j < k → cs[j]? = some (.int .u8 77)
theorem Cells77.next {l : List UInt8} {k : Nat} {cs : List Value} (h : Cells77 l k cs) (hl : l.length ≤ k) (hk : k < cs.length) : Cells77 l (k + 1) (cs.set k (.int .u8 77)) := by
  refine ⟨by rw [List.take_set_of_le hl]; exact h.1, fun j h1 h2 => ?_⟩
  by_cases e : j = k
  · subst e; simp [hk]
  · rw [List.getElem?_set_ne (by omega)]; exact h.2 j h1 (by omega)
theorem blk_byt {w : World} {g : Nat} {l : List UInt8} {cs : List Value} (h : Blk w g 5 cs) (ht : cs.take l.length = u8s l) : Byt w (some ⟨g, 0, none⟩) l := by
  intro k hk
  refine ⟨g, 0, rfl, ?_⟩
  rw [Nat.zero_add, h.at_]
  have : (cs.take l.length)[k]? = (u8s l)[k]? := by rw [ht]
  rw [List.getElem?_take, if_pos hk] at this
  rw [this]
  simp [u8s, hk]
theorem num_neg5 : zig (-5) = 9 := by decide

set_option maxHeartbeats 4000000 in
set_option maxRecDepth 100000 in
theorem keeps_any (a : Option Addr) (cap n : Nat) (l : List UInt8) (w : World) (hb : Byt w a l) (hn : a = none → cap = 0) (hc : l.length ≤ cap) (hm : cap ≤ 140737488351232) (hn64 : n < 18446744073709551616) :
    Calls Try.prog 9 #[.slice a l.length cap, .int .u64 n] w fun e w' => e = .returned (.bool true) ∧ Below w.heap.size w w' := by
  have HN := Lib.hid hn64
  clear hn64
  go_enter Try.func9, Try.ntmps9
  go_upto_region 5 with (first | (go_at_call 14; refine (shown_any _).mono ?_; rintro e w1 ⟨rfl, hbel⟩) | (at_make; refine mk_byt w rfl _ _ rfl _ (l.length + 20) rfl rfl (by omega) (by omega) hbel ?_; intro w2 hown2 hbel2) | (at_builtin; refine app_byt w rfl _ _ rfl _ [] rfl hown2 hbel2 a l.length cap l rfl rfl (hb.keep hbel2) hn (by simp; omega) ?_; intro v3 w3 hown3 hbel3 hnn; obtain ⟨g, c, cs, rfl, hgB, hlc, hcm, hblk, hcsl, htake⟩ := Own.blk (l := l) hown3 (hnn.2 (fun e => by have e' : Value.slice (some ⟨w1.heap.size, 0, none⟩) 0 (l.length + 20) = .slice none 0 0 := e; cases e'))))
  have h77 : Cells77 l l.length cs := ⟨htake, fun j h1 h2 => by omega⟩
  have hbl : l.length ≤ c := hlc
  unfold maxLen at hcm
  clear hown2 hbel2 hown3 htake hbel hnn
  go_loopw [8] (fun i wr => ∃ (k : Nat) (cr : List Value), l.length ≤ k ∧ k ≤ c ∧ i = .int .i64 k ∧ Blk wr g 5 cr ∧ cr.length = c ∧ Cells77 l k cr ∧ Below w.heap.size w wr) (fun i _ => c - (intOf i).toNat)
  case atStart => exact ⟨l.length, cs, Nat.le_refl _, hlc, rfl, hblk, hcsl, h77, hbel3⟩
  case round =>
    obtain ⟨k, cr, hkl, hkc, rfl, hblk, hcrl, h77, hbel⟩ := hrel
    by_cases hlt : k < c
    · obtain ⟨u, hu⟩ : ∃ u, cr[k]? = some u := ⟨cr[k]'(by omega), List.getElem?_eq_getElem (by omega)⟩
      have hcell := hblk.at_ k
      rw [hu] at hcell
      have hfree := hblk.free k
      have hst := hblk.store k (.int .u8 77)
      have hnx := h77.next hkl (by omega)
      have hbel2 := hbel.setCell (p := ⟨g, k, none⟩) hgB (.int .u8 77)
      clear hu h77
      go_wp2
      go_roundw
      case rel => exact ⟨k + 1, cr.set k (.int .u8 77), by omega, by omega, by go_num, hst, by rw [List.length_set]; exact hcrl, hnx, hbel2⟩
      case measure => simp [intOf]; omega
    · obtain rfl : k = c := by omega
      obtain ⟨wA, rfl⟩ : ∃ x, x = wr := ⟨_, rfl⟩
      have hy := blk_byt hblk h77.1
      have C1 := Lib.hid (number_any (some ⟨g, 0, none⟩) k n l wA hy (by simp) (by omega) HN.out)
      have C2 := Lib.hid (fun w1 (h : Below wA.heap.size wA w1) => signed_any (some ⟨g, 0, none⟩) k (-5) l w1 (hy.keep h) (by simp) (by omega) (by omega) (by omega))
      have C3 := Lib.hid (fun w1 (h : Below wA.heap.size wA w1) => text_any (some ⟨g, 0, none⟩) k ⟨#[97, 98]⟩ l w1 (by decide) (hy.keep h) (by simp) (by omega))
      have hglt := lt_of_block hblk
      have H77 := Lib.hid h77
      clear h77 hy
      go_upto_region 11 with (first | (go_at_call 19; refine C1.out.mono ?_; rintro e w4 ⟨v4, rfl, hown4, hbel4⟩) | (go_at_call 21; refine (C2.out _ hbel4).mono ?_; rintro e w5 ⟨v5, rfl, _, hbel5⟩; have hbel45 := hbel4.trans (hbel5.mono hbel4.size)) | (go_at_call 23; refine (C3.out _ hbel45).mono ?_; rintro e w6 ⟨v6, rfl, _, hbel6⟩; have hbel46 := hbel45.trans (hbel6.mono hbel45.size); have hown6 := (hown4.below hbel5).below hbel6; have hblk6 := hblk.below hbel46 hglt; have hbelw := hbel.trans (hbel46.mono hbel.size)))
      have hD := num_pos l n
      have hD2 := num_ten l n
      clear C1 C2 C3 hown4 hbel4 hbel5 hbel6 hbel45 hbel46 hbel hblk
      generalize l ++ num n = D at hown6 hD hD2
      obtain ⟨g4, c4, rfl, hg4, hDc, hc4, _, _, _⟩ := Own.at_ hown6 hD
      unfold maxLen at hc4
      have hbel0 := Below.refl wA.heap.size w6
      go_wp2_with fail
      go_loopw [10] (fun i w7 => ∃ (j : Nat) (d : List UInt8), j ≤ D.length ∧ i = .int .i64 j ∧ d.length = D.length ∧ Own w7 wA.heap.size (.slice (some ⟨g4, 0, none⟩) D.length c4) d ∧ Below wA.heap.size w6 w7) (fun i _ => D.length - (intOf i).toNat)
      case atStart => exact ⟨0, D, Nat.zero_le _, rfl, rfl, hown6, hbel0⟩
      case round =>
        obtain ⟨j, d, hj, rfl, hdl, hown7, hbel7⟩ := hrel
        by_cases hlt2 : j < D.length
        · obtain ⟨g5, c5, e5, _, _, _, hcell5, hfree5, hst5⟩ := Own.at_ (i := j) hown7 (by omega)
          generalize d[j]'(by omega) = y5 at hcell5
          simp only [Value.slice.injEq, Option.some.injEq, Addr.mk.injEq, and_true] at e5
          obtain ⟨rfl, _, rfl⟩ := e5
          have hnx : Own (wr.setCell ⟨g4, j, none⟩ (.int .u8 1)) wA.heap.size (.slice (some ⟨g4, 0, none⟩) D.length c4) (d.set j 1) := hst5 1
          have hbel8 := hbel7.setCell (p := ⟨g4, j, none⟩) hg4 (.int .u8 1)
          have HDL : Hid (d.length = D.length) := hdl
          clear hdl
          clear hst5 hown7 hbel7
          go_wp2
          go_roundw
          case rel => exact ⟨j + 1, d.set j 1, by omega, by go_num, by rw [List.length_set]; exact HDL.out, hnx, hbel8⟩
          case measure => simp [intOf]; omega
        · obtain rfl : j = D.length := by omega
          have hblk7 := hblk6.below hbel7 hglt
          have hbel8 := hbelw.trans (hbel7.mono (by have := hbelw.size; omega))
          clear hown7 hbel7 hown6 hbel0 hdl
          obtain ⟨wB, rfl⟩ : ∃ x, x = wr := ⟨_, rfl⟩
          have hy1 := blk_byt hblk7 H77.out.1
          have hy2 := hb.keep hbel8
          have q1 : ∀ m, (convert 22 9 (.slice (some ⟨g, 0, none⟩) l.length k)).run Try.prog (wB.drewN m) = .ok (.string (str l)) (wB.drewN m) := fun m => conv (w := wB.drewN m) hy1 k
          have q2 : ∀ m, (convert 22 9 (.slice a l.length cap)).run Try.prog (wB.drewN m) = .ok (.string (str l)) (wB.drewN m) := fun m => conv (w := wB.drewN m) hy2 cap
          have H7 : Hid (∀ j, l.length ≤ j → j < k → wB.cell? ⟨g, j, none⟩ = some (.int .u8 77)) := fun j h1 h2 => by rw [hblk7.at_]; exact H77.out.2 j h1 h2
          clear hy1 hy2 hb hn hblk6 hblk7 hbelw hlt2 hcrl
          have HQ1 := Lib.hid q1
          have HQ2 := Lib.hid q2
          clear q1 q2
          go_wp2_with fail
          go_loop [11] (fun i => ∃ j : Nat, l.length ≤ j ∧ j ≤ k ∧ i = .int .i64 j) (fun i => k - (intOf i).toNat)
          case atStart => exact ⟨l.length, Nat.le_refl _, hbl, rfl⟩
          case round =>
            obtain ⟨j, hj1, hj2, rfl⟩ := hrel
            by_cases hlt3 : j < k
            · have hcell := H7.out j hj1 hlt3
              go_wp2
              go_round
              case rel => exact ⟨j + 1, by omega, by omega, by go_num⟩
              case measure => simp [intOf]; omega
            · obtain rfl : j = k := by omega
              have q1 := HQ1.out
              have q2 := HQ2.out
              have hlo : (l.length : Int) ≤ (j : Int) := by omega
              go_wp2_with fail
              go_quiet (fail)
              go_wp2
              go_ret
              exact ⟨rfl, Below.drewN' hbel8 _⟩
end Go.Proofs.Ytmjhimbjnmgklaa
