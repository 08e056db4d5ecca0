/- The walk of stackyardlaw08.ChunkWithin. -/
import Derived.Test.YtfgmdaemcaamiaaDoorChV
namespace Go.Proofs.YtfgmdaemcaamiaaDoor
open Go.RowKit
set_option linter.unusedVariables false

/-- Which ends were met so far. -/
def Met (a b : Vl) (L : List Vl) (m : Nat) : Prop := m ≤ 3 ∧ (m % 2 = 1 ↔ a ∈ L) ∧ (m / 2 = 1 ↔ b ∈ L)
theorem or_1 {x : Nat} (hx : x ≤ 3) : bits .or .i64 (x : Int) 1 = ((2 * (x / 2) + 1 : Nat) : Int) := by
  have : x = 0 ∨ x = 1 ∨ x = 2 ∨ x = 3 := by omega
  rcases this with rfl | rfl | rfl | rfl <;> decide +kernel
theorem or_2 {x : Nat} (hx : x ≤ 3) : bits .or .i64 (x : Int) 2 = ((x % 2 + 2 : Nat) : Int) := by
  have : x = 0 ∨ x = 1 ∨ x = 2 ∨ x = 3 := by omega
  rcases this with rfl | rfl | rfl | rfl <;> decide +kernel
theorem met_0 {a b x : Vl} {L : List Vl} {m : Nat} (h : Met a b L m) (ha : x ≠ a) (hb : x ≠ b) : Met a b (L ++ [x]) m := by
  refine ⟨h.1, ?_, ?_⟩
  · rw [h.2.1, List.mem_append, List.mem_singleton]; exact ⟨.inl, fun h => h.elim id fun e => absurd e.symm ha⟩
  · rw [h.2.2, List.mem_append, List.mem_singleton]; exact ⟨.inl, fun h => h.elim id fun e => absurd e.symm hb⟩
theorem met_1 {a b x : Vl} {L : List Vl} {m : Nat} (h : Met a b L m) (ha : x = a) (hb : x ≠ b) : Met a b (L ++ [x]) (2 * (m / 2) + 1) := by
  have hm := h.1
  refine ⟨by omega, ?_, ?_⟩
  · rw [List.mem_append, List.mem_singleton]; exact ⟨fun _ => .inr ha.symm, fun _ => by omega⟩
  · rw [List.mem_append, List.mem_singleton, ← h.2.2.trans ⟨fun z => z, fun z => z⟩]; exact ⟨fun e => .inl (by omega), fun e => e.elim (fun e => by omega) fun e => absurd e.symm hb⟩
theorem met_2 {a b x : Vl} {L : List Vl} {m : Nat} (h : Met a b L m) (ha : x ≠ a) (hb : x = b) : Met a b (L ++ [x]) (m % 2 + 2) := by
  have hm := h.1
  refine ⟨by omega, ?_, ?_⟩
  · rw [List.mem_append, List.mem_singleton, ← h.2.1]; exact ⟨fun e => .inl (by omega), fun e => e.elim (fun e => by omega) fun e => absurd e.symm ha⟩
  · rw [List.mem_append, List.mem_singleton]; exact ⟨fun _ => .inr hb.symm, fun _ => by omega⟩
theorem met_3 {a b x : Vl} {L : List Vl} {m : Nat} (h : Met a b L m) (ha : x = a) (hb : x = b) : Met a b (L ++ [x]) ((2 * (m / 2) + 1) % 2 + 2) := by
  have hm := h.1
  refine ⟨by omega, ?_, ?_⟩
  · rw [List.mem_append, List.mem_singleton]; exact ⟨fun _ => .inr ha.symm, fun _ => by omega⟩
  · rw [List.mem_append, List.mem_singleton]; exact ⟨fun _ => .inr hb.symm, fun _ => by omega⟩
theorem cmp8_ne {x a : Vl} (h : cmp8 x a ≠ 0) : x ≠ a := fun e => h (by rw [e]; exact cmp8_self a)

set_option maxRecDepth 100000 in
set_option maxHeartbeats 20000000 in
theorem chwithin_any (A : Option Addr) (cap : Nat) (l : List Vl) (W : World) (hl : Vls W A l) (hn : l.length ≤ 4000000000000000000) (hT : TabAt W) :
    Calls Tryd.prog 7 #[.slice A l.length cap] W fun e W' => e = .returned (.bool true) ∧ Below W.heap.size W W' := by
  have HSH := Lib.hid (shown8_any W hT)
  have h1 := fun w (h : Below W.heap.size W w) => zone_any A cap l w (hl.keep h) hn
  by_cases hz : zonR l = true
  · rw [zonT_yes hz] at h1
    unfold zonV at h1
    have H1 := Lib.hid h1
    have hle := (zonR_iff.1 hz).1
    have hrt := (zonR_iff.1 hz).2
    have hsp := minZ_spec (othL l) (oth_pos hrt)
    have hmem : ∀ v ∈ othL l, vlR v = true := fun v hv => hrt v (by unfold othL at hv; exact (List.mem_filter.1 hv).1)
    obtain ⟨a, ha⟩ : ∃ a, minZ (othL l) = a := ⟨_, rfl⟩
    obtain ⟨b, hb⟩ : ∃ b, maxZ (othL l) = b := ⟨_, rfl⟩
    rw [ha, hb] at hsp H1
    have hab : othL l ≠ [] → vlR a = true ∧ vlR b = true := fun h => ⟨hmem _ (hsp.2 h).1, hmem _ (hsp.2 h).2.1⟩
    have HRT := Lib.hid hrt
    have HSP := Lib.hid hsp
    have HAB := Lib.hid hab
    have HL := Lib.hid hl
    have HNO := Lib.hid (nulN_oth l)
    obtain ⟨nn, hnn⟩ : ∃ nn : Nat, nulN l = nn := ⟨_, rfl⟩
    have HNN := Lib.hid hnn
    rw [hnn] at H1 HNO
    obtain ⟨n, hn2⟩ : ∃ n, l.length = n := ⟨_, rfl⟩
    have HLN := Lib.hid hn2
    rw [hn2] at H1 HNO hle ⊢
    clear h1 hz hrt hsp hmem ha hb hab hl hnn hn2 hn hT
    go_enter Tryd.func7, Tryd.ntmps7
    go_wp2_with (first | (go_at_call 8; refine HSH.out.mono ?_; rintro e w1 ⟨rfl, hb⟩; have HB := Lib.hid hb; clear hb) | (go_at_call 11; refine (H1.out w1 HB.out).mono ?_; rintro e w2 ⟨rfl, hb2⟩; have HB2 := Lib.hid (below_to HB.out hb2); clear hb2; refine Hid.out ?_))
    refine Lib.hid ?_
    have hbx := Blk.born w2 32 (zonC nn a b)
    have hbd := HB2.out.alloc HB2.out.size (Obj.cells (zonC nn a b).toArray 32)
    obtain ⟨Z0, hZ0⟩ : ∃ Z0, w2.heap.size = Z0 := ⟨_, rfl⟩
    rw [hZ0] at hbx
    have HBX := Lib.hid hbx
    have HBD := Lib.hid hbd
    have HZ0 := Lib.hid hZ0
    clear hbx hbd
    go_wp2_with fail
    go_loopw [6, 7, 8, 9, 10] (fun c e i _ _ wr => ∃ (k m q : Nat), k ≤ n ∧ i = .int .i64 k ∧ c = .int .i64 (q : Int) ∧ q ≤ k ∧ q = nulN (l.take k) ∧ e = .int .i64 (m : Int) ∧ Met a b (othL (l.take k)) m ∧ Blk wr Z0 32 (zonC nn a b) ∧ Below W.heap.size W wr) (fun _ _ i _ _ _ => n - (intOf i).toNat)
    case atStart => exact ⟨0, 0, 0, by omega, rfl, rfl, by omega, rfl, rfl, ⟨by omega, ⟨fun h => by omega, fun h => by simp [othL] at h⟩, ⟨fun h => by omega, fun h => by simp [othL] at h⟩⟩, HBX.out, HBD.out⟩
    case round =>
      obtain ⟨k, m, q, hk, rfl, rfl, hqk, hq, rfl, hmet, hbx, hbel⟩ := hrel
      have Y0 := Lib.hid hbx
      have B0 := Lib.hid hbel
      have HQ := Lib.hid hq
      have HM := Lib.hid hmet
      clear hbx hbel hq hmet
      by_cases hlt : k < n
      · have h1 : k < l.length := by rw [HLN.out]; exact hlt
        obtain ⟨b2, o2, rfl, hvb⟩ := HL.out k h1
        have HVX : Hid (∀ w, Below W.heap.size W w → VlAt w b2 (o2 + k * 3) l[k]) := fun w h => hvb.keep h hvb.lt
        obtain ⟨x0, x1, x2⟩ := HVX.out wr B0.out
        have HK : Hid (k < n) := hlt
        have hnul := nul_snoc l k h1
        have hoth := oth_snoc l k h1
        have hrx := HRT.out l[k] (List.getElem_mem h1)
        have hino : ¬ l[k].kind = 0 → l[k] ∈ othL l := fun h => by unfold othL; rw [List.mem_filter]; exact ⟨List.getElem_mem h1, by simp [h]⟩
        clear hvb
        generalize l[k] = x at x0 x1 x2 hnul hoth hrx hino HVX
        clear h1
        by_cases hx0 : x.kind = 0
        · rw [if_pos hx0] at hnul hoth
          rw [List.append_nil] at hoth
          have HQ2 : Hid (q + 1 = nulN (l.take (k + 1))) := by show _ = _; rw [hnul, ← HQ.out]
          have HM2 : Hid (Met a b (othL (l.take (k + 1))) m) := by show Met _ _ _ _; rw [hoth]; exact HM.out
          rw [hx0] at x0
          clear hnul hoth hrx hino hx0
          go_wp2
          go_roundw
          case rel => exact ⟨k + 1, m, q + 1, HK.out, by go_num, by go_num, by omega, HQ2.out, rfl, HM2.out, Y0.out, B0.out⟩
          case measure => have := HK.out; simp [intOf]; omega
        · rw [if_neg hx0] at hnul hoth
          rw [Nat.add_zero] at hnul
          have HQ2 : Hid (q = nulN (l.take (k + 1))) := by show _ = _; rw [hnul]; exact HQ.out
          have hmo := hino hx0
          have hne : othL l ≠ [] := fun e => by rw [e] at hmo; simp at hmo
          have hin := HSP.out.2 hne
          have hra := cmp8_ref hrx (HAB.out hne).1
          have hrb := cmp8_ref hrx (HAB.out hne).2
          have hla := (hin.2.2 x hmo).1
          have hlb := (hin.2.2 x hmo).2
          have hta := cmp8_turn a x
          have hz1 : cmp8 x a = 0 → x = a := cmp8_zero
          have hz2 : cmp8 x b = 0 → x = b := cmp8_zero
          have hy1 : cmp8 x a ≠ 0 → x ≠ a := cmp8_ne
          have hy2 : cmp8 x b ≠ 0 → x ≠ b := cmp8_ne
          have hm3 := HM.out.1
          have hca := fun w => refcompare_any x.kind x.num x.text a.kind a.num a.text w
          have hcb := fun w => refcompare_any x.kind x.num x.text b.kind b.num b.text w
          rw [hra] at hca
          rw [hrb] at hcb
          obtain ⟨ca, hcae⟩ : ∃ c, cmp8 x a = c := ⟨_, rfl⟩
          obtain ⟨cb, hcbe⟩ : ∃ c, cmp8 x b = c := ⟨_, rfl⟩
          rw [hcae] at hca hz1 hy1 hta
          rw [hcbe] at hcb hz2 hy2 hlb
          have hca0 : ¬ ca < 0 := by omega
          have hcb0 : ¬ 0 < cb := by omega
          have HCA := Lib.hid hca
          have HCB := Lib.hid hcb
          have HO := Lib.hid hoth
          have HZ1 := Lib.hid hz1
          have HZ2 := Lib.hid hz2
          have HY1 := Lib.hid hy1
          have HY2 := Lib.hid hy2
          have q1 : (x.kind == 0) = false := by rw [beq_eq_false_iff_ne]; exact hx0
          clear hca hcb hoth hcae hcbe hnul hrx hra hrb hx0 hmo hne hin hla hlb hta hz1 hz2 hy1 hy2 hino
          go_upto_region 12 with (fail)
          have e0 : wr.drew.cell? ⟨Z0, 1, none⟩ = some (.int .i64 a.kind) := (Y0.out.at_ 1).trans rfl
          have e1 : wr.drew.cell? ⟨Z0, 2, none⟩ = some (.int .i64 a.num) := (Y0.out.at_ 2).trans rfl
          have e2 : wr.drew.cell? ⟨Z0, 3, none⟩ = some (.string a.text) := (Y0.out.at_ 3).trans rfl
          have x0' : wr.drew.cell? ⟨b2, o2 + k * 3, none⟩ = some (.int .i64 x.kind) := x0
          have x1' : wr.drew.cell? ⟨b2, o2 + k * 3 + 1, none⟩ = some (.int .i64 x.num) := x1
          have x2' : wr.drew.cell? ⟨b2, o2 + k * 3 + 2, none⟩ = some (.string x.text) := x2
          refine wpB_start 8 (by kernel_rfl) rfl (fun R HRG => ?_)
          refine wpB_take HRG (i := 0) (v := .slice (some ⟨b2, o2, none⟩) n cap) rfl (by decide +kernel) (by decide +kernel) (by decide +kernel) (fun _ _ _ h => h) (by rfl) (fun W9 hW9 => by rfl) ?_
          go_simp
          refine wpB_take HRG (i := 1) (v := .int .i64 (k : Int)) rfl (by decide +kernel) (by decide +kernel) (by decide +kernel) (fun _ _ _ h => h) (by rfl) (fun W9 hW9 => by rfl) ?_
          go_simp
          refine wpB_take HRG (i := 2) (v := .pointer (some ⟨b2, o2 + k * 3, none⟩)) rfl (by decide +kernel) (by decide +kernel) (by decide +kernel) (fun _ _ _ h => h) (by rfl) (fun W9 hW9 => by first | (go_simp; done) | (go_simp; intro hx; exact absurd hx (by omega)) | (go_simp; rw [if_pos ⟨by omega, by omega⟩]; done)) ?_
          go_simp
          refine wpB_take HRG (i := 3) (v := .agg #[.int .i64 x.kind, .int .i64 x.num, .string x.text]) rfl (by decide +kernel) (by decide +kernel) (by decide +kernel) (fun _ _ _ h => h) (by rfl) (fun W9 hW9 => by have q0 := cell_below hW9 x0'; have q1 := cell_below hW9 x1'; have q2 := cell_below hW9 x2'; go_simp) ?_
          go_simp
          refine wpB_take HRG (i := 4) (v := .pointer (some ⟨Z0, 1, none⟩)) rfl (by decide +kernel) (by decide +kernel) (by decide +kernel) (fun _ _ _ h => h) (by rfl) (fun W9 hW9 => by go_simp) ?_
          go_simp
          refine wpB_take HRG (i := 5) (v := .agg #[.int .i64 a.kind, .int .i64 a.num, .string a.text]) rfl (by decide +kernel) (by decide +kernel) (by decide +kernel) (fun _ _ _ h => h) (by rfl) (fun W9 hW9 => by have q0 := cell_below hW9 e0; have q1 := cell_below hW9 e1; have q2 := cell_below hW9 e2; go_simp) ?_
          go_simp
          refine wpB_call HRG (i := 6) rfl (by decide +kernel) (by rfl) (by go_simp; exact ⟨rfl, rfl⟩) ?_
          refine (HCA.out _).mono ?_
          rintro e w3 ⟨rfl, hbw3⟩
          refine ⟨_, rfl, hbw3, ?_⟩
          have Y3 := Lib.hid ((show Blk wr.drew (Z0) _ _ from Y0.out).below hbw3 (show Z0 < wr.drew.heap.size from lt_of_block Y0.out))
          have B3 := Lib.hid (B0.out.drew.trans (hbw3.mono (B0.out.size)))
          clear x0 x1 x2 e0 e1 e2 x0' x1' x2' hbw3
          go_simp
          refine wpB_take HRG (i := 7) (v := .int .i64 ca) rfl (by decide +kernel) (by decide +kernel) (by decide +kernel) (fun _ _ _ h => h) (by rfl) (fun W9 hW9 => by rfl) ?_
          go_simp
          refine wpB_done HRG (by decide +kernel) ?_
          clear HRG
          obtain ⟨x0, x1, x2⟩ := HVX.out w3 B3.out
          go_upto_region 13 with (fail)
          have e0 : w3.drew.cell? ⟨Z0, 4, none⟩ = some (.int .i64 b.kind) := (Y3.out.at_ 4).trans rfl
          have e1 : w3.drew.cell? ⟨Z0, 5, none⟩ = some (.int .i64 b.num) := (Y3.out.at_ 5).trans rfl
          have e2 : w3.drew.cell? ⟨Z0, 6, none⟩ = some (.string b.text) := (Y3.out.at_ 6).trans rfl
          have x0' : w3.drew.cell? ⟨b2, o2 + k * 3, none⟩ = some (.int .i64 x.kind) := x0
          have x1' : w3.drew.cell? ⟨b2, o2 + k * 3 + 1, none⟩ = some (.int .i64 x.num) := x1
          have x2' : w3.drew.cell? ⟨b2, o2 + k * 3 + 2, none⟩ = some (.string x.text) := x2
          refine wpB_start 8 (by kernel_rfl) rfl (fun R HRG => ?_)
          refine wpB_take HRG (i := 0) (v := .slice (some ⟨b2, o2, none⟩) n cap) rfl (by decide +kernel) (by decide +kernel) (by decide +kernel) (fun _ _ _ h => h) (by rfl) (fun W9 hW9 => by rfl) ?_
          go_simp
          refine wpB_take HRG (i := 1) (v := .int .i64 (k : Int)) rfl (by decide +kernel) (by decide +kernel) (by decide +kernel) (fun _ _ _ h => h) (by rfl) (fun W9 hW9 => by rfl) ?_
          go_simp
          refine wpB_take HRG (i := 2) (v := .pointer (some ⟨b2, o2 + k * 3, none⟩)) rfl (by decide +kernel) (by decide +kernel) (by decide +kernel) (fun _ _ _ h => h) (by rfl) (fun W9 hW9 => by first | (go_simp; done) | (go_simp; intro hx; exact absurd hx (by omega)) | (go_simp; rw [if_pos ⟨by omega, by omega⟩]; done)) ?_
          go_simp
          refine wpB_take HRG (i := 3) (v := .agg #[.int .i64 x.kind, .int .i64 x.num, .string x.text]) rfl (by decide +kernel) (by decide +kernel) (by decide +kernel) (fun _ _ _ h => h) (by rfl) (fun W9 hW9 => by have q0 := cell_below hW9 x0'; have q1 := cell_below hW9 x1'; have q2 := cell_below hW9 x2'; go_simp) ?_
          go_simp
          refine wpB_take HRG (i := 4) (v := .pointer (some ⟨Z0, 4, none⟩)) rfl (by decide +kernel) (by decide +kernel) (by decide +kernel) (fun _ _ _ h => h) (by rfl) (fun W9 hW9 => by go_simp) ?_
          go_simp
          refine wpB_take HRG (i := 5) (v := .agg #[.int .i64 b.kind, .int .i64 b.num, .string b.text]) rfl (by decide +kernel) (by decide +kernel) (by decide +kernel) (fun _ _ _ h => h) (by rfl) (fun W9 hW9 => by have q0 := cell_below hW9 e0; have q1 := cell_below hW9 e1; have q2 := cell_below hW9 e2; go_simp) ?_
          go_simp
          refine wpB_call HRG (i := 6) rfl (by decide +kernel) (by rfl) (by go_simp; exact ⟨rfl, rfl⟩) ?_
          refine (HCB.out _).mono ?_
          rintro e w4 ⟨rfl, hbw4⟩
          refine ⟨_, rfl, hbw4, ?_⟩
          have Y4 := Lib.hid ((show Blk w3.drew (Z0) _ _ from Y3.out).below hbw4 (show Z0 < w3.drew.heap.size from lt_of_block Y3.out))
          have B4 := Lib.hid (B3.out.drew.trans (hbw4.mono (B3.out.size)))
          clear x0 x1 x2 e0 e1 e2 x0' x1' x2' hbw4
          go_simp
          refine wpB_take HRG (i := 7) (v := .int .i64 cb) rfl (by decide +kernel) (by decide +kernel) (by decide +kernel) (fun _ _ _ h => h) (by rfl) (fun W9 hW9 => by rfl) ?_
          go_simp
          refine wpB_done HRG (by decide +kernel) ?_
          clear HRG
          obtain ⟨x0, x1, x2⟩ := HVX.out w4 B4.out
          by_cases e1 : ca = 0
          · subst e1
            by_cases e2 : cb = 0
            · subst e2
              have HM2 : Hid (Met a b (othL (l.take (k + 1))) ((2 * (m / 2) + 1) % 2 + 2)) := by show Met _ _ _ _; rw [HO.out]; exact met_3 HM.out (HZ1.out rfl) (HZ2.out rfl)
              clear HZ1 HZ2 HY1 HY2
              go_wp2
              go_roundw
              case rel => exact ⟨k + 1, (2 * (m / 2) + 1) % 2 + 2, q, HK.out, by go_num, rfl, by omega, HQ2.out, by first | rfl | (rw [or_1 hm3, or_2 (by omega)]; done) | (rw [or_1 hm3]; done) | (rw [or_2 hm3]; done), HM2.out, Y4.out, B4.out⟩
              case measure => have := HK.out; simp [intOf]; omega
            · have HM2 : Hid (Met a b (othL (l.take (k + 1))) (2 * (m / 2) + 1)) := by show Met _ _ _ _; rw [HO.out]; exact met_1 HM.out (HZ1.out rfl) (HY2.out e2)
              clear HZ1 HZ2 HY1 HY2
              have q2 : (cb == 0) = false := by rw [beq_eq_false_iff_ne]; exact e2
              go_wp2
              go_roundw
              case rel => exact ⟨k + 1, 2 * (m / 2) + 1, q, HK.out, by go_num, rfl, by omega, HQ2.out, by first | rfl | (rw [or_1 hm3, or_2 (by omega)]; done) | (rw [or_1 hm3]; done) | (rw [or_2 hm3]; done), HM2.out, Y4.out, B4.out⟩
              case measure => have := HK.out; simp [intOf]; omega
          · have q3 : (ca == 0) = false := by rw [beq_eq_false_iff_ne]; exact e1
            by_cases e2 : cb = 0
            · subst e2
              have HM2 : Hid (Met a b (othL (l.take (k + 1))) (m % 2 + 2)) := by show Met _ _ _ _; rw [HO.out]; exact met_2 HM.out (HY1.out e1) (HZ2.out rfl)
              clear HZ1 HZ2 HY1 HY2
              go_wp2
              go_roundw
              case rel => exact ⟨k + 1, m % 2 + 2, q, HK.out, by go_num, rfl, by omega, HQ2.out, by first | rfl | (rw [or_1 hm3, or_2 (by omega)]; done) | (rw [or_1 hm3]; done) | (rw [or_2 hm3]; done), HM2.out, Y4.out, B4.out⟩
              case measure => have := HK.out; simp [intOf]; omega
            · have HM2 : Hid (Met a b (othL (l.take (k + 1))) (m)) := by show Met _ _ _ _; rw [HO.out]; exact met_0 HM.out (HY1.out e1) (HY2.out e2)
              clear HZ1 HZ2 HY1 HY2
              have q2 : (cb == 0) = false := by rw [beq_eq_false_iff_ne]; exact e2
              go_wp2
              go_roundw
              case rel => exact ⟨k + 1, m, q, HK.out, by go_num, rfl, by omega, HQ2.out, by first | rfl | (rw [or_1 hm3, or_2 (by omega)]; done) | (rw [or_1 hm3]; done) | (rw [or_2 hm3]; done), HM2.out, Y4.out, B4.out⟩
              case measure => have := HK.out; simp [intOf]; omega
      · obtain rfl : k = n := by omega
        have htk : l.take k = l := List.take_of_length_le (by rw [HLN.out]; omega)
        have hq := HQ.out
        have hmet := HM.out
        rw [htk, HNN.out] at hq
        rw [htk] at hmet
        have hm3 := hmet.1
        subst hq
        have z0 := (Y0.out.at_ 0).trans (rfl : _ = some (Value.int .i64 (q : Int)))
        have z1 := (Y0.out.at_ 1).trans (rfl : _ = some (Value.int .i64 a.kind))
        have z2 := (Y0.out.at_ 2).trans (rfl : _ = some (Value.int .i64 a.num))
        have z3 := (Y0.out.at_ 3).trans (rfl : _ = some (Value.string a.text))
        have z4 := (Y0.out.at_ 4).trans (rfl : _ = some (Value.int .i64 b.kind))
        have z5 := (Y0.out.at_ 5).trans (rfl : _ = some (Value.int .i64 b.num))
        have z6 := (Y0.out.at_ 6).trans (rfl : _ = some (Value.string b.text))
        by_cases hqn : q = k
        · have ho : othL l = [] := List.length_eq_zero_iff.1 (by have := HNO.out; omega)
          obtain ⟨ea, eb⟩ := HSP.out.1 ho
          subst ea eb hqn
          replace z1 : wr.cell? ⟨Z0, 1, none⟩ = some (.int .i64 0) := z1
          replace z2 : wr.cell? ⟨Z0, 2, none⟩ = some (.int .i64 0) := z2
          replace z3 : wr.cell? ⟨Z0, 3, none⟩ = some (.string ⟨#[]⟩) := z3
          replace z4 : wr.cell? ⟨Z0, 4, none⟩ = some (.int .i64 0) := z4
          replace z5 : wr.cell? ⟨Z0, 5, none⟩ = some (.int .i64 0) := z5
          replace z6 : wr.cell? ⟨Z0, 6, none⟩ = some (.string ⟨#[]⟩) := z6
          have hl0 : ¬ ((q : Int) < (q : Int)) := by omega
          clear hmet htk
          go_wp2
          go_ret
          exact ⟨rfl, B0.out⟩
        · have ho : othL l ≠ [] := fun e => by have := HNO.out; rw [e] at this; simp at this; omega
          have hin := HSP.out.2 ho
          have h1 := hmet.2.1.2 hin.1
          have h2 := hmet.2.2.2 hin.2.1
          obtain rfl : m = 3 := by omega
          have hl0 : (q : Int) < (k : Int) := by omega
          have hqq : ((q : Int) == (k : Int)) = false := by rw [beq_eq_false_iff_ne]; omega
          clear hmet htk hin h1 h2 ho hqn
          go_wp2
          go_ret
          exact ⟨rfl, B0.out⟩
  · rw [Bool.not_eq_true] at hz
    rw [zonT_no hz] at h1
    unfold zonV at h1
    have H1 := Lib.hid h1
    clear h1 hl hT hz
    generalize l.length = n at *
    go_enter Tryd.func7, Tryd.ntmps7
    go_wp2_with (first | (go_at_call 8; refine HSH.out.mono ?_; rintro e w1 ⟨rfl, hb⟩; have HB := Lib.hid hb; clear hb) | (go_at_call 11; refine (H1.out w1 HB.out).mono ?_; rintro e w2 ⟨rfl, hb2⟩; have HB2 := Lib.hid (below_to HB.out hb2); clear hb2))
    go_ret
    exact ⟨rfl, HB2.out.alloc HB2.out.size _⟩
end Go.Proofs.YtfgmdaemcaamiaaDoor
