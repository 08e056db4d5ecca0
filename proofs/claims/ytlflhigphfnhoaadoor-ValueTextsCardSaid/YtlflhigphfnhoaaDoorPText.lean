/- The walk of value.parseText (39). -/
import Derived.Test.YtlflhigphfnhoaaDoorUnq
import Derived.Test.YtlflhigphfnhoaaDoorValB
import Derived.Deep.LoopGhost
import Derived.Outline
namespace Go.Proofs.YtlflhigphfnhoaaDoor
open Go.RowKit
set_option linter.unusedVariables false

theorem drop_get (s : ByteArray) (k : Nat) (h : k < s.size) : s.data.toList.drop k = s[k] :: s.data.toList.drop (k + 1) := by
  rw [List.drop_eq_getElem_cons (by simpa using h)]; rfl
/-- How far the loop has come. -/
def At (s : ByteArray) (k : Nat) (d : List UInt8) : Prop := 1 ≤ k ∧ k ≤ s.size ∧ d.length ≤ k ∧ unq (s.data.toList.drop 1) = (d ++ (unq (s.data.toList.drop k)).1, (unq (s.data.toList.drop k)).2)
theorem At.start (s : ByteArray) (h : 1 ≤ s.size) : At s 1 [] := ⟨Nat.le_refl _, h, by simp, by simp⟩
theorem At.byte {s : ByteArray} {k : Nat} {d : List UInt8} (h : At s k d) (hk : k < s.size) (hc : s[k] ≠ 39) : At s (k + 1) (d ++ [s[k]]) := by
  obtain ⟨h1, h2, h3, h4⟩ := h
  refine ⟨by omega, by omega, by simp; omega, ?_⟩
  rw [h4, drop_get s k hk, unq_byte hc]
  simp
theorem At.two {s : ByteArray} {k : Nat} {d : List UInt8} (h : At s k d) (hk : k + 1 < s.size) (hc : s[k] = 39) (hd : s[k + 1] = 39) : At s (k + 2) (d ++ [39]) := by
  obtain ⟨h1, h2, h3, h4⟩ := h
  refine ⟨by omega, by omega, by simp; omega, ?_⟩
  rw [h4, drop_get s k (by omega), drop_get s (k + 1) hk, hc, hd, unq_two]
  simp
theorem At.stop {s : ByteArray} {k : Nat} {d : List UInt8} (h : At s k d) (hk : k < s.size) (hc : s[k] = 39) (hd : ∀ h : k + 1 < s.size, s[k + 1] ≠ 39) : unq (s.data.toList.drop 1) = (d, s.data.toList.drop k) := by
  rw [h.2.2.2, drop_get s k hk, hc]
  have : (s.data.toList.drop (k + 1)).head? ≠ some 39 := by
    by_cases h1 : k + 1 < s.size
    · rw [drop_get s (k + 1) h1]
      simpa using hd h1
    · rw [List.drop_eq_nil_of_le (by simp; omega)]; simp
  rw [unq_stop this]
  simp
theorem At.done {s : ByteArray} {k : Nat} {d : List UInt8} (h : At s k d) (hk : ¬ k < s.size) : unq (s.data.toList.drop 1) = (d, s.data.toList.drop k) := by
  rw [h.2.2.2, List.drop_eq_nil_of_le (by simp; omega)]
  simp [unq]

/-- The text that a text between quotes says. -/
def ptO (s : ByteArray) : Option ByteArray := if (unq (s.data.toList.drop 1)).2.length = 1 ∧ (unq (s.data.toList.drop 1)).1.length ≤ 1024 then some (str (unq (s.data.toList.drop 1)).1) else none
def ptR (s : ByteArray) : Value := match ptO s with | some t => .tuple #[.agg #[.int .i64 3, .int .i64 0, .string t], .int .i64 0] | none => .tuple #[.agg #[.int .i64 0, .int .i64 0, .string ⟨#[]⟩], .int .i64 40]
theorem ptR_none {s : ByteArray} (h : ptO s = none) : ptR s = .tuple #[.agg #[.int .i64 0, .int .i64 0, .string ⟨#[]⟩], .int .i64 40] := by unfold ptR; rw [h]
theorem ptR_some {s t : ByteArray} (h : ptO s = some t) : ptR s = .tuple #[.agg #[.int .i64 3, .int .i64 0, .string t], .int .i64 0] := by unfold ptR; rw [h]

set_option maxHeartbeats 4000000 in
set_option maxRecDepth 100000 in
theorem ptext_any (s : ByteArray) (w : World) (h1 : 1 ≤ s.size) (hs : s.size ≤ 140737488351232) :
    Calls Tryd.prog 39 #[.string s] w fun e w' => e = .returned (ptR s) ∧ Below w.heap.size w w' := by
  have hB0 : IsB ((w.alloc (Obj.cells #[Value.int IntKind.i64 0, Value.int IntKind.i64 0, Value.string { data := #[] }] 23)).alloc (.cells #[.pointer none, .slice none 0 0] 73)) (w.alloc (Obj.cells #[Value.int IntKind.i64 0, Value.int IntKind.i64 0, Value.string { data := #[] }] 23)).heap.size (w.alloc (Obj.cells #[Value.int IntKind.i64 0, Value.int IntKind.i64 0, Value.string { data := #[] }] 23)).heap.size [] := Lib.fresh_isBuilder 73 5 (w.alloc (Obj.cells #[Value.int IntKind.i64 0, Value.int IntKind.i64 0, Value.string { data := #[] }] 23))
  have hsz : (w.alloc (Obj.cells #[Value.int IntKind.i64 0, Value.int IntKind.i64 0, Value.string { data := #[] }] 23)).heap.size = w.heap.size + 1 := by simp
  rw [hsz] at hB0
  have hb0 : Below (w.heap.size + 1) (w.alloc (Obj.cells #[Value.int IntKind.i64 0, Value.int IntKind.i64 0, Value.string { data := #[] }] 23)) ((w.alloc (Obj.cells #[Value.int IntKind.i64 0, Value.int IntKind.i64 0, Value.string { data := #[] }] 23)).alloc (.cells #[.pointer none, .slice none 0 0] 73)) := (Below.refl _ _).alloc (by omega) _
  have HB0 := Lib.hid (And.intro hB0 hb0)
  have HS := Lib.hid (At.start s h1)
  clear hB0 hb0 hsz
  go_enter Tryd.func39, Tryd.ntmps39
  go_wp2_with fail
  go_step3
  go_wp2_with fail
  go_step3
  go_wp2_with fail
  go_loopg [5] (s.size - 1) (fun g i wr => ∃ (k : Nat) (d : List UInt8), g = s.size - k ∧ i = .int .i64 k ∧ At s k d ∧ IsB wr (w.heap.size + 1) (w.heap.size + 1) d ∧ Below (w.heap.size + 1) (w.alloc (Obj.cells #[Value.int IntKind.i64 0, Value.int IntKind.i64 0, Value.string { data := #[] }] 23)) wr)
  case atStart => exact ⟨1, [], rfl, rfl, HS.out, HB0.out.1, HB0.out.2⟩
  case round =>
    obtain ⟨k, d, rfl, rfl, hAt, hI, hbr⟩ := hrel
    have hk1 := hAt.1
    have hk2 := hAt.2.1
    have hk3 := hAt.2.2.1
    have HA := Lib.hid hAt
    have HBR := Lib.hid hbr
    have hbz : w.heap.size + 1 ≤ wr.heap.size := by have := hbr.size; simp at this; omega
    clear hAt hbr
    by_cases hlt : k < s.size
    · by_cases hq : s[k] = 39
      · by_cases hd : ∃ h : k + 1 < s.size, s[k + 1] = 39
        · obtain ⟨hlt2, hd⟩ := hd
          have HN := Lib.hid (HA.out.two hlt2 hq hd)
          have t1 : ((s[k].toNat : Int) != 39) = false := by rw [hq]; rfl
          have t2 : ((s[k + 1].toNat : Int) == 39) = true := by rw [hd]; rfl
          have t3 : (k : Int) + 1 < (s.size : Int) := by omega
          have hw1 := writebyte_any (w.heap.size + 1) (w.heap.size + 1) d 39 wr hI (by omega) hbz
          clear hq hd
          go_wp2_with (go_at_call 51; refine hw1.mono ?_; rintro e w2 ⟨rfl, hI2, hb2⟩)
          go_roundg (s.size - (k + 2))
          case measure => omega
          case rel => exact ⟨k + 2, d ++ [39], rfl, by go_num, HN.out, hI2, HBR.out.trans hb2⟩
        · have HD := Lib.hid (HA.out.stop hlt hq (fun h e => hd ⟨h, e⟩))
          have t1 : ((s[k].toNat : Int) != 39) = false := by rw [hq]; rfl
          by_cases hl2 : k + 1 < s.size
          · have t2 : ((s[k + 1].toNat : Int) == 39) = false := by
              rw [beq_eq_false_iff_ne]
              intro e
              exact hd ⟨hl2, UInt8.toNat_inj.1 (by have : (39 : UInt8).toNat = 39 := rfl; omega)⟩
            have t3 : (k : Int) + 1 < (s.size : Int) := by omega
            have hke : ¬ k + 1 = s.size := by omega
            clear hd hq
            have hst := Tryd.Builder_String_any (w.heap.size + 1) (w.heap.size + 1) d wr hI hbz
            have hsz3 : ((s.data.toList.drop k).length : Int) = (s.size : Int) - k := by simp; omega
            have pz : Blk wr w.heap.size 23 [.int .i64 0, .int .i64 0, .string ⟨#[]⟩] := (Blk.born w 23 [.int .i64 0, .int .i64 0, .string ⟨#[]⟩]).below HBR.out (by omega)
            have hb0w : Below w.heap.size w (w.alloc (Obj.cells #[Value.int IntKind.i64 0, Value.int IntKind.i64 0, Value.string { data := #[] }] 23)) := (Below.refl _ _).alloc (Nat.le_refl _) _
            have t9 : ((k : Int) != (s.size : Int) - 1) = true := by rw [bne_iff_ne]; omega
            have Hno : Hid (ptR s = .tuple #[.agg #[.int .i64 0, .int .i64 0, .string ⟨#[]⟩], .int .i64 40]) := by
              refine ptR_none ?_
              unfold ptO
              rw [HD.out]
              exact if_neg (fun h => by have h1 : (s.data.toList.drop k).length = 1 := h.1; omega)
            clear hke
            go_wp2_with (go_at_call 52; refine hst.mono ?_; rintro e w3 ⟨rfl, hb3⟩; have pz3 := pz.below hb3 (by omega); have pf0 := (pz3.later (Obj.cells #[Value.int IntKind.i64 3, Value.int IntKind.i64 0, Value.string { data := d.toArray }] 23)).free 0; have pf1 := (pz3.later (Obj.cells #[Value.int IntKind.i64 3, Value.int IntKind.i64 0, Value.string { data := d.toArray }] 23)).free 1; have pf2 := (pz3.later (Obj.cells #[Value.int IntKind.i64 3, Value.int IntKind.i64 0, Value.string { data := d.toArray }] 23)).free 2; have pc0 := (pz3.later (Obj.cells #[Value.int IntKind.i64 3, Value.int IntKind.i64 0, Value.string { data := d.toArray }] 23)).at_ 0; have pc1 := (pz3.later (Obj.cells #[Value.int IntKind.i64 3, Value.int IntKind.i64 0, Value.string { data := d.toArray }] 23)).at_ 1; have pc2 := (pz3.later (Obj.cells #[Value.int IntKind.i64 3, Value.int IntKind.i64 0, Value.string { data := d.toArray }] 23)).at_ 2)
            rw [Exit.noGoto_ret]
            obtain ⟨W, hW⟩ : ∃ W, W = (((w3.alloc (Obj.cells #[Value.int IntKind.i64 3, Value.int IntKind.i64 0, Value.string { data := d.toArray }] 23)).setCell ⟨w.heap.size, 0, none⟩ (.int .i64 0)).setCell ⟨w.heap.size, 1, none⟩ (.int .i64 0)).setCell ⟨w.heap.size, 2, none⟩ (.string ⟨#[]⟩) := ⟨_, rfl⟩
            have hWb : Blk W w.heap.size 23 [.int .i64 0, .int .i64 0, .string ⟨#[]⟩] := by rw [hW]; exact (((pz3.later _).store 0 _).store 1 _).store 2 _
            have hbW : Below w.heap.size w W := by rw [hW]; exact ((((hb0w.trans ((HBR.out.trans hb3).mono (by omega))).alloc (by have := hb3.size; omega) _).setCell (p := ⟨w.heap.size, 0, none⟩) (Nat.le_refl _) _).setCell (p := ⟨w.heap.size, 1, none⟩) (Nat.le_refl _) _).setCell (p := ⟨w.heap.size, 2, none⟩) (Nat.le_refl _) _
            rw [← hW]
            have e0 : W.cell? ⟨w.heap.size, 0, none⟩ = some (.int .i64 0) := hWb.at_ 0
            have e1 : W.cell? ⟨w.heap.size, 1, none⟩ = some (.int .i64 0) := hWb.at_ 1
            have e2 : W.cell? ⟨w.heap.size, 2, none⟩ = some (.string ⟨#[]⟩) := hWb.at_ 2
            exact bodyPost_ret (v := .tuple #[.agg #[.int .i64 0, .int .i64 0, .string ⟨#[]⟩], .int .i64 40]) (by simp [results, Tryd.results39, go_sem, e0, e1, e2]) rfl ⟨by rw [Hno.out], hbW⟩
          · have t3 : ¬ (k : Int) + 1 < (s.size : Int) := by omega
            have hke : k + 1 = s.size := by omega
            clear hd hq hl2
            have hst := Tryd.Builder_String_any (w.heap.size + 1) (w.heap.size + 1) d wr hI hbz
            have hsz3 : ((s.data.toList.drop k).length : Int) = (s.size : Int) - k := by simp; omega
            have pz : Blk wr w.heap.size 23 [.int .i64 0, .int .i64 0, .string ⟨#[]⟩] := (Blk.born w 23 [.int .i64 0, .int .i64 0, .string ⟨#[]⟩]).below HBR.out (by omega)
            have hb0w : Below w.heap.size w (w.alloc (Obj.cells #[Value.int IntKind.i64 0, Value.int IntKind.i64 0, Value.string { data := #[] }] 23)) := (Below.refl _ _).alloc (Nat.le_refl _) _
            have t9 : ((k : Int) != (s.size : Int) - 1) = false := by rw [bne_eq_false_iff_eq]; omega
            have hl1 : (s.data.toList.drop k).length = 1 := by omega
            by_cases hle : d.length ≤ 1024
            · have Hso : Hid (ptR s = .tuple #[.agg #[.int .i64 3, .int .i64 0, .string ⟨d.toArray⟩], .int .i64 0]) := by
                refine ptR_some ?_
                unfold ptO
                rw [HD.out]
                exact if_pos ⟨hl1, hle⟩
              have hr := fun w => right_any 3 0 ⟨d.toArray⟩ w (by unfold maxLen; show d.toArray.size ≤ _; simp; omega)
              have er : rightB 3 0 (ByteArray.toList ⟨d.toArray⟩) = true := by rw [ByteArray.toList_eq]; simp [rightB]; omega
              rw [er] at hr
              clear er
              clear hke hle hl1
              go_wp2_with (first | (go_at_call 52; refine hst.mono ?_; rintro e w3 ⟨rfl, hb3⟩; have pz3 := pz.below hb3 (by omega); have pf0 := (pz3.later (Obj.cells #[Value.int IntKind.i64 3, Value.int IntKind.i64 0, Value.string { data := d.toArray }] 23)).free 0; have pf1 := (pz3.later (Obj.cells #[Value.int IntKind.i64 3, Value.int IntKind.i64 0, Value.string { data := d.toArray }] 23)).free 1; have pf2 := (pz3.later (Obj.cells #[Value.int IntKind.i64 3, Value.int IntKind.i64 0, Value.string { data := d.toArray }] 23)).free 2; have pc0 := (pz3.later (Obj.cells #[Value.int IntKind.i64 3, Value.int IntKind.i64 0, Value.string { data := d.toArray }] 23)).at_ 0; have pc1 := (pz3.later (Obj.cells #[Value.int IntKind.i64 3, Value.int IntKind.i64 0, Value.string { data := d.toArray }] 23)).at_ 1; have pc2 := (pz3.later (Obj.cells #[Value.int IntKind.i64 3, Value.int IntKind.i64 0, Value.string { data := d.toArray }] 23)).at_ 2) | (go_at_call 11; refine (hr _).mono ?_; rintro e w5 ⟨rfl, hb5⟩; have pz5 := (pz3.later (Obj.cells #[Value.int IntKind.i64 3, Value.int IntKind.i64 0, Value.string { data := d.toArray }] 23)).below hb5 (by have := hb3.size; simp; omega); have bx5 := (Blk.born w3 23 [.int .i64 3, .int .i64 0, .string ⟨d.toArray⟩]).below hb5 (by simp); have g0 := bx5.at_ 0; have g1 := bx5.at_ 1; have g2 := bx5.at_ 2; have q0 := pz5.free 0; have q1 := pz5.free 1; have q2 := pz5.free 2; have q3 := pz5.at_ 0; have q4 := pz5.at_ 1; have q5 := pz5.at_ 2))
              rw [Exit.noGoto_ret]
              obtain ⟨W, hW⟩ : ∃ W, W = ((w5.setCell ⟨w.heap.size, 0, none⟩ (.int .i64 3)).setCell ⟨w.heap.size, 1, none⟩ (.int .i64 0)).setCell ⟨w.heap.size, 2, none⟩ (.string ⟨d.toArray⟩) := ⟨_, rfl⟩
              have hWb : Blk W w.heap.size 23 [.int .i64 3, .int .i64 0, .string ⟨d.toArray⟩] := by rw [hW]; exact ((pz5.store 0 _).store 1 _).store 2 _
              have hbW : Below w.heap.size w W := by rw [hW]; exact (((((hb0w.trans ((HBR.out.trans hb3).mono (by omega))).alloc (by have := hb3.size; omega) _).trans (hb5.mono (by have := hb3.size; simp; omega))).setCell (p := ⟨w.heap.size, 0, none⟩) (Nat.le_refl _) _).setCell (p := ⟨w.heap.size, 1, none⟩) (Nat.le_refl _) _).setCell (p := ⟨w.heap.size, 2, none⟩) (Nat.le_refl _) _
              rw [← hW]
              have e0 : W.cell? ⟨w.heap.size, 0, none⟩ = some (.int .i64 3) := hWb.at_ 0
              have e1 : W.cell? ⟨w.heap.size, 1, none⟩ = some (.int .i64 0) := hWb.at_ 1
              have e2 : W.cell? ⟨w.heap.size, 2, none⟩ = some (.string ⟨d.toArray⟩) := hWb.at_ 2
              exact bodyPost_ret (v := .tuple #[.agg #[.int .i64 3, .int .i64 0, .string ⟨d.toArray⟩], .int .i64 0]) (by simp [results, Tryd.results39, go_sem, e0, e1, e2]) rfl ⟨by rw [Hso.out], hbW⟩
            · have Hno : Hid (ptR s = .tuple #[.agg #[.int .i64 0, .int .i64 0, .string ⟨#[]⟩], .int .i64 40]) := by
                refine ptR_none ?_
                unfold ptO
                rw [HD.out]
                exact if_neg (fun h => hle h.2)
              have hr := fun w => right_any 3 0 ⟨d.toArray⟩ w (by unfold maxLen; show d.toArray.size ≤ _; simp; omega)
              have er : rightB 3 0 (ByteArray.toList ⟨d.toArray⟩) = false := by rw [ByteArray.toList_eq]; simp [rightB]; omega
              rw [er] at hr
              clear er
              clear hke hle hl1
              go_wp2_with (first | (go_at_call 52; refine hst.mono ?_; rintro e w3 ⟨rfl, hb3⟩; have pz3 := pz.below hb3 (by omega); have pf0 := (pz3.later (Obj.cells #[Value.int IntKind.i64 3, Value.int IntKind.i64 0, Value.string { data := d.toArray }] 23)).free 0; have pf1 := (pz3.later (Obj.cells #[Value.int IntKind.i64 3, Value.int IntKind.i64 0, Value.string { data := d.toArray }] 23)).free 1; have pf2 := (pz3.later (Obj.cells #[Value.int IntKind.i64 3, Value.int IntKind.i64 0, Value.string { data := d.toArray }] 23)).free 2; have pc0 := (pz3.later (Obj.cells #[Value.int IntKind.i64 3, Value.int IntKind.i64 0, Value.string { data := d.toArray }] 23)).at_ 0; have pc1 := (pz3.later (Obj.cells #[Value.int IntKind.i64 3, Value.int IntKind.i64 0, Value.string { data := d.toArray }] 23)).at_ 1; have pc2 := (pz3.later (Obj.cells #[Value.int IntKind.i64 3, Value.int IntKind.i64 0, Value.string { data := d.toArray }] 23)).at_ 2) | (go_at_call 11; refine (hr _).mono ?_; rintro e w5 ⟨rfl, hb5⟩; have pz5 := (pz3.later (Obj.cells #[Value.int IntKind.i64 3, Value.int IntKind.i64 0, Value.string { data := d.toArray }] 23)).below hb5 (by have := hb3.size; simp; omega); have bx5 := (Blk.born w3 23 [.int .i64 3, .int .i64 0, .string ⟨d.toArray⟩]).below hb5 (by simp); have g0 := bx5.at_ 0; have g1 := bx5.at_ 1; have g2 := bx5.at_ 2; have q0 := pz5.free 0; have q1 := pz5.free 1; have q2 := pz5.free 2; have q3 := pz5.at_ 0; have q4 := pz5.at_ 1; have q5 := pz5.at_ 2))
              rw [Exit.noGoto_ret]
              obtain ⟨W, hW⟩ : ∃ W, W = ((w5.setCell ⟨w.heap.size, 0, none⟩ (.int .i64 0)).setCell ⟨w.heap.size, 1, none⟩ (.int .i64 0)).setCell ⟨w.heap.size, 2, none⟩ (.string ⟨#[]⟩) := ⟨_, rfl⟩
              have hWb : Blk W w.heap.size 23 [.int .i64 0, .int .i64 0, .string ⟨#[]⟩] := by rw [hW]; exact ((pz5.store 0 _).store 1 _).store 2 _
              have hbW : Below w.heap.size w W := by rw [hW]; exact (((((hb0w.trans ((HBR.out.trans hb3).mono (by omega))).alloc (by have := hb3.size; omega) _).trans (hb5.mono (by have := hb3.size; simp; omega))).setCell (p := ⟨w.heap.size, 0, none⟩) (Nat.le_refl _) _).setCell (p := ⟨w.heap.size, 1, none⟩) (Nat.le_refl _) _).setCell (p := ⟨w.heap.size, 2, none⟩) (Nat.le_refl _) _
              rw [← hW]
              have e0 : W.cell? ⟨w.heap.size, 0, none⟩ = some (.int .i64 0) := hWb.at_ 0
              have e1 : W.cell? ⟨w.heap.size, 1, none⟩ = some (.int .i64 0) := hWb.at_ 1
              have e2 : W.cell? ⟨w.heap.size, 2, none⟩ = some (.string ⟨#[]⟩) := hWb.at_ 2
              exact bodyPost_ret (v := .tuple #[.agg #[.int .i64 0, .int .i64 0, .string ⟨#[]⟩], .int .i64 40]) (by simp [results, Tryd.results39, go_sem, e0, e1, e2]) rfl ⟨by rw [Hno.out], hbW⟩
      · have HN := Lib.hid (HA.out.byte hlt hq)
        have t1 : ((s[k].toNat : Int) != 39) = true := by
          rw [bne_iff_ne]
          intro e
          exact hq (UInt8.toNat_inj.1 (by have : (39 : UInt8).toNat = 39 := rfl; omega))
        have hw1 := writebyte_any (w.heap.size + 1) (w.heap.size + 1) d s[k] wr hI (by omega) hbz
        clear hq
        go_wp2_with (go_at_call 51; refine hw1.mono ?_; rintro e w2 ⟨rfl, hI2, hb2⟩)
        go_roundg (s.size - (k + 1))
        case measure => omega
        case rel => exact ⟨k + 1, d ++ [s[k]], rfl, by go_num, HN.out, hI2, HBR.out.trans hb2⟩
    · have HD := Lib.hid (HA.out.done hlt)
      have hst := Tryd.Builder_String_any (w.heap.size + 1) (w.heap.size + 1) d wr hI hbz
      have hsz3 : ((s.data.toList.drop k).length : Int) = (s.size : Int) - k := by simp; omega
      have pz : Blk wr w.heap.size 23 [.int .i64 0, .int .i64 0, .string ⟨#[]⟩] := (Blk.born w 23 [.int .i64 0, .int .i64 0, .string ⟨#[]⟩]).below HBR.out (by omega)
      have hb0w : Below w.heap.size w (w.alloc (Obj.cells #[Value.int IntKind.i64 0, Value.int IntKind.i64 0, Value.string { data := #[] }] 23)) := (Below.refl _ _).alloc (Nat.le_refl _) _
      by_cases hke : k + 1 = s.size
      · have t9 : ((k : Int) != (s.size : Int) - 1) = false := by rw [bne_eq_false_iff_eq]; omega
        have hl1 : (s.data.toList.drop k).length = 1 := by omega
        by_cases hle : d.length ≤ 1024
        · have Hso : Hid (ptR s = .tuple #[.agg #[.int .i64 3, .int .i64 0, .string ⟨d.toArray⟩], .int .i64 0]) := by
            refine ptR_some ?_
            unfold ptO
            rw [HD.out]
            exact if_pos ⟨hl1, hle⟩
          have hr := fun w => right_any 3 0 ⟨d.toArray⟩ w (by unfold maxLen; show d.toArray.size ≤ _; simp; omega)
          have er : rightB 3 0 (ByteArray.toList ⟨d.toArray⟩) = true := by rw [ByteArray.toList_eq]; simp [rightB]; omega
          rw [er] at hr
          clear er
          clear hke hle hl1
          go_wp2_with (first | (go_at_call 52; refine hst.mono ?_; rintro e w3 ⟨rfl, hb3⟩; have pz3 := pz.below hb3 (by omega); have pf0 := (pz3.later (Obj.cells #[Value.int IntKind.i64 3, Value.int IntKind.i64 0, Value.string { data := d.toArray }] 23)).free 0; have pf1 := (pz3.later (Obj.cells #[Value.int IntKind.i64 3, Value.int IntKind.i64 0, Value.string { data := d.toArray }] 23)).free 1; have pf2 := (pz3.later (Obj.cells #[Value.int IntKind.i64 3, Value.int IntKind.i64 0, Value.string { data := d.toArray }] 23)).free 2; have pc0 := (pz3.later (Obj.cells #[Value.int IntKind.i64 3, Value.int IntKind.i64 0, Value.string { data := d.toArray }] 23)).at_ 0; have pc1 := (pz3.later (Obj.cells #[Value.int IntKind.i64 3, Value.int IntKind.i64 0, Value.string { data := d.toArray }] 23)).at_ 1; have pc2 := (pz3.later (Obj.cells #[Value.int IntKind.i64 3, Value.int IntKind.i64 0, Value.string { data := d.toArray }] 23)).at_ 2) | (go_at_call 11; refine (hr _).mono ?_; rintro e w5 ⟨rfl, hb5⟩; have pz5 := (pz3.later (Obj.cells #[Value.int IntKind.i64 3, Value.int IntKind.i64 0, Value.string { data := d.toArray }] 23)).below hb5 (by have := hb3.size; simp; omega); have bx5 := (Blk.born w3 23 [.int .i64 3, .int .i64 0, .string ⟨d.toArray⟩]).below hb5 (by simp); have g0 := bx5.at_ 0; have g1 := bx5.at_ 1; have g2 := bx5.at_ 2; have q0 := pz5.free 0; have q1 := pz5.free 1; have q2 := pz5.free 2; have q3 := pz5.at_ 0; have q4 := pz5.at_ 1; have q5 := pz5.at_ 2))
          rw [Exit.noGoto_ret]
          obtain ⟨W, hW⟩ : ∃ W, W = ((w5.setCell ⟨w.heap.size, 0, none⟩ (.int .i64 3)).setCell ⟨w.heap.size, 1, none⟩ (.int .i64 0)).setCell ⟨w.heap.size, 2, none⟩ (.string ⟨d.toArray⟩) := ⟨_, rfl⟩
          have hWb : Blk W w.heap.size 23 [.int .i64 3, .int .i64 0, .string ⟨d.toArray⟩] := by rw [hW]; exact ((pz5.store 0 _).store 1 _).store 2 _
          have hbW : Below w.heap.size w W := by rw [hW]; exact (((((hb0w.trans ((HBR.out.trans hb3).mono (by omega))).alloc (by have := hb3.size; omega) _).trans (hb5.mono (by have := hb3.size; simp; omega))).setCell (p := ⟨w.heap.size, 0, none⟩) (Nat.le_refl _) _).setCell (p := ⟨w.heap.size, 1, none⟩) (Nat.le_refl _) _).setCell (p := ⟨w.heap.size, 2, none⟩) (Nat.le_refl _) _
          rw [← hW]
          have e0 : W.cell? ⟨w.heap.size, 0, none⟩ = some (.int .i64 3) := hWb.at_ 0
          have e1 : W.cell? ⟨w.heap.size, 1, none⟩ = some (.int .i64 0) := hWb.at_ 1
          have e2 : W.cell? ⟨w.heap.size, 2, none⟩ = some (.string ⟨d.toArray⟩) := hWb.at_ 2
          exact bodyPost_ret (v := .tuple #[.agg #[.int .i64 3, .int .i64 0, .string ⟨d.toArray⟩], .int .i64 0]) (by simp [results, Tryd.results39, go_sem, e0, e1, e2]) rfl ⟨by rw [Hso.out], hbW⟩
        · have Hno : Hid (ptR s = .tuple #[.agg #[.int .i64 0, .int .i64 0, .string ⟨#[]⟩], .int .i64 40]) := by
            refine ptR_none ?_
            unfold ptO
            rw [HD.out]
            exact if_neg (fun h => hle h.2)
          have hr := fun w => right_any 3 0 ⟨d.toArray⟩ w (by unfold maxLen; show d.toArray.size ≤ _; simp; omega)
          have er : rightB 3 0 (ByteArray.toList ⟨d.toArray⟩) = false := by rw [ByteArray.toList_eq]; simp [rightB]; omega
          rw [er] at hr
          clear er
          clear hke hle hl1
          go_wp2_with (first | (go_at_call 52; refine hst.mono ?_; rintro e w3 ⟨rfl, hb3⟩; have pz3 := pz.below hb3 (by omega); have pf0 := (pz3.later (Obj.cells #[Value.int IntKind.i64 3, Value.int IntKind.i64 0, Value.string { data := d.toArray }] 23)).free 0; have pf1 := (pz3.later (Obj.cells #[Value.int IntKind.i64 3, Value.int IntKind.i64 0, Value.string { data := d.toArray }] 23)).free 1; have pf2 := (pz3.later (Obj.cells #[Value.int IntKind.i64 3, Value.int IntKind.i64 0, Value.string { data := d.toArray }] 23)).free 2; have pc0 := (pz3.later (Obj.cells #[Value.int IntKind.i64 3, Value.int IntKind.i64 0, Value.string { data := d.toArray }] 23)).at_ 0; have pc1 := (pz3.later (Obj.cells #[Value.int IntKind.i64 3, Value.int IntKind.i64 0, Value.string { data := d.toArray }] 23)).at_ 1; have pc2 := (pz3.later (Obj.cells #[Value.int IntKind.i64 3, Value.int IntKind.i64 0, Value.string { data := d.toArray }] 23)).at_ 2) | (go_at_call 11; refine (hr _).mono ?_; rintro e w5 ⟨rfl, hb5⟩; have pz5 := (pz3.later (Obj.cells #[Value.int IntKind.i64 3, Value.int IntKind.i64 0, Value.string { data := d.toArray }] 23)).below hb5 (by have := hb3.size; simp; omega); have bx5 := (Blk.born w3 23 [.int .i64 3, .int .i64 0, .string ⟨d.toArray⟩]).below hb5 (by simp); have g0 := bx5.at_ 0; have g1 := bx5.at_ 1; have g2 := bx5.at_ 2; have q0 := pz5.free 0; have q1 := pz5.free 1; have q2 := pz5.free 2; have q3 := pz5.at_ 0; have q4 := pz5.at_ 1; have q5 := pz5.at_ 2))
          rw [Exit.noGoto_ret]
          obtain ⟨W, hW⟩ : ∃ W, W = ((w5.setCell ⟨w.heap.size, 0, none⟩ (.int .i64 0)).setCell ⟨w.heap.size, 1, none⟩ (.int .i64 0)).setCell ⟨w.heap.size, 2, none⟩ (.string ⟨#[]⟩) := ⟨_, rfl⟩
          have hWb : Blk W w.heap.size 23 [.int .i64 0, .int .i64 0, .string ⟨#[]⟩] := by rw [hW]; exact ((pz5.store 0 _).store 1 _).store 2 _
          have hbW : Below w.heap.size w W := by rw [hW]; exact (((((hb0w.trans ((HBR.out.trans hb3).mono (by omega))).alloc (by have := hb3.size; omega) _).trans (hb5.mono (by have := hb3.size; simp; omega))).setCell (p := ⟨w.heap.size, 0, none⟩) (Nat.le_refl _) _).setCell (p := ⟨w.heap.size, 1, none⟩) (Nat.le_refl _) _).setCell (p := ⟨w.heap.size, 2, none⟩) (Nat.le_refl _) _
          rw [← hW]
          have e0 : W.cell? ⟨w.heap.size, 0, none⟩ = some (.int .i64 0) := hWb.at_ 0
          have e1 : W.cell? ⟨w.heap.size, 1, none⟩ = some (.int .i64 0) := hWb.at_ 1
          have e2 : W.cell? ⟨w.heap.size, 2, none⟩ = some (.string ⟨#[]⟩) := hWb.at_ 2
          exact bodyPost_ret (v := .tuple #[.agg #[.int .i64 0, .int .i64 0, .string ⟨#[]⟩], .int .i64 40]) (by simp [results, Tryd.results39, go_sem, e0, e1, e2]) rfl ⟨by rw [Hno.out], hbW⟩
      · have t9 : ((k : Int) != (s.size : Int) - 1) = true := by rw [bne_iff_ne]; omega
        have Hno : Hid (ptR s = .tuple #[.agg #[.int .i64 0, .int .i64 0, .string ⟨#[]⟩], .int .i64 40]) := by
          refine ptR_none ?_
          unfold ptO
          rw [HD.out]
          exact if_neg (fun h => by have h1 : (s.data.toList.drop k).length = 1 := h.1; omega)
        clear hke
        go_wp2_with (go_at_call 52; refine hst.mono ?_; rintro e w3 ⟨rfl, hb3⟩; have pz3 := pz.below hb3 (by omega); have pf0 := (pz3.later (Obj.cells #[Value.int IntKind.i64 3, Value.int IntKind.i64 0, Value.string { data := d.toArray }] 23)).free 0; have pf1 := (pz3.later (Obj.cells #[Value.int IntKind.i64 3, Value.int IntKind.i64 0, Value.string { data := d.toArray }] 23)).free 1; have pf2 := (pz3.later (Obj.cells #[Value.int IntKind.i64 3, Value.int IntKind.i64 0, Value.string { data := d.toArray }] 23)).free 2; have pc0 := (pz3.later (Obj.cells #[Value.int IntKind.i64 3, Value.int IntKind.i64 0, Value.string { data := d.toArray }] 23)).at_ 0; have pc1 := (pz3.later (Obj.cells #[Value.int IntKind.i64 3, Value.int IntKind.i64 0, Value.string { data := d.toArray }] 23)).at_ 1; have pc2 := (pz3.later (Obj.cells #[Value.int IntKind.i64 3, Value.int IntKind.i64 0, Value.string { data := d.toArray }] 23)).at_ 2)
        rw [Exit.noGoto_ret]
        obtain ⟨W, hW⟩ : ∃ W, W = (((w3.alloc (Obj.cells #[Value.int IntKind.i64 3, Value.int IntKind.i64 0, Value.string { data := d.toArray }] 23)).setCell ⟨w.heap.size, 0, none⟩ (.int .i64 0)).setCell ⟨w.heap.size, 1, none⟩ (.int .i64 0)).setCell ⟨w.heap.size, 2, none⟩ (.string ⟨#[]⟩) := ⟨_, rfl⟩
        have hWb : Blk W w.heap.size 23 [.int .i64 0, .int .i64 0, .string ⟨#[]⟩] := by rw [hW]; exact (((pz3.later _).store 0 _).store 1 _).store 2 _
        have hbW : Below w.heap.size w W := by rw [hW]; exact ((((hb0w.trans ((HBR.out.trans hb3).mono (by omega))).alloc (by have := hb3.size; omega) _).setCell (p := ⟨w.heap.size, 0, none⟩) (Nat.le_refl _) _).setCell (p := ⟨w.heap.size, 1, none⟩) (Nat.le_refl _) _).setCell (p := ⟨w.heap.size, 2, none⟩) (Nat.le_refl _) _
        rw [← hW]
        have e0 : W.cell? ⟨w.heap.size, 0, none⟩ = some (.int .i64 0) := hWb.at_ 0
        have e1 : W.cell? ⟨w.heap.size, 1, none⟩ = some (.int .i64 0) := hWb.at_ 1
        have e2 : W.cell? ⟨w.heap.size, 2, none⟩ = some (.string ⟨#[]⟩) := hWb.at_ 2
        exact bodyPost_ret (v := .tuple #[.agg #[.int .i64 0, .int .i64 0, .string ⟨#[]⟩], .int .i64 40]) (by simp [results, Tryd.results39, go_sem, e0, e1, e2]) rfl ⟨by rw [Hno.out], hbW⟩
end Go.Proofs.YtlflhigphfnhoaaDoor
