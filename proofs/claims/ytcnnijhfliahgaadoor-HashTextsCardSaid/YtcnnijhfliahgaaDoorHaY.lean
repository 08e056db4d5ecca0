/- The walk of stackyardlaw03.HashTexts (11). -/
import Derived.Test.YtcnnijhfliahgaaDoorHaQ
import Derived.Test.YtcnnijhfliahgaaDoorRegB
namespace Go.Proofs.YtcnnijhfliahgaaDoor
open Go.RowKit
set_option linter.unusedVariables false

theorem exec_ld {o : Oper} {ev : Operand → Value} {w : World} (ty : TypeId) (x : Operand) (ho : o.op = .load ty x) (n : Nat) (e : TypeId)
    (hu : Tryd.prog.underlying ty = some (.array n e)) {m : Nat} (hi : (Tryd.prog.info? ty).map (·.size) = some m) (g : Nat) (t : TypeId) (cs : List Value) (hx : ev x = .pointer (some ⟨g, 0, none⟩)) (hg : Blk w g t cs) (hl : cs.length = m) :
    (execOp ev o).run Tryd.prog w = .ok (.value (.agg cs.toArray)) w := by
  unfold execOp
  simp only [ho, hx, Instr.loadAt, Instr.sureAddr, Sem.run_bind, Sem.run_pure, Result.andThen_ok, run_loadVar_row w g t ty cs.toArray (0, 0) (.array n e) hg hu rfl (by rw [hi, ← hl]; simp)]
theorem unR_form (l : List UInt8) : ∃ (d : List UInt8) (e : Int), d.length = 32 ∧ unR l = .tuple #[.agg (u8s d).toArray, .int .i64 e] := by
  unfold unR
  cases h : unhexO l with
  | none => exact ⟨zero32, 2, rfl, rfl⟩
  | some d => exact ⟨d, 0, (hex_unhex _ _ h).2, rfl⟩

set_option maxHeartbeats 4000000 in
set_option maxRecDepth 100000 in
theorem texts_walk (d : List UInt8) (s : ByteArray) (w : World) (hd : d.length = 32) (hs : s.size ≤ maxLen) {t0 t1 : TypeId} (g0 : Blk w 0 t0 (u32s ivs)) (g1 : Blk w 1 t1 (u8s permB)) :
    Calls Tryd.prog 11 #[.agg (u8s d).toArray, .string s] w fun e w' => e = .returned (.bool true) ∧ Below w.heap.size w w' := by
  have bd : Blk (w.alloc (Obj.cells (u8s d).toArray 42)) w.heap.size 42 (u8s d) := Blk.born w 42 (u8s d)
  have bel0 : Below w.heap.size w (w.alloc (Obj.cells (u8s d).toArray 42)) := (Below.refl _ _).alloc (Nat.le_refl _) _
  have hsh := shown3_any (w.alloc (Obj.cells (u8s d).toArray 42)) (g0.later _) (g1.later _)
  have hul : (u8s d).length = 32 := by rw [u8s_len, hd]
  have hhex := fun w => hex_any d w hd
  have hrhex := fun w => refhex_any d w hd
  have hun1 := fun w => unhex_any s w hs
  have hun2 := fun w => refunhex_any s w hs
  obtain ⟨b, eb, hbl, hr⟩ := unR_form s.data.toList
  rw [hr] at hun1 hun2
  have hub : (u8s b).length = 32 := by rw [u8s_len, hbl]
  have eqb : ∀ w', (Op.equalIn 10000 42 (.agg (u8s b).toArray) (.agg (u8s b).toArray)).run Tryd.prog w' = .ok true w' := fun w' => by rw [eq32 b b hbl hbl w']; simp
  have BD := Lib.hid bd
  have BEL0 := Lib.hid bel0
  have HSH := Lib.hid hsh
  have HUL := Lib.hid hul
  have HUB := Lib.hid hub
  have HHEX := Lib.hid hhex
  have HRHEX := Lib.hid hrhex
  have HUN1 := Lib.hid hun1
  have HUN2 := Lib.hid hun2
  have EQB := Lib.hid eqb
  clear bd bel0 hsh hul hub hhex hrhex hun1 hun2 g0 g1 hd hbl hr eqb
  go_enter Tryd.func11, Tryd.ntmps11
  go_upto_region 4 with (first | (go_at_call 23; refine HSH.out.mono ?_; rintro e w1 ⟨rfl, hb⟩; have HD1 : Hid (Blk w1 w.heap.size 42 (u8s d)) := BD.out.below hb (by simp); have BL1 : Hid (Below w.heap.size w w1) := BEL0.out.trans (hb.mono BEL0.out.size); clear hb) | (go_at_call 26; refine (HUN1.out _).mono ?_; rintro e w3 ⟨rfl, hb⟩; have HD3 : Hid (Blk w3 w.heap.size 42 (u8s d)) := HD1.out.below hb (lt_of_block HD1.out); have BL3 : Hid (Below w.heap.size w w3) := BL1.out.trans (hb.mono BL1.out.size); clear hb HUN1) | (refine st_row rfl 42 (.tmp 6) (.tmp 14) rfl 32 sz42 w3.heap.size 42 (u8s zero32) (u8s b) rfl rfl (born32 w3) HUB.out (by rfl) (u8s_one _) ?_; intro w4 hg hs; have HA4 := Lib.hid hg; have HD4 : Hid (Blk w4 w.heap.size 42 (u8s d)) := (HD3.out.later _).sole hs (by have := lt_of_block HD3.out; omega); have BL4 : Hid (Below w.heap.size w w4) := hs.below (BL3.out.alloc BL3.out.size _) BL3.out.size; clear hg hs) | (go_at_call 27; refine (HUN2.out _).mono ?_; rintro e w5 ⟨rfl, hb⟩; have HA5 : Hid (Blk w5 w3.heap.size 42 (u8s b)) := HA4.out.below hb (lt_of_block HA4.out); have HD5 : Hid (Blk w5 w.heap.size 42 (u8s d)) := HD4.out.below hb (lt_of_block HD4.out); have BL5 : Hid (Below w.heap.size w w5) := BL4.out.trans (hb.mono BL4.out.size); clear hb HUN2) | (refine st_row rfl 42 (.tmp 8) (.tmp 19) rfl 32 sz42 w5.heap.size 42 (u8s zero32) (u8s b) rfl rfl (born32 w5) HUB.out (by rfl) (u8s_one _) ?_; intro w6 hg hs; have HB6 := Lib.hid hg; have HA6 : Hid (Blk w6 w3.heap.size 42 (u8s b)) := (HA5.out.later _).sole hs (by have := lt_of_block HA5.out; omega); have HD6 : Hid (Blk w6 w.heap.size 42 (u8s d)) := (HD5.out.later _).sole hs (by have := lt_of_block HD5.out; omega); have BL6 : Hid (Below w.heap.size w w6) := hs.below (BL5.out.alloc BL5.out.size _) BL5.out.size; clear hg hs))
  have hbd : Below w.heap.size w w6.drew := BL6.out.drew
  have HA7 : Hid (Blk w6.drew w3.heap.size 42 (u8s b)) := HA6.out
  have HB7 : Hid (Blk w6.drew w5.heap.size 42 (u8s b)) := HB6.out
  have HD7 : Hid (Blk w6.drew w.heap.size 42 (u8s d)) := HD6.out
  have HBD := Lib.hid hbd
  clear hbd HA6 HB6 HD6 BL6 HA5 HD5 BL5 HA4 HD4 BL4 HD3 BL3 HD1 BL1
  refine wpB_start 19 (by kernel_rfl) rfl (fun R HR => ?_)
  refine wpB_take HR (i := 0) rfl (by decide +kernel) (by decide +kernel) (by decide +kernel) (fun _ _ _ h => h) (by rfl) (fun W hW => by rfl) ?_
  go_simp
  refine wpB_take HR (i := 1) rfl (by decide +kernel) (by decide +kernel) (by decide +kernel) (fun _ _ _ h => h) (by rfl) (fun W hW => by rfl) ?_
  go_simp
  refine wpB_take HR (i := 2) (v := .agg (u8s d).toArray) rfl (by decide +kernel) (by decide +kernel) (by decide +kernel) (fun _ _ _ h => h) (by rfl) (fun W hW => by exact exec_ld 42 (.tmp 2) rfl 32 5 ar42 sz42 w.heap.size 42 (u8s d) rfl (HD7.out.below hW (lt_of_block HD7.out)) HUL.out) ?_
  go_simp
  refine wpB_take HR (i := 4) (v := .agg (u8s d).toArray) rfl (by decide +kernel) (by decide +kernel) (by decide +kernel) (fun _ _ _ h => h) (by rfl) (fun W hW => by exact exec_ld 42 (.tmp 2) rfl 32 5 ar42 sz42 w.heap.size 42 (u8s d) rfl (HD7.out.below hW (lt_of_block HD7.out)) HUL.out) ?_
  go_simp
  refine wpB_call HR (i := 3) rfl (by decide +kernel) (by rfl) (by go_simp; exact ⟨rfl, rfl⟩) ?_
  refine (HHEX.out _).mono ?_; rintro e w8 ⟨rfl, hb8⟩; refine ⟨_, rfl, hb8, ?_⟩
  have HB8 := Lib.hid hb8
  clear hb8
  go_simp
  refine wpB_call HR (i := 5) rfl (by decide +kernel) (by rfl) (by go_simp; exact ⟨rfl, rfl⟩) ?_
  refine (HRHEX.out _).mono ?_; rintro e w9 ⟨rfl, hb9⟩; refine ⟨_, rfl, hb9, ?_⟩
  have HB9 := Lib.hid hb9
  clear hb9
  have b89 : Below w6.drew.heap.size w6.drew w9 := HB8.out.trans (HB9.out.mono HB8.out.size)
  have HA9 : Hid (Blk w9 w3.heap.size 42 (u8s b)) := HA7.out.below b89 (lt_of_block HA7.out)
  have HC9 : Hid (Blk w9 w5.heap.size 42 (u8s b)) := HB7.out.below b89 (lt_of_block HB7.out)
  have HBD9 : Hid (Below w.heap.size w w9) := HBD.out.trans (b89.mono HBD.out.size)
  clear b89
  go_simp
  refine wpB_take HR (i := 6) (v := .bool true) rfl (by decide +kernel) (by decide +kernel) (by decide +kernel) (fun _ _ _ h => h) (by rfl) (fun W hW => by go_simp) ?_
  go_simp
  refine wpB_take HR (i := 7) rfl (by decide +kernel) (by decide +kernel) (by decide +kernel) (fun _ _ _ h => h) (by rfl) (fun W hW => by rfl) ?_
  go_simp
  refine wpB_take HR (i := 8) rfl (by decide +kernel) (by decide +kernel) (by decide +kernel) (fun _ _ _ h => h) (by rfl) (fun W hW => by rfl) ?_
  go_simp
  refine wpB_take HR (i := 9) (v := .agg (u8s b).toArray) rfl (by decide +kernel) (by decide +kernel) (by decide +kernel) (fun _ _ _ h => h) (by rfl) (fun W hW => by exact exec_ld 42 (.tmp 6) rfl 32 5 ar42 sz42 w3.heap.size 42 (u8s b) rfl (HA9.out.below hW (lt_of_block HA9.out)) HUB.out) ?_
  go_simp
  refine wpB_take HR (i := 10) (v := .agg (u8s b).toArray) rfl (by decide +kernel) (by decide +kernel) (by decide +kernel) (fun _ _ _ h => h) (by rfl) (fun W hW => by exact exec_ld 42 (.tmp 8) rfl 32 5 ar42 sz42 w5.heap.size 42 (u8s b) rfl (HC9.out.below hW (lt_of_block HC9.out)) HUB.out) ?_
  go_simp
  refine wpB_take HR (i := 11) (v := .bool true) rfl (by decide +kernel) (by decide +kernel) (by decide +kernel) (fun _ _ _ h => h) (by rfl) (fun W hW => by have eqb := EQB.out; go_simp) ?_
  go_simp
  refine wpB_take HR (i := 12) rfl (by decide +kernel) (by decide +kernel) (by decide +kernel) (fun _ _ _ h => h) (by rfl) (fun W hW => by rfl) ?_
  go_simp
  refine wpB_take HR (i := 13) rfl (by decide +kernel) (by decide +kernel) (by decide +kernel) (fun _ _ _ h => h) (by rfl) (fun W hW => by rfl) ?_
  go_simp
  refine wpB_take HR (i := 14) rfl (by decide +kernel) (by decide +kernel) (by decide +kernel) (fun _ _ _ h => h) (by rfl) (fun W hW => by rfl) ?_
  go_simp
  refine wpB_take HR (i := 15) rfl (by decide +kernel) (by decide +kernel) (by decide +kernel) (fun _ _ _ h => h) (by rfl) (fun W hW => by rfl) ?_
  go_simp
  refine wpB_take HR (i := 16) (v := .bool true) rfl (by decide +kernel) (by decide +kernel) (by decide +kernel) (fun _ _ _ h => h) (by rfl) (fun W hW => by go_simp) ?_
  go_simp
  refine wpB_take HR (i := 17) rfl (by decide +kernel) (by decide +kernel) (by decide +kernel) (fun _ _ _ h => h) (by rfl) (fun W hW => by rfl) ?_
  go_simp
  refine wpB_take HR (i := 18) rfl (by decide +kernel) (by decide +kernel) (by decide +kernel) (fun _ _ _ h => h) (by rfl) (fun W hW => by rfl) ?_
  go_simp
  refine wpB_done HR (by decide +kernel) ?_
  go_wp2
  go_ret
  exact ⟨rfl, HBD9.out⟩
end Go.Proofs.YtcnnijhfliahgaaDoor
