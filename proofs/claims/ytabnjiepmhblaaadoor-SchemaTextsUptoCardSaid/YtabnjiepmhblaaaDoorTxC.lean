/- The walk of parseColumn. -/
import Derived.Test.YtabnjiepmhblaaaDoorTxQ
import Derived.Test.YtabnjiepmhblaaaDoorScS
import Derived.Test.YtabnjiepmhblaaaDoorTxR
import Derived.Outline
namespace Go.Proofs.YtabnjiepmhblaaaDoor
open Go.RowKit Go.Shelf Go.Maps
set_option linter.unusedVariables false

/-- What parseColumn answers. -/
def pcR (s : List UInt8) : Value := match parseC s with
  | some x => .tuple #[colV (colP x), .int .i64 0]
  | none => .tuple #[.agg #[.string ⟨#[]⟩, .int .i64 0, .bool false], .int .i64 50]
/-- The kinds that are still to be tried. -/
def pK (r : List UInt8) (nl : Bool) : Nat → Option (List UInt8 × Int × Bool)
  | 0 => none
  | f + 1 => if Lib.hasSuffix r (kindT (3 - (f : Int))) then some (Lib.trimSuffix r (kindT (3 - (f : Int))), 3 - (f : Int), nl) else pK r nl f
theorem parseC_pK (s : List UInt8) : parseC s = pK (Lib.trimSuffix s nullT) (Lib.hasSuffix s nullT) 3 := rfl
theorem trim_len (s p : List UInt8) : (Lib.trimSuffix s p).length ≤ s.length := by
  unfold Lib.trimSuffix
  split
  · rw [List.length_take]; omega
  · exact Nat.le_refl _

theorem results_cellt {fn : Func} {p u : Tmp} {t : TypeId} (h : fn.results = #[.cell p t, .tmp u]) (tmps : Array Value) (P : Program) (w : World) :
    (results fn tmps).run P w = ((asAddr (tmps.getD p undef)).run P w).andThen fun a w₁ => ((loadVar t a).run P w₁).andThen fun x w₂ => .ok (.tuple #[x, tmps.getD u undef]) w₂ := by
  simp only [results, h]
  simp [Sem.run_bind, Result.andThen]
set_option maxRecDepth 100000 in
set_option maxHeartbeats 4000000 in
theorem parsecol_any (s : ByteArray) (W : World) (hs : s.size ≤ 140737488351232) :
    Calls Tryd.prog 23 #[.string s] W fun e W' => e = .returned (pcR s.data.toList) ∧ Below W.heap.size W W' := by
  have hcs := fun w => Tryd.strings_CutSuffix s ⟨#[32, 110, 117, 108, 108]⟩ w (by omega)
  obtain ⟨W1, hW1⟩ : ∃ x, x = W.alloc (Obj.cells #[Value.string ⟨#[]⟩, Value.int .i64 0, Value.bool false] 44) := ⟨_, rfl⟩
  have hB : Below W.heap.size W W1 := by rw [hW1]; exact (Below.refl _ _).alloc (Nat.le_refl _) _
  have hG : Blk W1 W.heap.size 44 [Value.string ⟨#[]⟩, Value.int .i64 0, Value.bool false] := by rw [hW1]; exact Blk.born W _ _
  have HP : Hid (pcR s.data.toList = match pK (Lib.trimSuffix s.data.toList nullT) (Lib.hasSuffix s.data.toList nullT) 3 with
      | some x => .tuple #[colV (colP x), .int .i64 0]
      | none => .tuple #[.agg #[.string ⟨#[]⟩, .int .i64 0, .bool false], .int .i64 50]) := rfl
  have hrl : (Lib.trimSuffix s.data.toList nullT).length ≤ 140737488351232 := Nat.le_trans (trim_len _ _) (by rw [sz_list]; exact hs)
  change ∀ w, Calls Tryd.prog 43 _ w (fun e w' => e = .returned (.tuple #[.string ⟨(Lib.trimSuffix s.data.toList nullT).toArray⟩, .bool (Lib.hasSuffix s.data.toList nullT)]) ∧ w' = w) at hcs
  obtain ⟨r, hr⟩ : ∃ r, Lib.trimSuffix s.data.toList nullT = r := ⟨_, rfl⟩
  obtain ⟨nl, hnl⟩ : ∃ r, Lib.hasSuffix s.data.toList nullT = r := ⟨_, rfl⟩
  rw [hr, hnl] at HP
  rw [hr] at hrl
  simp only [hr, hnl] at hcs
  generalize pcR s.data.toList = res at HP ⊢
  have HCS := Lib.hid hcs
  have HW1 := Lib.hid hW1
  obtain ⟨N, hN⟩ : ∃ N, W.heap.size = N := ⟨_, rfl⟩
  rw [hN] at hG hB ⊢
  have HBN := Lib.hid hB
  have HG := Lib.hid hG
  clear hcs hr hnl hW1 hB hG hs
  go_enter Tryd.func23, Tryd.ntmps23
  go_wp2_with (first | (go_at_call 43; refine (HCS.out _).mono ?_; rintro e w1 ⟨rfl, rfl⟩; clear HCS))
  rw [← HW1.out]
  go_loopw [6] (fun x6 wr => ∃ f : Nat, f ≤ 3 ∧ x6 = .int .i64 (4 - (f : Int)) ∧ pK r nl f = pK r nl 3 ∧ Blk wr N 44 [Value.string ⟨#[]⟩, Value.int .i64 0, Value.bool false] ∧ Below N W wr) (fun x _ => (4 - intOf x).toNat)
  case atStart => exact ⟨3, by omega, rfl, rfl, HG.out, HBN.out⟩
  case round =>
    obtain ⟨f, hf, rfl, hpk, hblk, hbel⟩ := hrel
    have HBLK := Lib.hid hblk
    have HBEL := Lib.hid hbel
    have HPK := Lib.hid hpk
    clear hblk hbel hpk HG HBN
    cases f with
    | zero =>
      have hno : res = .tuple #[.agg #[.string ⟨#[]⟩, .int .i64 0, .bool false], .int .i64 50] := by rw [HP.out, ← HPK.out]; rfl
      have HNO := Lib.hid hno
      clear hno
      go_wp2_with (first | (refine st_mid rfl 44 (.tmp 2) (.tmp 30) rfl 3 szCo N 0 44 _ [Value.string ⟨#[]⟩, Value.int .i64 0, Value.bool false] rfl rfl HBLK.out rfl (by decide) one_z ?_; intro w3 hb3 hs3; have HB3 := Lib.hid hb3; have HS3 := Lib.hid hs3; clear hb3 hs3))
      have k0 : w3.cell? ⟨N, 0, none⟩ = some (.string ⟨#[]⟩) := (HB3.out.at_ 0).trans rfl
      have k1 : w3.cell? ⟨N, 1, none⟩ = some (.int .i64 0) := (HB3.out.at_ 1).trans rfl
      have k2 : w3.cell? ⟨N, 2, none⟩ = some (.bool false) := (HB3.out.at_ 2).trans rfl
      refine bodyPost_ret (v := res) ?_ rfl ⟨rfl, HS3.out.below HBEL.out (Nat.le_refl _)⟩
      rw [HNO.out, results_cellt rfl]
      go_simp
    | succ f =>
      obtain ⟨kk, hkk⟩ : ∃ kk : Int, 4 - ((f + 1 : Nat) : Int) = kk := ⟨_, rfl⟩
      have hk3 : (3 - (f : Int)) = kk := by omega
      have hkb : 1 ≤ kk ∧ kk ≤ 3 := by omega
      have hkl : kk = 1 ∨ kk = 2 ∨ kk = 3 := by omega
      rw [hkk]
      have HKW := Lib.hid (fun w => kindword_any kk w)
      have hc := fun w => Tryd.strings_CutSuffix ⟨r.toArray⟩ ⟨(kindT kk).toArray⟩ w (by rw [bsz]; omega)
      have hstep := HPK.out
      rw [pK, hk3] at hstep
      have HFK : Hid (f ≤ 2 ∧ kk + 1 = 4 - (f : Int)) := ⟨by omega, by omega⟩
      cases hh : Lib.hasSuffix r (kindT kk) with
      | true =>
        rw [hh, if_pos rfl] at hstep
        have hyes : res = .tuple #[colV (colP (Lib.trimSuffix r (kindT kk), kk, nl)), .int .i64 0] := by rw [HP.out, ← hstep]
        have htl := trim_len r (kindT kk)
        have hcol : colV (colP (Lib.trimSuffix r (kindT kk), kk, nl)) = .agg #[.string ⟨(Lib.trimSuffix r (kindT kk)).toArray⟩, .int .i64 kk, .bool nl] := by
          unfold colV colP
          simp only
          rw [List.take_of_length_le (by omega)]
          rfl
        rw [hcol] at hyes
        change ∀ w, Calls Tryd.prog 43 _ w (fun e w' => e = .returned (.tuple #[.string ⟨(Lib.trimSuffix r (kindT kk)).toArray⟩, .bool (Lib.hasSuffix r (kindT kk))]) ∧ w' = w) at hc
        rw [hh] at hc
        generalize Lib.trimSuffix r (kindT kk) = q at hc hyes
        have HC := Lib.hid hc
        have HYES := Lib.hid hyes
        generalize kindT kk = kt at HKW HC
        clear hc hyes hstep htl hcol hkk hk3 hkl hh hrl
        go_wp2_with (first | (go_at_call 18; refine (HKW.out _).mono ?_; rintro e w1 ⟨rfl, rfl⟩; clear HKW) | (go_at_call 43; refine (HC.out _).mono ?_; rintro e w1 ⟨rfl, rfl⟩; clear HC) | (refine st_mid rfl 44 (.tmp 2) (.tmp 29) rfl 3 szCo N 0 44 _ [Value.string ⟨q.toArray⟩, Value.int .i64 kk, Value.bool nl] rfl rfl HBLK.out rfl (by decide) (one_c _ _ _) ?_; intro w3 hb3 hs3; have HB3 := Lib.hid hb3; have HS3 := Lib.hid hs3; clear hb3 hs3))
        have k0 : w3.cell? ⟨N, 0, none⟩ = some (.string ⟨q.toArray⟩) := (HB3.out.at_ 0).trans rfl
        have k1 : w3.cell? ⟨N, 1, none⟩ = some (.int .i64 kk) := (HB3.out.at_ 1).trans rfl
        have k2 : w3.cell? ⟨N, 2, none⟩ = some (.bool nl) := (HB3.out.at_ 2).trans rfl
        refine bodyPost_ret (v := res) ?_ rfl ⟨rfl, HS3.out.below HBEL.out (Nat.le_refl _)⟩
        rw [HYES.out, results_cellt rfl]
        go_simp
      | false =>
        rw [hh, if_neg (by simp)] at hstep
        change ∀ w, Calls Tryd.prog 43 _ w (fun e w' => e = .returned (.tuple #[.string ⟨(Lib.trimSuffix r (kindT kk)).toArray⟩, .bool (Lib.hasSuffix r (kindT kk))]) ∧ w' = w) at hc
        rw [hh] at hc
        generalize Lib.trimSuffix r (kindT kk) = q at hc
        have HC := Lib.hid hc
        have HSTEP := Lib.hid hstep
        generalize kindT kk = kt at HKW HC
        clear hc hstep hkk hk3 hkl hh hrl
        go_wp2_with (first | (go_at_call 18; refine (HKW.out _).mono ?_; rintro e w1 ⟨rfl, rfl⟩; clear HKW) | (go_at_call 43; refine (HC.out _).mono ?_; rintro e w1 ⟨rfl, rfl⟩; clear HC))
        go_roundw
        case rel => exact ⟨f, by have := HFK.out.1; omega, by rw [HFK.out.2], HSTEP.out, HBLK.out, HBEL.out⟩
        case measure => simp [intOf]; omega
end Go.Proofs.YtabnjiepmhblaaaDoor
