/- Columns and schemas off bytes: the plain model; the program's takeColumn. -/
import Derived.Test.YtabnjiepmhblaaaDoorJ6
import Derived.Test.YtabnjiepmhblaaaDoorJ7
import Derived.Test.YtabnjiepmhblaaaDoorJ8
import Derived.Test.YtabnjiepmhblaaaDoorJ3
import Derived.Test.YtabnjiepmhblaaaDoorJ8
namespace Go.Proofs.YtabnjiepmhblaaaDoor
open Go.RowKit Go.Shelf Go.Maps
set_option linter.unusedVariables false

theorem textO_form {l : List UInt8} {at_ p : Int} {t : List UInt8} (h : textO l at_ 24 = some (t, p)) : t.length ≤ 24 ∧ 0 ≤ at_ ∧ at_ ≤ p ∧ p ≤ l.length := by
  unfold textO at h
  cases ht : takeO l at_ with
  | none => rw [ht] at h; cases h
  | some x =>
    obtain ⟨n, c⟩ := x
    rw [ht] at h
    simp only at h
    by_cases hc : 1048576 < n ∨ (24 : Int) < (n : Int) ∨ (l.length : Int) - (at_ + c) < n
    · rw [if_pos hc] at h; cases h
    · rw [if_neg hc] at h
      simp only [Option.some.injEq, Prod.mk.injEq] at h
      obtain ⟨rfl, rfl⟩ := h
      have h0 : 0 ≤ at_ := by
        by_cases e : at_ < 0
        · rw [take_out (.inl e)] at ht; cases ht
        · omega
      refine ⟨?_, h0, by omega, by omega⟩
      rw [List.length_take]
      omega
/-- The column of a name, a kind and a byte that tells whether null may be. -/
def colOf (t : List UInt8) (k nb : UInt8) : Col := ⟨str (t.take 24), (k.toNat : Int), nb == 1, by
  have : (str (t.take 24)).size = (t.take 24).length := by simp [str, ByteArray.size]
  rw [this, List.length_take]; omega⟩
def takeC (l : List UInt8) (at_ : Int) : Option (Col × Int) :=
  match textO l at_ 24 with
  | none => none
  | some (t, p) => if (l.length : Int) < p + 2 then none else if 1 < (l.getD (p.toNat + 1) 0).toNat then none else some (colOf t (l.getD p.toNat 0) (l.getD (p.toNat + 1) 0), p + 2)
theorem takeC_form {l : List UInt8} {at_ p : Int} {c : Col} (h : takeC l at_ = some (c, p)) : 0 ≤ at_ ∧ at_ + 2 ≤ p ∧ p ≤ l.length ∧ c.name.size ≤ 24 ∧ 0 ≤ c.kind ∧ c.kind ≤ 255 := by
  unfold takeC at h
  cases ht : textO l at_ 24 with
  | none => rw [ht] at h; cases h
  | some x =>
    obtain ⟨t, q⟩ := x
    obtain ⟨h1, h2, h3, h4⟩ := textO_form ht
    rw [ht] at h
    simp only at h
    by_cases a : (l.length : Int) < q + 2
    · rw [if_pos a] at h; cases h
    · rw [if_neg a] at h
      by_cases b : 1 < (l.getD (q.toNat + 1) 0).toNat
      · rw [if_pos b] at h; cases h
      · rw [if_neg b] at h
        simp only [Option.some.injEq, Prod.mk.injEq] at h
        obtain ⟨rfl, rfl⟩ := h
        refine ⟨h2, by omega, by omega, ?_, ?_, ?_⟩
        · show (str (t.take 24)).size ≤ 24
          have : (str (t.take 24)).size = (t.take 24).length := by simp [str, ByteArray.size]
          rw [this, List.length_take]; omega
        · show 0 ≤ (((l.getD q.toNat 0).toNat : Nat) : Int); omega
        · show (((l.getD q.toNat 0).toNat : Nat) : Int) ≤ 255
          have := (l.getD q.toNat 0).toNat_lt; omega
/-- So many columns from a place on. -/
def takeCs (l : List UInt8) (at_ : Int) : Nat → Option (List Col × Int)
  | 0 => some ([], at_)
  | k + 1 => match takeCs l at_ k with
    | none => none
    | some (r, p) => match takeC l p with
      | none => none
      | some (c, q) => some (r ++ [c], q)
theorem takeCs_none {l : List UInt8} {at_ : Int} {k : Nat} (h : takeCs l at_ k = none) : ∀ n, k ≤ n → takeCs l at_ n = none := by
  intro n hn
  induction n with
  | zero => obtain rfl : k = 0 := by omega
            exact h
  | succ n ih =>
    by_cases e : k = n + 1
    · rw [← e]; exact h
    · show (match takeCs l at_ n with | none => none | some (r, p) => match takeC l p with | none => none | some (c, q) => some (r ++ [c], q)) = none
      rw [ih (by omega)]
theorem takeCs_form {l : List UInt8} {at_ : Int} (h0 : at_ ≤ l.length) : ∀ {k : Nat} {r : List Col} {p : Int}, takeCs l at_ k = some (r, p) → r.length = k ∧ at_ ≤ p ∧ p ≤ l.length ∧ (∀ c ∈ r, c.name.size ≤ 24 ∧ 0 ≤ c.kind ∧ c.kind ≤ 255)
  | 0, r, p, h => by
    simp only [takeCs, Option.some.injEq, Prod.mk.injEq] at h
    obtain ⟨rfl, rfl⟩ := h
    exact ⟨rfl, Int.le_refl _, h0, fun c hc => by simp at hc⟩
  | k + 1, r, p, h => by
    simp only [takeCs] at h
    cases h1 : takeCs l at_ k with
    | none => rw [h1] at h; cases h
    | some x =>
      obtain ⟨r1, p1⟩ := x
      rw [h1] at h
      simp only at h
      cases h2 : takeC l p1 with
      | none => rw [h2] at h; cases h
      | some y =>
        obtain ⟨c, q⟩ := y
        rw [h2] at h
        simp only [Option.some.injEq, Prod.mk.injEq] at h
        obtain ⟨rfl, rfl⟩ := h
        obtain ⟨a1, a2, a3, a4⟩ := takeCs_form h0 h1
        obtain ⟨b1, b2, b3, b4⟩ := takeC_form h2
        refine ⟨by simp [a1], by omega, by omega, fun d hd => ?_⟩
        rcases List.mem_append.1 hd with hd | hd
        · exact a4 d hd
        · rw [List.mem_singleton.1 hd]; exact b4
/-- Which schema bytes are at a place, and where it ends. -/
def takeS (l : List UInt8) (at_ : Int) : Option (List Col × Int) :=
  match takeO l at_ with
  | none => none
  | some (n, c) => if 16 < n then none else match takeCs l (at_ + c) n with
    | none => none
    | some (r, p) => if rightC r then some (r, p) else none
/-- What a Take of a schema leaves. -/
def TookSc (W : World) (l : List UInt8) (at_ : Int) (e : Ending) (W' : World) : Prop :=
  match takeS l at_ with
  | none => e = .returned (.tuple #[.slice none 0 0, .int .i64 0, .int .i64 52]) ∧ Below W.heap.size W W'
  | some (r, p) => ∃ A cap, e = .returned (.tuple #[.slice A r.length cap, .int .i64 p, .int .i64 0]) ∧ Cols W' A r ∧ (A = none → cap = 0) ∧ r.length ≤ cap ∧ Below W.heap.size W W'
/-- What takeColumn answers. -/
def colR (l : List UInt8) (at_ : Int) : Value := match takeC l at_ with | some (c, p) => .tuple #[colV c, .int .i64 p, .int .i64 0] | none => .tuple #[.agg #[.string ⟨#[]⟩, .int .i64 0, .bool false], .int .i64 0, .int .i64 52]
theorem results_cell3 {fn : Func} {p u v : Tmp} {t : TypeId} (h : fn.results = #[.cell p t, .tmp u, .tmp v]) (tmps : Array Value) (P : Program) (w : World) :
    (results fn tmps).run P w = ((asAddr (tmps.getD p undef)).run P w).andThen fun a w₁ => ((loadVar t a).run P w₁).andThen fun x w₂ => .ok (.tuple #[x, tmps.getD u undef, tmps.getD v undef]) w₂ := by
  simp only [results, h]
  simp [Sem.run_bind, Result.andThen]

theorem szCo : (Tryd.prog.info? 44).map (·.size) = some 3 := by kernel_rfl
theorem one_c (s : ByteArray) (k : Int) (b : Bool) : ∀ v ∈ [Value.string s, Value.int .i64 k, Value.bool b], v.oneCell' = true := by
  intro v hv
  simp at hv
  rcases hv with rfl | rfl | rfl <;> rfl
theorem one_z : ∀ v ∈ [Value.string ⟨#[]⟩, Value.int .i64 0, Value.bool false], v.oneCell' = true := one_c _ _ _

set_option maxRecDepth 100000 in
set_option maxHeartbeats 8000000 in
theorem takecol_any (A : Option Addr) (cap : Nat) (at_ : Int) (l : List UInt8) (W : World) (hb : Byt W A l) (hn : A = none → cap = 0) (hc : l.length ≤ cap) (hm : cap ≤ 9223372036854775807) (hL : l.length ≤ 400000000000000) :
    Calls Tryd.prog 31 #[.slice A l.length cap, .int .i64 at_] W fun e W' => e = .returned (colR l at_) ∧ Below W.heap.size W W' := by
  obtain ⟨W1, hW1⟩ : ∃ x, x = W.alloc (Obj.cells #[Value.string ⟨#[]⟩, Value.int .i64 0, Value.bool false] 44) := ⟨_, rfl⟩
  have hB : Below W.heap.size W W1 := by rw [hW1]; exact (Below.refl _ _).alloc (Nat.le_refl _) _
  have hG : Blk W1 W.heap.size 44 [Value.string ⟨#[]⟩, Value.int .i64 0, Value.bool false] := by rw [hW1]; exact Blk.born W _ _
  have hT := taketext_anyW A cap at_ 24 l W1 (hb.keep hB) hn hc hm hL
  unfold TookT at hT
  have HW1 := Lib.hid hW1
  obtain ⟨N, hN⟩ : ∃ N, W.heap.size = N := ⟨_, rfl⟩
  rw [hN] at hG hB ⊢
  have hNl : N < W1.heap.size := lt_of_block hG
  have HBN := Lib.hid hB
  have HG := Lib.hid hG
  clear hB hW1 hG
  obtain ⟨res, hres⟩ : ∃ res, colR l at_ = res := ⟨_, rfl⟩
  rw [hres]
  unfold colR takeC at hres
  cases ht : textO l at_ 24 with
  | none =>
    rw [ht] at hres
    simp only [txS, txP, txE, ht] at hT
    have HT := Lib.hid hT
    have HRES := Lib.hid hres
    clear hT hres ht hb
    generalize l.length = len at *
    go_enter Tryd.func31, Tryd.ntmps31
    go_wp2_with (first | (rw [← HW1.out]; go_at_call 46; refine HT.out.mono ?_; rintro e w1 ⟨rfl, rfl⟩; clear HT) | (refine st_mid rfl 44 (.tmp 4) (.tmp 34) rfl 3 szCo N 0 44 [Value.string ⟨#[]⟩, Value.int .i64 0, Value.bool false] [Value.string ⟨#[]⟩, Value.int .i64 0, Value.bool false] rfl rfl HG.out rfl (by decide) one_z ?_; intro w3 hb3 hs3; have HB3 := Lib.hid hb3; have HS3 := Lib.hid hs3; clear hb3 hs3))
    have k0 : w3.cell? ⟨N, 0, none⟩ = some (.string ⟨#[]⟩) := (HB3.out.at_ 0).trans rfl
    have k1 : w3.cell? ⟨N, 1, none⟩ = some (.int .i64 0) := (HB3.out.at_ 1).trans rfl
    have k2 : w3.cell? ⟨N, 2, none⟩ = some (.bool false) := (HB3.out.at_ 2).trans rfl
    refine bodyPost_ret (v := res) ?_ rfl ⟨rfl, HS3.out.below HBN.out (Nat.le_refl _)⟩
    rw [← HRES.out, results_cell3 rfl]
    go_simp
  | some x =>
    obtain ⟨t, p⟩ := x
    obtain ⟨f1, f2, f3, f4⟩ := textO_form ht
    rw [ht] at hres
    simp only at hres
    simp only [txS, txP, txE, ht] at hT
    obtain ⟨m, rfl⟩ : ∃ m : Nat, p = (m : Int) := ⟨p.toNat, by omega⟩
    rw [Int.toNat_natCast] at hres
    have htk : t.take 24 = t := List.take_of_length_le (by omega)
    have HT := Lib.hid hT
    clear hT ht f2 f3
    by_cases hp : (l.length : Int) < (m : Int) + 2
    · rw [if_pos hp] at hres
      have HRES := Lib.hid hres
      clear hres hb
      generalize l.length = len at *
      go_enter Tryd.func31, Tryd.ntmps31
      go_wp2_with (first | (rw [← HW1.out]; go_at_call 46; refine HT.out.mono ?_; rintro e w1 ⟨rfl, rfl⟩; clear HT) | (refine st_mid rfl 44 (.tmp 4) (.tmp 34) rfl 3 szCo N 0 44 [Value.string ⟨#[]⟩, Value.int .i64 0, Value.bool false] [Value.string ⟨#[]⟩, Value.int .i64 0, Value.bool false] rfl rfl HG.out rfl (by decide) one_z ?_; intro w3 hb3 hs3; have HB3 := Lib.hid hb3; have HS3 := Lib.hid hs3; clear hb3 hs3))
      have k0 : w3.cell? ⟨N, 0, none⟩ = some (.string ⟨#[]⟩) := (HB3.out.at_ 0).trans rfl
      have k1 : w3.cell? ⟨N, 1, none⟩ = some (.int .i64 0) := (HB3.out.at_ 1).trans rfl
      have k2 : w3.cell? ⟨N, 2, none⟩ = some (.bool false) := (HB3.out.at_ 2).trans rfl
      refine bodyPost_ret (v := res) ?_ rfl ⟨rfl, HS3.out.below HBN.out (Nat.le_refl _)⟩
      rw [← HRES.out, results_cell3 rfl]
      go_simp
    · rw [if_neg hp] at hres
      obtain ⟨b, o, rfl, e0⟩ := hb m (by omega)
      obtain ⟨b', o', e', e1⟩ := hb (m + 1) (by omega)
      simp only [Option.some.injEq, Addr.mk.injEq, and_true] at e'
      obtain ⟨rfl, rfl⟩ := e'
      have hbN : b < N := by rw [← hN]; exact World.block_lt_of_cell? W _ e0
      have c0 := e0
      have c1 := e1
      have d1 := (HBN.out.cell (p := ⟨b, o + (m + 1), none⟩) hbN).trans c1
      have q0 : l.getD m 0 = l[m]'(by omega) := by simp [List.getD, List.getElem?_eq_getElem (show m < l.length by omega)]
      have q1 : l.getD (m + 1) 0 = l[m + 1]'(by omega) := by simp [List.getD, List.getElem?_eq_getElem (show m + 1 < l.length by omega)]
      rw [q0, q1] at hres
      clear q0 q1 e0 e1
      generalize l[m] = kb at c0 hres
      generalize l[m + 1] = nb at c1 d1 hres
      have hkb := kb.toNat_lt
      have hnb := nb.toNat_lt
      by_cases hg : 1 < nb.toNat
      · rw [if_pos hg] at hres
        have HRES := Lib.hid hres
        clear hres hb
        generalize l.length = len at *
        go_enter Tryd.func31, Tryd.ntmps31
        go_wp2_with (first | (rw [← HW1.out]; go_at_call 46; refine HT.out.mono ?_; rintro e w1 ⟨rfl, rfl⟩; clear HT) | (refine st_mid rfl 44 (.tmp 4) (.tmp 34) rfl 3 szCo N 0 44 [Value.string ⟨#[]⟩, Value.int .i64 0, Value.bool false] [Value.string ⟨#[]⟩, Value.int .i64 0, Value.bool false] rfl rfl HG.out rfl (by decide) one_z ?_; intro w3 hb3 hs3; have HB3 := Lib.hid hb3; have HS3 := Lib.hid hs3; clear hb3 hs3))
        have k0 : w3.cell? ⟨N, 0, none⟩ = some (.string ⟨#[]⟩) := (HB3.out.at_ 0).trans rfl
        have k1 : w3.cell? ⟨N, 1, none⟩ = some (.int .i64 0) := (HB3.out.at_ 1).trans rfl
        have k2 : w3.cell? ⟨N, 2, none⟩ = some (.bool false) := (HB3.out.at_ 2).trans rfl
        refine bodyPost_ret (v := res) ?_ rfl ⟨rfl, HS3.out.below HBN.out (Nat.le_refl _)⟩
        rw [← HRES.out, results_cell3 rfl]
        go_simp
      · rw [if_neg hg] at hres
        obtain ⟨nq, hnq⟩ : ∃ nq, (((nb.toNat : Nat) : Int) == 1) = nq := ⟨_, rfl⟩
        have hcol : colV (colOf t kb nb) = .agg #[.string (str t), .int .i64 (kb.toNat : Int), .bool nq] := by
          have e2 : (nb == 1) = nq := by
            rw [← hnq]
            by_cases e : nb = 1
            · subst e; rfl
            · rw [beq_eq_false_iff_ne.2 e]; symm; rw [beq_eq_false_iff_ne]; intro h; exact e (UInt8.toNat_inj.1 (by show nb.toNat = 1; omega))
          unfold colV colOf
          simp only [htk, e2]
        simp only at hres
        rw [hcol] at hres
        have HRES := Lib.hid hres
        have hml : m + 1 < l.length := by omega
        clear hres hb hcol
        generalize hlen : l.length = len at *
        go_enter Tryd.func31, Tryd.ntmps31
        go_upto_region 4 with (first | (rw [← HW1.out]; go_at_call 46; refine HT.out.mono ?_; rintro e w1 ⟨rfl, rfl⟩; clear HT))
        have hS : Below N W W1.drew := HBN.out.drew
        have HGD : Hid (Blk W1.drew N 44 [Value.string ⟨#[]⟩, Value.int .i64 0, Value.bool false]) := HG.out
        refine wpS_start (fun W' => Below N W W') 18 (by kernel_rfl) rfl (fun RG HR => ?_)
        refine wpS_take HR (i := 0) (v := .string (str t)) rfl (by decide +kernel) (by decide +kernel) (by decide +kernel) (fun _ _ _ h => h) (by rfl) hS (fun W hW => by go_simp) ?_
        go_simp
        refine wpS_take HR (i := 1) (v := .slice (some ⟨b, o, none⟩) len cap) rfl (by decide +kernel) (by decide +kernel) (by decide +kernel) (fun _ _ _ h => h) (by rfl) hS (fun W hW => by go_simp) ?_
        go_simp
        refine wpS_take HR (i := 2) (v := .int .i64 (m : Int)) rfl (by decide +kernel) (by decide +kernel) (by decide +kernel) (fun _ _ _ h => h) (by rfl) hS (fun W hW => by go_simp) ?_
        go_simp
        refine wpS_take HR (i := 3) (v := .pointer (some ⟨b, o + m, none⟩)) rfl (by decide +kernel) (by decide +kernel) (by decide +kernel) (fun _ _ _ h => h) (by rfl) hS (fun W hW => by go_simp; intro hx; exact absurd hx (by omega)) ?_
        go_simp
        refine wpS_take HR (i := 4) (v := .int .u8 (kb.toNat : Int)) rfl (by decide +kernel) (by decide +kernel) (by decide +kernel) (fun _ _ _ h => h) (by rfl) hS (fun W hW => by have q := (hW.cell (p := ⟨b, o + m, none⟩) hbN).trans c0; go_simp) ?_
        go_simp
        refine wpS_take HR (i := 5) (v := .int .i64 (kb.toNat : Int)) rfl (by decide +kernel) (by decide +kernel) (by decide +kernel) (fun _ _ _ h => h) (by rfl) hS (fun W hW => by go_simp; exact IntWalk.i64_in _ ⟨by omega, by omega⟩) ?_
        go_simp
        refine wpS_take HR (i := 6) (v := .slice (some ⟨b, o, none⟩) len cap) rfl (by decide +kernel) (by decide +kernel) (by decide +kernel) (fun _ _ _ h => h) (by rfl) hS (fun W hW => by go_simp) ?_
        go_simp
        refine wpS_take HR (i := 7) (v := .int .i64 (m : Int)) rfl (by decide +kernel) (by decide +kernel) (by decide +kernel) (fun _ _ _ h => h) (by rfl) hS (fun W hW => by go_simp) ?_
        go_simp
        refine wpS_take HR (i := 8) (v := .int .i64 ((m : Int) + 1)) rfl (by decide +kernel) (by decide +kernel) (by decide +kernel) (fun _ _ _ h => h) (by rfl) hS (fun W hW => by go_simp; exact IntWalk.i64_in _ ⟨by omega, by omega⟩) ?_
        go_simp
        refine wpS_take HR (i := 9) (v := .pointer (some ⟨b, o + (m + 1), none⟩)) rfl (by decide +kernel) (by decide +kernel) (by decide +kernel) (fun _ _ _ h => h) (by rfl) hS (fun W hW => by first | (go_simp; done) | (go_simp; intro hx; exact absurd hx (by omega)) | (go_simp; rw [if_pos ⟨by omega, by omega⟩]; done)) ?_
        go_simp
        refine wpS_take HR (i := 10) (v := .int .u8 (nb.toNat : Int)) rfl (by decide +kernel) (by decide +kernel) (by decide +kernel) (fun _ _ _ h => h) (by rfl) hS (fun W hW => by have q := (hW.cell (p := ⟨b, o + (m + 1), none⟩) hbN).trans c1; go_simp) ?_
        go_simp
        refine wpS_take HR (i := 11) (v := .bool nq) rfl (by decide +kernel) (by decide +kernel) (by decide +kernel) (fun _ _ _ h => h) (by rfl) hS (fun W hW => by go_simp) ?_
        go_simp
        refine wpS_take HR (i := 12) (v := .agg #[.string (str t), .int .i64 (kb.toNat : Int), .bool nq]) rfl (by decide +kernel) (by decide +kernel) (by decide +kernel) (fun _ _ _ h => h) (by rfl) hS (fun W hW => by go_simp) ?_
        go_simp
        refine wpS_take HR (i := 13) (v := .int .i64 (m : Int)) rfl (by decide +kernel) (by decide +kernel) (by decide +kernel) (fun _ _ _ h => h) (by rfl) hS (fun W hW => by go_simp) ?_
        go_simp
        refine wpS_take HR (i := 14) (v := .int .i64 ((m : Int) + 2)) rfl (by decide +kernel) (by decide +kernel) (by decide +kernel) (fun _ _ _ h => h) (by rfl) hS (fun W hW => by go_simp; exact IntWalk.i64_in _ ⟨by omega, by omega⟩) ?_
        go_simp
        refine wpS_step1 HR (i := 15) (by decide +kernel) ?_
        refine stepS_list HR rfl rfl ?_
        intro K hK
        refine st_mid rfl 44 (.tmp 4) (.tmp 47) rfl 3 szCo N 0 44 [Value.string ⟨#[]⟩, Value.int .i64 0, Value.bool false] [Value.string (str t), Value.int .i64 (kb.toNat : Int), Value.bool nq] rfl rfl HGD.out rfl (by decide) (one_c _ _ _) ?_
        intro w3 hb3 hs3
        have hS3 : Below N W w3 := hs3.below hS (Nat.le_refl _)
        refine wpList_nil (hK _ _ hS3 ?_)
        clear hS hK K
        have hS := hS3
        have HB3 := Lib.hid hb3
        go_simp
        refine wpS_take HR (i := 16) (v := .int .i64 ((m : Int) + 2)) rfl (by decide +kernel) (by decide +kernel) (by decide +kernel) (fun _ _ _ h => h) (by rfl) hS (fun W hW => by go_simp) ?_
        go_simp
        refine wpS_take HR (i := 17) (v := .int .i64 0) rfl (by decide +kernel) (by decide +kernel) (by decide +kernel) (fun _ _ _ h => h) (by rfl) hS (fun W hW => by go_simp) ?_
        go_simp
        refine wpS_done HR (by decide +kernel) ?_
        go_wp2
        have k0 : w3.cell? ⟨N, 0, none⟩ = some (.string (str t)) := (HB3.out.at_ 0).trans rfl
        have k1 : w3.cell? ⟨N, 1, none⟩ = some (.int .i64 (kb.toNat : Int)) := (HB3.out.at_ 1).trans rfl
        have k2 : w3.cell? ⟨N, 2, none⟩ = some (.bool nq) := (HB3.out.at_ 2).trans rfl
        refine bodyPost_ret (v := res) ?_ rfl ⟨rfl, hS⟩
        rw [← HRES.out, results_cell3 rfl]
        go_simp
end Go.Proofs.YtabnjiepmhblaaaDoor
