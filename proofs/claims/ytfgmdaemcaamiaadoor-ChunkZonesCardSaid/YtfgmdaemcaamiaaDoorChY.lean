/- The walk of chunk.Zone. -/
import Derived.Test.YtfgmdaemcaamiaaDoorChZ
import Derived.Test.YtfgmdaemcaamiaaDoorChE
import Derived.Test.YtfgmdaemcaamiaaDoorRowN
import Derived.Test.YtfgmdaemcaamiaaDoorChA
import Derived.Test.YtfgmdaemcaamiaaDoorValC
namespace Go.Proofs.YtfgmdaemcaamiaaDoor
open Go.RowKit Go.Shelf
set_option linter.unusedVariables false
attribute [local go_sem] Oper.semAt_some

theorem zonR_bad {l : List Vl} {k : Nat} (hk : k < l.length) (h : vlR l[k] = false) : zonR l = false := by
  cases hc : zonR l
  · rfl
  · have := (zonR_iff.1 hc).2 l[k] (List.getElem_mem hk); rw [h] at this; cases this
theorem zonR_big {l : List Vl} (h : 1024 < l.length) : zonR l = false := by
  cases hc : zonR l
  · rfl
  · have := (zonR_iff.1 hc).1; omega

theorem below_others8 {w w' : World} (h : Below w.heap.size w w') : KeepsOthers w w' := ⟨h.size, fun k o hk _ => (h.block k (Array.getElem?_eq_some_iff.1 hk).1).trans hk⟩
theorem zend8 {Wd wf w1 : World} {B N : Nat} {I : Prop} (hk : KeepsOthers Wd wf) (h0 : Below w1.heap.size w1 Wd) (h1 : Below w1.heap.size w1 wf) (hN : N ≤ w1.heap.size) (hi : I) : KeepsFrom B Wd wf ∧ Kept8 N N Wd wf ∧ I :=
  ⟨hk.from _, ⟨hk.size, fun k hk _ => (h1.block k (by omega)).trans (h0.block k (by omega)).symm⟩, hi⟩
theorem zone_res {N : Nat} {w : World} {k e : Int} {a b : Vl} (h : Blk w N 32 (zonC k a b)) (tmps : Array Value) (h2 : tmps.getD 2 undef = .pointer (some ⟨N, 0, none⟩)) (h3 : tmps.getD 3 undef = .int .i64 e) :
    (results Tryd.f11 tmps).run Tryd.prog w = .ok (.tuple #[zonV k a b, .int .i64 e]) w := by
  have c0 : w.cell? ⟨N, 0, none⟩ = some (.int .i64 k) := (h.at_ 0).trans rfl
  have c1 : w.cell? ⟨N, 1, none⟩ = some (.int .i64 a.kind) := (h.at_ 1).trans rfl
  have c2 : w.cell? ⟨N, 2, none⟩ = some (.int .i64 a.num) := (h.at_ 2).trans rfl
  have c3 : w.cell? ⟨N, 3, none⟩ = some (.string a.text) := (h.at_ 3).trans rfl
  have c4 : w.cell? ⟨N, 4, none⟩ = some (.int .i64 b.kind) := (h.at_ 4).trans rfl
  have c5 : w.cell? ⟨N, 5, none⟩ = some (.int .i64 b.num) := (h.at_ 5).trans rfl
  have c6 : w.cell? ⟨N, 6, none⟩ = some (.string b.text) := (h.at_ 6).trans rfl
  have h2' : tmps[2]?.getD undef = .pointer (some ⟨N, 0, none⟩) := by simpa using h2
  have h3' : tmps[3]?.getD undef = .int .i64 e := by simpa using h3
  unfold zonV
  simp [results, Tryd.results11, go_sem, h2', h3', c0, c1, c2, c3, c4, c5, c6]

set_option maxRecDepth 100000 in
set_option maxHeartbeats 4000000 in
theorem zone_any (A : Option Addr) (cap : Nat) (l : List Vl) (W : World) (hl : Vls W A l) (hn : l.length ≤ 4000000000000000000) :
    Calls Tryd.prog 11 #[.slice A l.length cap] W fun e W' => e = .returned (zonT l) ∧ Below W.heap.size W W' := by
  obtain ⟨N, hN⟩ : ∃ N, W.heap.size = N := ⟨_, rfl⟩
  obtain ⟨n, hn2⟩ : ∃ n, l.length = n := ⟨_, rfl⟩
  by_cases hbig : 1024 < n
  · have hz : zonR l = false := zonR_big (by omega)
    rw [zonT_no hz, hn2]
    have hb : (1024 : Int) < (n : Int) := by omega
    clear hl hz
    refine (callsIn_wide (n := 10)).1 ?_
    refine callsIn_of_wp_marks Tryd.func11 rfl trivial ?_ rfl
    simp only [Tryd.ntmps11, List.size_toArray, List.length_cons, List.length_nil, Nat.reduceAdd, Nat.reduceSub, Array.replicate_succ, Array.replicate_zero, List.push_toArray, List.append_toArray, List.nil_append, List.cons_append]
    gi_wp2
    exact ⟨.tuple #[zonV 0 nulV nulV, .int .i64 2], zone_res (by rw [← hN]; exact Blk.born W 32 (zonC 0 nulV nulV)) _ rfl rfl, rfl, hN ▸ (Below.refl _ _).alloc (Nat.le_refl _) _⟩
  · have hle : n ≤ 1024 := by omega
    have HNN := Lib.hid hN
    have HLN := Lib.hid hn2
    have HL := Lib.hid hl
    have hb : ¬ (1024 : Int) < (n : Int) := by omega
    obtain ⟨z, hz⟩ : ∃ z, zonR l = z := ⟨_, rfl⟩
    rw [hn2]
    have HZ := Lib.hid hz
    rw [hn2] at hn
    clear hl hn2 hz hbig
    refine (callsIn_wide (n := 10)).1 ?_
    refine callsIn_of_wp_marks Tryd.func11 rfl trivial ?_ rfl
    simp only [Tryd.ntmps11, List.size_toArray, List.length_cons, List.length_nil, Nat.reduceAdd, Nat.reduceSub, Array.replicate_succ, Array.replicate_zero, List.push_toArray, List.append_toArray, List.nil_append, List.cons_append]
    gi_wp2
    have hbz := Blk.born W 32 (zonC 0 nulV nulV)
    have hbe : Below N W (W.alloc (.cells (zonC 0 nulV nulV).toArray 32)) := by rw [← hN]; exact (Below.refl _ _).alloc (Nat.le_refl _) _
    rw [hN] at hbz
    have HBZ := Lib.hid hbz
    have HBE := Lib.hid hbe
    clear hbz hbe
    gi_loopw [5, 14] (fun i x wr => ∃ k : Nat, k ≤ n ∧ x = .int .i64 k ∧ (∀ j (a : j < l.length), j < k → vlR l[j] = true) ∧ Blk wr N 32 (zonC 0 nulV nulV) ∧ Below N W wr) (fun _ x _ => n - (intOf x).toNat)
    case atStart => exact ⟨0, by omega, rfl, fun j _ h => by omega, HBZ.out, HBE.out⟩
    case round =>
      obtain ⟨k, hk, rfl, hall, hbz, hbel⟩ := hrel
      have HALL := Lib.hid hall
      have HBEL := Lib.hid hbel
      have HBZ := Lib.hid hbz
      clear hall hbel hbz
      by_cases hlt : k < n
      · have h1 : k < l.length := by rw [HLN.out]; exact hlt
        obtain ⟨b2, o2, rfl, hvb⟩ := HL.out k h1
        obtain ⟨v0, v1, v2⟩ := hvb.keep HBEL.out (by rw [← HNN.out]; exact hvb.lt)
        have HK : Hid (k < n) := hlt
        have HBAD : Hid (vlR l[k] = false → z = false) := fun h => by rw [← HZ.out]; exact zonR_bad h1 h
        have HGD : Hid (vlR l[k] = true → ∀ j (a : j < l.length), j < k + 1 → vlR l[j] = true) := fun h j a hj => by
          by_cases e : j = k
          · subst e; exact h
          · exact HALL.out j a (by omega)
        clear hvb
        generalize l[k] = v at v0 v1 v2 HBAD HGD
        have hR := fun w => callsIn_wide (n := 9).2 (vright_any v.kind v.num v.text w v.bound)
        unfold vlR at HBAD HGD
        generalize rightB v.kind v.num v.text.toList = bn at hR HBAD HGD
        have HRR := Lib.hid hR
        clear hR h1
        generalize v.kind = kd at v0 HRR
        generalize v.num = nm at v1 HRR
        generalize v.text = tx at v2 HRR
        have hNl := lt_of_block HBZ.out
        have hb0 : Below N W (wr.alloc (Obj.cells #[Value.int .i64 kd, Value.int .i64 nm, Value.string tx] 30)) := (HBEL.out.alloc (by omega) _)
        have HB0 := Lib.hid hb0
        have HBZ2 := Lib.hid (HBZ.out.later (Obj.cells #[Value.int .i64 kd, Value.int .i64 nm, Value.string tx] 30))
        have HNl := Lib.hid hNl
        clear hb0 hNl
        cases bn with
        | false =>
          have HX : Hid (z = false) := HBAD.out rfl
          clear HBAD HGD
          gi_wp2_with (refine ⟨trivial, ?_⟩; gi_at_call 29; refine (HRR.out _).mono ?_; rintro e w1 ⟨rfl, hb1⟩; have HB1 := Lib.hid (HB0.out.trans (hb1.mono (by rw [World.size_alloc]; have := HNl.out; omega))); have hz1 := HBZ2.out.below hb1 (by rw [World.size_alloc]; have := HNl.out; omega); have HZ1 := Lib.hid hz1; clear hb1 hz1; refine Hid.out ?_)
          refine Lib.hid ?_
          gi_wp2_with (refine st_midI rfl 32 (.tmp 2) (.tmp 21) rfl 7 ?c1 N 0 32 (zonC 0 nulV nulV) (zonC 0 nulV nulV) ?c2 ?c3 ?c4 ?c5 ?c6 ?c7 ?c8)
          case c1 => kernel_rfl
          case c2 => rfl
          case c3 => rfl
          case c4 => exact HZ1.out
          case c5 => rfl
          case c6 => decide
          case c7 => decide
          have hz9 : Blk (w1.setCells N 0 (zonC 0 nulV nulV)) N 32 (zonC 0 nulV nulV) := Blk.storesN (zonC 0 nulV nulV) (zonC 0 nulV nulV) 0 w1 HZ1.out
          have hb9 : Below N W (w1.setCells N 0 (zonC 0 nulV nulV)) := Below.storesN (Nat.le_refl _) _ 0 _ HB1.out
          have hre : zonT l = .tuple #[zonV 0 nulV nulV, .int .i64 2] := zonT_no (HZ.out.trans HX.out)
          generalize w1.setCells N 0 (zonC 0 nulV nulV) = w9 at hz9 hb9 ⊢
          have HZ9 := Lib.hid hz9
          have HB9 := Lib.hid hb9
          have HRE := Lib.hid hre
          clear hz9 hb9 hre
          gi_wp2
          refine ⟨.tuple #[zonV 0 nulV nulV, .int .i64 2], zone_res HZ9.out _ rfl rfl, ?_⟩
          exact ⟨by rw [HRE.out], by rw [HNN.out]; exact HB9.out⟩
        | true =>
          have HX := Lib.hid (HGD.out rfl)
          clear HBAD HGD
          gi_wp2_with (refine ⟨trivial, ?_⟩; gi_at_call 29; refine (HRR.out _).mono ?_; rintro e w1 ⟨rfl, hb1⟩; have HB1 := Lib.hid (HB0.out.trans (hb1.mono (by rw [World.size_alloc]; have := HNl.out; omega))); have HZ1 := Lib.hid (HBZ2.out.below hb1 (by rw [World.size_alloc]; have := HNl.out; omega)); clear hb1)
          go_roundw
          case rel => exact ⟨k + 1, HK.out, by go_num, HX.out, HZ1.out, HB1.out⟩
          case measure => have := HK.out; simp [intOf]; omega
      · obtain rfl : k = n := by omega
        have hz1 : zonR l = true := zonR_iff.2 ⟨by rw [HLN.out]; exact hle, fun v hv => by obtain ⟨i, hi, rfl⟩ := List.mem_iff_getElem.1 hv; exact HALL.out i hi (by rw [← HLN.out]; exact hi)⟩
        have hnu := callsIn_wide (n := 9).2 (nulls_any A cap l wr (HL.out.keep (by rw [HNN.out]; exact HBEL.out)) (by rw [HLN.out]; omega))
        rw [HLN.out] at hnu
        have HNU := Lib.hid hnu
        have HZ1 := Lib.hid hz1
        have hNl := lt_of_block HBZ.out
        have HNl := Lib.hid hNl
        clear hnu hz1 hNl
        gi_wp2_with (first | (refine ⟨trivial, ?_⟩; gi_at_call 17; refine HNU.out.mono ?_; rintro e w1 ⟨rfl, hb1⟩; have HB1 := Lib.hid hb1; clear hb1 HNU) | (refine ⟨trivial, ?_⟩; gi_at_call 30; refine (others_fn 9 A k cap _).mono ?_; rintro e w3 ⟨rfl, rfl⟩))
        obtain ⟨X, hX⟩ : ∃ X, w1.heap.size = X := ⟨_, rfl⟩
        obtain ⟨W4, hW4⟩ : ∃ x, x = (w1.alloc (Obj.cells #[Value.int .i64 (nulN l : Int), Value.int .i64 0, Value.int .i64 0, Value.string ⟨#[]⟩, Value.int .i64 0, Value.int .i64 0, Value.string ⟨#[]⟩] 32)).alloc (Obj.cells #[Value.slice A k cap] 22) := ⟨_, rfl⟩
        have hW5 : W4 = allocs8 w1 [Obj.cells (zonC (nulN l) nulV nulV).toArray 32, Obj.cells [Value.slice A k cap].toArray 22] := hW4
        rw [← hW4]
        have hb0 : Blk W4 X 32 (zonC (nulN l) nulV nulV) := by rw [hW5, ← hX]; exact allocs8_blk _ w1 0 _ _ rfl
        have hb1 : Blk W4 (X + 1) 22 [Value.slice A k cap] := by rw [hW5, ← hX]; exact allocs8_blk _ w1 1 _ _ rfl
        have bel : Below w1.heap.size w1 W4 := by rw [hW5]; exact allocs8_below _ w1 w1 _ (Nat.le_refl _) (Below.refl _ _)
        have s4 : W4.heap.size = X + 2 := by rw [hW5, allocs8_size, hX]; rfl
        have hNX : N < X := by rw [← hX]; exact Nat.lt_of_lt_of_le HNl.out HB1.out.size
        have hln := HLN.out
        have hol : (notN id l).length ≤ k := by rw [← hln]; exact List.length_filter_le _ _
        have hww : Below W.heap.size W W4 := by
          have h1 : Below W.heap.size W w1 := by rw [HNN.out]; exact HBEL.out.trans (HB1.out.mono (by have := HNl.out; omega))
          exact h1.trans (bel.mono h1.size)
        clear hW4 hW5
        rw [hX]
        refine wpIn_rangeFunc_ownH rfl (by omega) (gf := 51) (lb := #[.pointer (some ⟨X + 1, 0, none⟩)]) rfl trivial (enters_of Tryd.func51 (by kernel_rfl) rfl)
          (oth_stops id 9 (by omega) (X + 1) N N A cap l (by omega) W4 (by omega) (by omega) (by rw [hln]; exact (hb1.at_ 0).trans rfl)
            (fun j hj => by
              obtain ⟨b, o, e, g3⟩ := HL.out j hj
              have hlt := g3.lt
              exact ⟨b, o, e, by rw [← HNN.out]; exact hlt, by have := HNN.out; omega, g3.keep hww hlt⟩))
          Kept8.trans (Kept8.putObj (by omega)) (Below.refl _ _) (fun _ => rfl)
          (fun pre Wd => Blk Wd X 32 (zonC (nulN l) (minZ pre) (maxZ pre)) ∧ Blk Wd (X + 1) 22 [Value.slice A k cap] ∧ Below w1.heap.size w1 Wd)
          (fun c pre Wd => False)
          (fun s A B row hs hg hr => by
            obtain ⟨h1, h2, h5⟩ := hs
            have hw : ∀ r, row = some r → ∃ o : Obj, A.heap[r]? = some o ∧ o.isCells = false := fun r e => (hr r e).2
            exact ⟨(grownBy_keeps_cells hg hw h1 rfl).trans h1, (grownBy_keeps_cells hg hw h2 rfl).trans h2, (ownFrom_below (Nat.le_refl _) (by omega) : OwnFrom W4.heap.size (fun (_ : Unit) Y => Below w1.heap.size w1 Y)) () A B row h5 hg hr⟩)
          (fun c => fun s A B row hs hg hr => hs)
          ⟨hb0, hb1, bel⟩
          (fun x a' Wd => ∃ g, X + 2 ≤ g ∧ a' = { tmps := #[Value.slice A k cap, undef, Value.pointer (some ⟨N, 0, none⟩), u3, undef, u5, Value.pointer (some ⟨X, 0, none⟩), .pointer (some ⟨g, 0, none⟩), Value.slice A k cap, Value.int IntKind.i64 (k : Int), Value.bool false, undef, Value.slice A k cap, Value.int IntKind.i64 (k : Int), Value.int IntKind.i64 (k : Int), Value.bool false, u16, u17, u18, u19, u20, u21, u22, Value.slice A k cap, Value.int IntKind.i64 (nulN l : Int), Value.agg #[Value.int IntKind.i64 (nulN l : Int), Value.int IntKind.i64 0, Value.int IntKind.i64 0, Value.string ⟨#[]⟩, Value.int IntKind.i64 0, Value.int IntKind.i64 0, Value.string ⟨#[]⟩], Value.slice A k cap, Value.func (Fn.func 51) #[] #[Value.pointer (some ⟨X + 1, 0, none⟩)], vlV x, undef, undef, undef, undef, undef, undef, undef, undef, undef, undef, undef, undef, undef, undef, undef, undef, undef, undef, undef, undef, undef], defers := [] } ∧ Blk Wd g 30 (vlC x))
          (fun x a' => fun s A B row hs hg hr => by obtain ⟨g, hg0, ha, hb⟩ := hs; exact ⟨g, hg0, ha, (grownBy_keeps_cells hg (fun r e => (hr r e).2) hb rfl).trans hb⟩) ?assign ?body ?done ?stop
        case assign =>
          rintro l0 pre x Wd K ⟨hz, hb3, hbel⟩ hK
          have hsz : X + 2 ≤ Wd.heap.size := by have := lt_of_block hb3; omega
          have hka := Kept8.alloc (B := N) (n₀ := N) (w := Wd) (by omega) (Obj.cells (vlC x).toArray 30)
          have hkf : KeepsFrom W4.heap.size Wd (Wd.alloc (Obj.cells (vlC x).toArray 30)) := KeepsFrom.of_grownBy (World.grownBy_alloc Wd _ none) (fun k e => by cases e)
          have hK2 := hK _ _ hkf hka ⟨hz.later _, hb3.later _, hbel.alloc hbel.size _⟩ ⟨Wd.heap.size, hsz, rfl, Blk.born Wd _ _⟩
          clear hK hka hkf hz hb3 hbel
          unfold vlV vlC at hK2
          simp only [id]
          unfold vlV
          gi_wp2
          exact hK2
        case body =>
          rintro l0 pre x a' Wd hl0 hrec ⟨hz, hb3, hbel⟩ ⟨g, hg0, rfl, hbx⟩ hlt2
          have HMN := Lib.hid (minZ_snoc pre x)
          have HMX := Lib.hid (maxZ_snoc pre x)
          generalize minZ pre = a at *
          generalize maxZ pre = b at *
          have hda : minS a x = if a.kind = 0 ∨ cmp8 x a < 0 then x else a := rfl
          have hdb : maxS b x = if 0 < cmp8 x b then x else b := rfl
          have hca := fun w => CallsIn.inRound l0 (callsIn_wide (n := 7).2 (compare_any x.kind x.num x.text a.kind a.num a.text w))
          have hcb := fun w => CallsIn.inRound l0 (callsIn_wide (n := 7).2 (compare_any x.kind x.num x.text b.kind b.num b.text w))
          rw [show cmpV x.kind x.num x.text.toList a.kind a.num a.text.toList = cmp8 x a from rfl] at hca
          rw [show cmpV x.kind x.num x.text.toList b.kind b.num b.text.toList = cmp8 x b from rfl] at hcb
          obtain ⟨ca, hcae⟩ : ∃ c, cmp8 x a = c := ⟨_, rfl⟩
          obtain ⟨cb, hcbe⟩ : ∃ c, cmp8 x b = c := ⟨_, rfl⟩
          rw [hcae] at hca hda
          rw [hcbe] at hcb hdb
          have HCA := Lib.hid hca
          have HCB := Lib.hid hcb
          have HZ0 := Lib.hid hz
          have HBX := Lib.hid hbx
          have HB3 := Lib.hid hb3
          have HBD := Lib.hid hbel
          clear hca hcb hcae hcbe hbel hb3 hrec hww
          unfold vlV
          have x0 : Wd.cell? ⟨g, 0, none⟩ = some (.int .i64 x.kind) := (hbx.at_ 0).trans rfl
          have x1 : Wd.cell? ⟨g, 1, none⟩ = some (.int .i64 x.num) := (hbx.at_ 1).trans rfl
          have x2 : Wd.cell? ⟨g, 2, none⟩ = some (.string x.text) := (hbx.at_ 2).trans rfl
          have a0 : Wd.cell? ⟨X, 1, none⟩ = some (.int .i64 a.kind) := (hz.at_ 1).trans rfl
          have a1 : Wd.cell? ⟨X, 2, none⟩ = some (.int .i64 a.num) := (hz.at_ 2).trans rfl
          have a2 : Wd.cell? ⟨X, 3, none⟩ = some (.string a.text) := (hz.at_ 3).trans rfl
          have b0 : Wd.cell? ⟨X, 4, none⟩ = some (.int .i64 b.kind) := (hz.at_ 4).trans rfl
          have b1 : Wd.cell? ⟨X, 5, none⟩ = some (.int .i64 b.num) := (hz.at_ 5).trans rfl
          have b2 : Wd.cell? ⟨X, 6, none⟩ = some (.string b.text) := (hz.at_ 6).trans rfl
          have hXl := lt_of_block hz
          have hgl := lt_of_block hbx
          clear hz hbx
          have HDA := Lib.hid hda
          have HDB := Lib.hid hdb
          have KO0 := Lib.hid (KeepsOthers.refl Wd)
          clear hda hdb
          have HBX0 := HBX
          have HB30 := HB3
          have HBD0 := HBD
          by_cases ha0 : a.kind = 0
          · have HEA : Hid (minS a x = x) := by show _ = _; rw [HDA.out, if_pos (.inl ha0)]
            clear HDA
            have q0 : (a.kind == 0) = true := by rw [ha0]; rfl
            clear ha0
            gi_wp2_with fail
            refine ⟨trivial, ?_⟩
            clear a0 a1 a2 b0 b1 b2
            gi_wp2_with (refine st_midI rfl 30 (.tmp 41) (.tmp 40) rfl 3 ?h1 X 1 32 (zonC (nulN l) a b) (vlC x) ?h2 ?h3 ?h4 ?h5 ?h6 ?h7 (Hid.out ?h8))
            case h1 => kernel_rfl
            case h2 => rfl
            case h3 => rfl
            case h4 => exact HZ0.out
            case h5 => rfl
            case h6 => show 1 + 3 ≤ 7; omega
            case h7 => intro v hv; simp [vlC] at hv; rcases hv with rfl | rfl | rfl <;> rfl
            refine Lib.hid ?_
            have HZ6 : Hid (Blk (Wd.setCells X 1 (vlC x)) X 32 (zonC (nulN l) x b)) := Blk.storesN (vlC x) (zonC (nulN l) a b) 1 Wd HZ0.out
            have HBX6 := Lib.hid (HBX0.out.apartN (g := X) (by omega) (vlC x) 1)
            have HB36 := Lib.hid (HB30.out.apartN (g := X) (by omega) (vlC x) 1)
            have HBD6 := Lib.hid (Below.storesN (g := X) (by rw [hX]; exact Nat.le_refl _) (vlC x) 1 _ HBD0.out)
            have KO6 := Lib.hid (KeepsOthers.storesN (g := X) (vlC x) 1 _ KO0.out)
            clear x0 x1 x2
            generalize Wd.setCells X 1 (vlC x) = w6 at HZ6 HBX6 HB36 HBD6 KO6 ⊢
            have x0 : w6.cell? ⟨g, 0, none⟩ = some (.int .i64 x.kind) := (HBX6.out.at_ 0).trans rfl
            have x1 : w6.cell? ⟨g, 1, none⟩ = some (.int .i64 x.num) := (HBX6.out.at_ 1).trans rfl
            have x2 : w6.cell? ⟨g, 2, none⟩ = some (.string x.text) := (HBX6.out.at_ 2).trans rfl
            have b0 : w6.cell? ⟨X, 4, none⟩ = some (.int .i64 b.kind) := (HZ6.out.at_ 4).trans rfl
            have b1 : w6.cell? ⟨X, 5, none⟩ = some (.int .i64 b.num) := (HZ6.out.at_ 5).trans rfl
            have b2 : w6.cell? ⟨X, 6, none⟩ = some (.string b.text) := (HZ6.out.at_ 6).trans rfl
            gi_wp2_with (refine ⟨trivial, ?_⟩; gi_at_call 31; refine (HCB.out _).mono ?_; rintro e w7 ⟨rfl, hbw7⟩; have Kw7 := Lib.hid hbw7; clear hbw7; refine Hid.out ?_)
            refine Lib.hid ?_
            have HZ7 := Lib.hid (HZ6.out.below Kw7.out (lt_of_block HZ6.out))
            have HBX7 := Lib.hid (HBX6.out.below Kw7.out (lt_of_block HBX6.out))
            have HB37 := Lib.hid (HB36.out.below Kw7.out (lt_of_block HB36.out))
            have HBD7 := Lib.hid (HBD6.out.trans (Kw7.out.mono HBD6.out.size))
            have KO7 := Lib.hid (KO6.out.trans (below_others8 Kw7.out))
            clear x0 x1 x2 b0 b1 b2
            have x0 : w7.cell? ⟨g, 0, none⟩ = some (.int .i64 x.kind) := (HBX7.out.at_ 0).trans rfl
            have x1 : w7.cell? ⟨g, 1, none⟩ = some (.int .i64 x.num) := (HBX7.out.at_ 1).trans rfl
            have x2 : w7.cell? ⟨g, 2, none⟩ = some (.string x.text) := (HBX7.out.at_ 2).trans rfl
            have b0 : w7.cell? ⟨X, 4, none⟩ = some (.int .i64 b.kind) := (HZ7.out.at_ 4).trans rfl
            have b1 : w7.cell? ⟨X, 5, none⟩ = some (.int .i64 b.num) := (HZ7.out.at_ 5).trans rfl
            have b2 : w7.cell? ⟨X, 6, none⟩ = some (.string b.text) := (HZ7.out.at_ 6).trans rfl
            by_cases hcb : 0 < cb
            · have HEB : Hid (maxS b x = x) := by show _ = _; rw [HDB.out, if_pos hcb]
              clear HDB
              gi_wp2_with (refine st_midI rfl 30 (.tmp 48) (.tmp 47) rfl 3 ?d1 X 4 32 (zonC (nulN l) x b) (vlC x) ?d2 ?d3 ?d4 ?d5 ?d6 ?d7 (Hid.out ?d8))
              case d1 => kernel_rfl
              case d2 => rfl
              case d3 => rfl
              case d4 => exact HZ7.out
              case d5 => rfl
              case d6 => show 4 + 3 ≤ 7; omega
              case d7 => intro v hv; simp [vlC] at hv; rcases hv with rfl | rfl | rfl <;> rfl
              refine Lib.hid ?_
              have HZ8 : Hid (Blk (w7.setCells X 4 (vlC x)) X 32 (zonC (nulN l) x x)) := Blk.storesN (vlC x) (zonC (nulN l) x b) 4 w7 HZ7.out
              have HBX8 := Lib.hid (HBX7.out.apartN (g := X) (by omega) (vlC x) 4)
              have HB38 := Lib.hid (HB37.out.apartN (g := X) (by omega) (vlC x) 4)
              have HBD8 := Lib.hid (Below.storesN (g := X) (by rw [hX]; exact Nat.le_refl _) (vlC x) 4 _ HBD7.out)
              have KO8 := Lib.hid (KeepsOthers.storesN (g := X) (vlC x) 4 _ KO7.out)
              clear x0 x1 x2 b0 b1 b2
              generalize w7.setCells X 4 (vlC x) = w8 at HZ8 HBX8 HB38 HBD8 KO8 ⊢
              gi_wp2
              exact zend8 KO8.out HBD0.out HBD8.out (by rw [hX]; omega) (by show Blk _ X _ (zonC _ (minZ (pre ++ [x])) (maxZ (pre ++ [x]))) ∧ _ ∧ _; rw [HMN.out, HMX.out, HEA.out, HEB.out]; exact ⟨HZ8.out, HB38.out, by first | exact HBD8.out | (rw [← hX]; exact HBD8.out)⟩)
            · have HEB : Hid (maxS b x = b) := by show _ = _; rw [HDB.out, if_neg hcb]
              clear HDB
              gi_wp2
              exact zend8 KO7.out HBD0.out HBD7.out (by rw [hX]; omega) (by show Blk _ X _ (zonC _ (minZ (pre ++ [x])) (maxZ (pre ++ [x]))) ∧ _ ∧ _; rw [HMN.out, HMX.out, HEA.out, HEB.out]; exact ⟨HZ7.out, HB37.out, by first | exact HBD7.out | (rw [← hX]; exact HBD7.out)⟩)
          · have q0 : (a.kind == 0) = false := by rw [beq_eq_false_iff_ne]; exact ha0
            gi_wp2_with (refine ⟨trivial, ?_⟩; gi_at_call 31; refine (HCA.out _).mono ?_; rintro e w5 ⟨rfl, hbw5⟩; have Kw5 := Lib.hid hbw5; clear hbw5; refine Hid.out ?_)
            refine Lib.hid ?_
            have HZ5 := Lib.hid (HZ0.out.below Kw5.out (lt_of_block HZ0.out))
            have HBX5 := Lib.hid (HBX0.out.below Kw5.out (lt_of_block HBX0.out))
            have HB35 := Lib.hid (HB30.out.below Kw5.out (lt_of_block HB30.out))
            have HBD5 := Lib.hid (HBD0.out.trans (Kw5.out.mono HBD0.out.size))
            have KO5 := Lib.hid (KO0.out.trans (below_others8 Kw5.out))
            clear a0 a1 a2 x0 x1 x2 b0 b1 b2
            have x0 : w5.cell? ⟨g, 0, none⟩ = some (.int .i64 x.kind) := (HBX5.out.at_ 0).trans rfl
            have x1 : w5.cell? ⟨g, 1, none⟩ = some (.int .i64 x.num) := (HBX5.out.at_ 1).trans rfl
            have x2 : w5.cell? ⟨g, 2, none⟩ = some (.string x.text) := (HBX5.out.at_ 2).trans rfl
            have b0 : w5.cell? ⟨X, 4, none⟩ = some (.int .i64 b.kind) := (HZ5.out.at_ 4).trans rfl
            have b1 : w5.cell? ⟨X, 5, none⟩ = some (.int .i64 b.num) := (HZ5.out.at_ 5).trans rfl
            have b2 : w5.cell? ⟨X, 6, none⟩ = some (.string b.text) := (HZ5.out.at_ 6).trans rfl
            by_cases hca : ca < 0
            · have HEA : Hid (minS a x = x) := by show _ = _; rw [HDA.out, if_pos (.inr hca)]
              clear HDA
              gi_wp2_with (refine st_midI rfl 30 (.tmp 41) (.tmp 40) rfl 3 ?e1 X 1 32 (zonC (nulN l) a b) (vlC x) ?e2 ?e3 ?e4 ?e5 ?e6 ?e7 (Hid.out ?e8))
              case e1 => kernel_rfl
              case e2 => rfl
              case e3 => rfl
              case e4 => exact HZ5.out
              case e5 => rfl
              case e6 => show 1 + 3 ≤ 7; omega
              case e7 => intro v hv; simp [vlC] at hv; rcases hv with rfl | rfl | rfl <;> rfl
              refine Lib.hid ?_
              have HZ6 : Hid (Blk (w5.setCells X 1 (vlC x)) X 32 (zonC (nulN l) x b)) := Blk.storesN (vlC x) (zonC (nulN l) a b) 1 w5 HZ5.out
              have HBX6 := Lib.hid (HBX5.out.apartN (g := X) (by omega) (vlC x) 1)
              have HB36 := Lib.hid (HB35.out.apartN (g := X) (by omega) (vlC x) 1)
              have HBD6 := Lib.hid (Below.storesN (g := X) (by rw [hX]; exact Nat.le_refl _) (vlC x) 1 _ HBD5.out)
              have KO6 := Lib.hid (KeepsOthers.storesN (g := X) (vlC x) 1 _ KO5.out)
              clear x0 x1 x2 b0 b1 b2
              generalize w5.setCells X 1 (vlC x) = w6 at HZ6 HBX6 HB36 HBD6 KO6 ⊢
              have x0 : w6.cell? ⟨g, 0, none⟩ = some (.int .i64 x.kind) := (HBX6.out.at_ 0).trans rfl
              have x1 : w6.cell? ⟨g, 1, none⟩ = some (.int .i64 x.num) := (HBX6.out.at_ 1).trans rfl
              have x2 : w6.cell? ⟨g, 2, none⟩ = some (.string x.text) := (HBX6.out.at_ 2).trans rfl
              have b0 : w6.cell? ⟨X, 4, none⟩ = some (.int .i64 b.kind) := (HZ6.out.at_ 4).trans rfl
              have b1 : w6.cell? ⟨X, 5, none⟩ = some (.int .i64 b.num) := (HZ6.out.at_ 5).trans rfl
              have b2 : w6.cell? ⟨X, 6, none⟩ = some (.string b.text) := (HZ6.out.at_ 6).trans rfl
              gi_wp2_with (refine ⟨trivial, ?_⟩; gi_at_call 31; refine (HCB.out _).mono ?_; rintro e w7 ⟨rfl, hbw7⟩; have Kw7 := Lib.hid hbw7; clear hbw7; refine Hid.out ?_)
              refine Lib.hid ?_
              have HZ7 := Lib.hid (HZ6.out.below Kw7.out (lt_of_block HZ6.out))
              have HBX7 := Lib.hid (HBX6.out.below Kw7.out (lt_of_block HBX6.out))
              have HB37 := Lib.hid (HB36.out.below Kw7.out (lt_of_block HB36.out))
              have HBD7 := Lib.hid (HBD6.out.trans (Kw7.out.mono HBD6.out.size))
              have KO7 := Lib.hid (KO6.out.trans (below_others8 Kw7.out))
              clear x0 x1 x2 b0 b1 b2
              have x0 : w7.cell? ⟨g, 0, none⟩ = some (.int .i64 x.kind) := (HBX7.out.at_ 0).trans rfl
              have x1 : w7.cell? ⟨g, 1, none⟩ = some (.int .i64 x.num) := (HBX7.out.at_ 1).trans rfl
              have x2 : w7.cell? ⟨g, 2, none⟩ = some (.string x.text) := (HBX7.out.at_ 2).trans rfl
              have b0 : w7.cell? ⟨X, 4, none⟩ = some (.int .i64 b.kind) := (HZ7.out.at_ 4).trans rfl
              have b1 : w7.cell? ⟨X, 5, none⟩ = some (.int .i64 b.num) := (HZ7.out.at_ 5).trans rfl
              have b2 : w7.cell? ⟨X, 6, none⟩ = some (.string b.text) := (HZ7.out.at_ 6).trans rfl
              by_cases hcb : 0 < cb
              · have HEB : Hid (maxS b x = x) := by show _ = _; rw [HDB.out, if_pos hcb]
                clear HDB
                gi_wp2_with (refine st_midI rfl 30 (.tmp 48) (.tmp 47) rfl 3 ?f1 X 4 32 (zonC (nulN l) x b) (vlC x) ?f2 ?f3 ?f4 ?f5 ?f6 ?f7 (Hid.out ?f8))
                case f1 => kernel_rfl
                case f2 => rfl
                case f3 => rfl
                case f4 => exact HZ7.out
                case f5 => rfl
                case f6 => show 4 + 3 ≤ 7; omega
                case f7 => intro v hv; simp [vlC] at hv; rcases hv with rfl | rfl | rfl <;> rfl
                refine Lib.hid ?_
                have HZ8 : Hid (Blk (w7.setCells X 4 (vlC x)) X 32 (zonC (nulN l) x x)) := Blk.storesN (vlC x) (zonC (nulN l) x b) 4 w7 HZ7.out
                have HBX8 := Lib.hid (HBX7.out.apartN (g := X) (by omega) (vlC x) 4)
                have HB38 := Lib.hid (HB37.out.apartN (g := X) (by omega) (vlC x) 4)
                have HBD8 := Lib.hid (Below.storesN (g := X) (by rw [hX]; exact Nat.le_refl _) (vlC x) 4 _ HBD7.out)
                have KO8 := Lib.hid (KeepsOthers.storesN (g := X) (vlC x) 4 _ KO7.out)
                clear x0 x1 x2 b0 b1 b2
                generalize w7.setCells X 4 (vlC x) = w8 at HZ8 HBX8 HB38 HBD8 KO8 ⊢
                gi_wp2
                exact zend8 KO8.out HBD0.out HBD8.out (by rw [hX]; omega) (by show Blk _ X _ (zonC _ (minZ (pre ++ [x])) (maxZ (pre ++ [x]))) ∧ _ ∧ _; rw [HMN.out, HMX.out, HEA.out, HEB.out]; exact ⟨HZ8.out, HB38.out, by first | exact HBD8.out | (rw [← hX]; exact HBD8.out)⟩)
              · have HEB : Hid (maxS b x = b) := by show _ = _; rw [HDB.out, if_neg hcb]
                clear HDB
                gi_wp2
                exact zend8 KO7.out HBD0.out HBD7.out (by rw [hX]; omega) (by show Blk _ X _ (zonC _ (minZ (pre ++ [x])) (maxZ (pre ++ [x]))) ∧ _ ∧ _; rw [HMN.out, HMX.out, HEA.out, HEB.out]; exact ⟨HZ7.out, HB37.out, by first | exact HBD7.out | (rw [← hX]; exact HBD7.out)⟩)
            · have HEA : Hid (minS a x = a) := by show _ = _; rw [HDA.out, if_neg (by rintro (h | h); exact ha0 h; exact hca h)]
              clear HDA
              gi_wp2_with (refine ⟨trivial, ?_⟩; gi_at_call 31; refine (HCB.out _).mono ?_; rintro e w7 ⟨rfl, hbw7⟩; have Kw7 := Lib.hid hbw7; clear hbw7; refine Hid.out ?_)
              refine Lib.hid ?_
              have HZ7 := Lib.hid (HZ5.out.below Kw7.out (lt_of_block HZ5.out))
              have HBX7 := Lib.hid (HBX5.out.below Kw7.out (lt_of_block HBX5.out))
              have HB37 := Lib.hid (HB35.out.below Kw7.out (lt_of_block HB35.out))
              have HBD7 := Lib.hid (HBD5.out.trans (Kw7.out.mono HBD5.out.size))
              have KO7 := Lib.hid (KO5.out.trans (below_others8 Kw7.out))
              clear x0 x1 x2 b0 b1 b2
              have x0 : w7.cell? ⟨g, 0, none⟩ = some (.int .i64 x.kind) := (HBX7.out.at_ 0).trans rfl
              have x1 : w7.cell? ⟨g, 1, none⟩ = some (.int .i64 x.num) := (HBX7.out.at_ 1).trans rfl
              have x2 : w7.cell? ⟨g, 2, none⟩ = some (.string x.text) := (HBX7.out.at_ 2).trans rfl
              have b0 : w7.cell? ⟨X, 4, none⟩ = some (.int .i64 b.kind) := (HZ7.out.at_ 4).trans rfl
              have b1 : w7.cell? ⟨X, 5, none⟩ = some (.int .i64 b.num) := (HZ7.out.at_ 5).trans rfl
              have b2 : w7.cell? ⟨X, 6, none⟩ = some (.string b.text) := (HZ7.out.at_ 6).trans rfl
              by_cases hcb : 0 < cb
              · have HEB : Hid (maxS b x = x) := by show _ = _; rw [HDB.out, if_pos hcb]
                clear HDB
                gi_wp2_with (refine st_midI rfl 30 (.tmp 48) (.tmp 47) rfl 3 ?g1 X 4 32 (zonC (nulN l) a b) (vlC x) ?g2 ?g3 ?g4 ?g5 ?g6 ?g7 (Hid.out ?g8))
                case g1 => kernel_rfl
                case g2 => rfl
                case g3 => rfl
                case g4 => exact HZ7.out
                case g5 => rfl
                case g6 => show 4 + 3 ≤ 7; omega
                case g7 => intro v hv; simp [vlC] at hv; rcases hv with rfl | rfl | rfl <;> rfl
                refine Lib.hid ?_
                have HZ8 : Hid (Blk (w7.setCells X 4 (vlC x)) X 32 (zonC (nulN l) a x)) := Blk.storesN (vlC x) (zonC (nulN l) a b) 4 w7 HZ7.out
                have HBX8 := Lib.hid (HBX7.out.apartN (g := X) (by omega) (vlC x) 4)
                have HB38 := Lib.hid (HB37.out.apartN (g := X) (by omega) (vlC x) 4)
                have HBD8 := Lib.hid (Below.storesN (g := X) (by rw [hX]; exact Nat.le_refl _) (vlC x) 4 _ HBD7.out)
                have KO8 := Lib.hid (KeepsOthers.storesN (g := X) (vlC x) 4 _ KO7.out)
                clear x0 x1 x2 b0 b1 b2
                generalize w7.setCells X 4 (vlC x) = w8 at HZ8 HBX8 HB38 HBD8 KO8 ⊢
                gi_wp2
                exact zend8 KO8.out HBD0.out HBD8.out (by rw [hX]; omega) (by show Blk _ X _ (zonC _ (minZ (pre ++ [x])) (maxZ (pre ++ [x]))) ∧ _ ∧ _; rw [HMN.out, HMX.out, HEA.out, HEB.out]; exact ⟨HZ8.out, HB38.out, by first | exact HBD8.out | (rw [← hX]; exact HBD8.out)⟩)
              · have HEB : Hid (maxS b x = b) := by show _ = _; rw [HDB.out, if_neg hcb]
                clear HDB
                gi_wp2
                exact zend8 KO7.out HBD0.out HBD7.out (by rw [hX]; omega) (by show Blk _ X _ (zonC _ (minZ (pre ++ [x])) (maxZ (pre ++ [x]))) ∧ _ ∧ _; rw [HMN.out, HMX.out, HEA.out, HEB.out]; exact ⟨HZ7.out, HB37.out, by first | exact HBD7.out | (rw [← hX]; exact HBD7.out)⟩)
        case done =>
          rintro D ys Wd hD rfl ⟨hz, hb3, hbel⟩ hK
          have e0 : notN id l = othL l := rfl
          rw [e0] at hz
          have hzN : Blk Wd N 32 (zonC 0 nulV nulV) := (HBZ.out.below HB1.out HNl.out).below hbel (by omega)
          have HZR := Lib.hid (zonT_yes HZ1.out)
          have hBW : Below W.heap.size W Wd := by rw [HNN.out]; exact (HBEL.out.trans (HB1.out.mono (by have := HNl.out; omega))).trans (hbel.mono (by omega))
          have HBW := Lib.hid hBW
          have HK := Lib.hid hK
          have HZN := Lib.hid hzN
          generalize minZ (othL l) = a at *
          generalize maxZ (othL l) = b at *
          have a0 : Wd.cell? ⟨X, 0, none⟩ = some (.int .i64 (nulN l : Int)) := (hz.at_ 0).trans rfl
          have a1 : Wd.cell? ⟨X, 1, none⟩ = some (.int .i64 a.kind) := (hz.at_ 1).trans rfl
          have a2 : Wd.cell? ⟨X, 2, none⟩ = some (.int .i64 a.num) := (hz.at_ 2).trans rfl
          have a3 : Wd.cell? ⟨X, 3, none⟩ = some (.string a.text) := (hz.at_ 3).trans rfl
          have b0 : Wd.cell? ⟨X, 4, none⟩ = some (.int .i64 b.kind) := (hz.at_ 4).trans rfl
          have b1 : Wd.cell? ⟨X, 5, none⟩ = some (.int .i64 b.num) := (hz.at_ 5).trans rfl
          have b2 : Wd.cell? ⟨X, 6, none⟩ = some (.string b.text) := (hz.at_ 6).trans rfl
          clear hz hb3 hbel hK hBW hzN hww bel
          gi_wp2_with (with_reducible refine st_midI rfl 32 (.tmp 2) (.tmp 49) rfl 7 ?i1 N 0 32 (zonC 0 nulV nulV) (zonC (nulN l) a b) ?i2 ?i3 ?i4 ?i5 ?i6 ?i7 (Hid.out ?i8))
          case i1 => kernel_rfl
          case i2 => rfl
          case i3 => rfl
          case i4 => exact HZN.out
          case i5 => rfl
          case i6 => show 0 + 7 ≤ 7; omega
          case i7 => intro v hv; simp [zonC] at hv; rcases hv with rfl | rfl | rfl | rfl | rfl | rfl | rfl <;> rfl
          refine Lib.hid ?_
          have HZ9 : Hid (Blk (Wd.setCells N 0 (zonC (nulN l) a b)) N 32 (zonC (nulN l) a b)) := Blk.storesN (zonC (nulN l) a b) (zonC 0 nulV nulV) 0 Wd HZN.out
          have HB9 := Lib.hid (Below.storesN (g := N) (by rw [HNN.out]; exact Nat.le_refl _) (zonC (nulN l) a b) 0 _ HBW.out)
          have hND : N ≠ D := by omega
          have HK9 := Lib.hid ((heap_storesN (g := N) (Ne.symm hND) (zonC (nulN l) a b) 0 Wd).trans HK.out)
          clear a0 a1 a2 a3 b0 b1 b2
          generalize Wd.setCells N 0 (zonC (nulN l) a b) = w9 at HZ9 HB9 HK9 ⊢
          gi_wp2
          have hDl : D < w9.heap.size := (Array.getElem?_eq_some_iff.1 HK9.out).1
          refine ⟨by simp, .inl ⟨_, _, rfl, run_takeDeferred HK9.out, ?_⟩⟩
          have hB2 : Below W.heap.size W (w9.putObj D (Obj.deferred none)) := HB9.out.trans (belowK_b (w := W) (Nat.le_refl _) w9 D _ _ (by have := HNN.out; omega) HK9.out rfl rfl)
          have hz9 : Blk (w9.putObj D (Obj.deferred none)) N 32 (zonC (nulN l) a b) := (World.putObj_heap_other hND).trans HZ9.out
          refine ⟨.tuple #[zonV (nulN l) a b, .int .i64 0], zone_res hz9 _ rfl rfl, ?_⟩
          exact ⟨by rw [HZR.out], hB2⟩
        case stop =>
          rintro D c pre Wd hD hpre hf hK
          exact hf.elim
end Go.Proofs.YtfgmdaemcaamiaaDoor
