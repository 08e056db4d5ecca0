/- The walk of pack.Unpack (20): bytes of the length that is asked for. -/
import Derived.Test.YtdchaojgldfagaaDoorPbM
import Derived.Test.YtdchaojgldfagaaDoorPbQ
import Derived.Test.YtdchaojgldfagaaDoorPaQ
import Derived.Test.YtdchaojgldfagaaDoorPaY
namespace Go.Proofs.YtdchaojgldfagaaDoor
open Go.RowKit Go.Shelf
set_option linter.unusedVariables false
attribute [local go_sem] Oper.semAt_some

theorem n64s_at {l : List W64} {k : Nat} (hk : k < l.length) : (n64s l)[k]? = some (.int .u64 ((l.getD k 0).toNat : Int)) := by simp [n64s, hk]
theorem n64s_set (l : List W64) (i : Nat) (x : W64) : (n64s l).set i (.int .u64 (x.toNat : Int)) = n64s (l.set i x) := by simp [n64s, List.map_set]
theorem made_n64 (k : Nat) : madeCells (Value.int .u64 0).cells k = (n64s (List.replicate k 0)).toArray := by
  apply Array.ext'
  apply List.ext_getElem
  · simp [madeCells, n64s]
  · intro i h1 h2
    have e1 : i % 1 = 0 := Nat.mod_one i
    simp [madeCells, n64s, Value.cells, e1]
theorem mk_in22 {F : Fence} {n : Nat} {ops : Array Oper} {rest : List Oper} {o : Oper} {a : Act} {Q : Exit → Act → World → Prop} {w : World} (hgd : o.guard = none) (l c : Operand)
    (hop : o.op = Op.makeSlice 63 l c) (k : Nat) (hl : a.eval l = .int .i64 (k : Int)) (hc : a.eval c = .int .i64 (k : Int)) (hsz : k ≤ 281474976710)
    (h : wpListIn F n Tryd.prog ops Q rest (a.put o.dst (.slice (some ⟨w.heap.size, 0, none⟩) k k)) (w.alloc (.cells (n64s (List.replicate k 0)).toArray 46))) : wpListIn F n Tryd.prog ops Q (o :: rest) a w := by
  obtain ⟨i0, hti, hz0, hz1, hz2⟩ := info_parts info52
  have hr := run_make (P := Tryd.prog) w 63 46 i0 (.int .u64 0) Tryd.underlying63 hti hz0 .i64 .i64 k k (by omega) (by omega) (by rw [hz2]; omega) (by omega)
  simp only [Int.toNat_natCast] at hr
  rw [hz1, Nat.mul_one, made_n64] at hr
  refine wpListIn_plain hgd fun K hK' => ?_
  unfold Oper.wpIn
  refine ⟨?_, ?_⟩
  · simp [Oper.about, hop]
  · rw [Oper.semAt_plain F _ _ (by rw [hop]; intro c hc'; cases hc')]
    simp [execOp, hop, hl, hc, hr, Result.andThen]
    exact hK' _ _ h

/-- Blocks that are made one behind the other. -/
def allocs : World → List Obj → World
  | w, [] => w
  | w, o :: t => allocs (w.alloc o) t
theorem allocs_size : ∀ (os : List Obj) (w : World), (allocs w os).heap.size = w.heap.size + os.length
  | [], w => rfl
  | o :: t, w => by rw [allocs, allocs_size t, World.size_alloc, List.length_cons]; omega
theorem allocs_below : ∀ (os : List Obj) (w w0 : World) (n : Nat), n ≤ w.heap.size → Below n w0 w → Below n w0 (allocs w os)
  | [], w, w0, n, _, h => h
  | o :: t, w, w0, n, hn, h => allocs_below t _ _ _ (by rw [World.size_alloc]; omega) (h.alloc hn o)
theorem allocs_blk : ∀ (os : List Obj) (w : World) (i : Nat) (t : TypeId) (cs : List Value), os[i]? = some (.cells cs.toArray t) → Blk (allocs w os) (w.heap.size + i) t cs
  | [], w, i, t, cs, h => by simp at h
  | o :: os, w, 0, t, cs, h => by
    obtain rfl : o = .cells cs.toArray t := by simpa using h
    exact (Blk.born w t cs).below (allocs_below os _ _ _ (Nat.le_refl _) (Below.refl _ _)) (by rw [World.size_alloc]; omega)
  | o :: os, w, i + 1, t, cs, h => by
    have := allocs_blk os (w.alloc o) i t cs (by simpa using h)
    rw [World.size_alloc] at this
    rw [show w.heap.size + (i + 1) = w.heap.size + 1 + i by omega]
    exact this

/-- What Unpack hands back for bytes of the right length. -/
def UnR (W : World) (n w : Nat) (b : List UInt8) (e : Ending) (W' : World) : Prop :=
  (fitB (n * w) b = true ∧ ∃ g, e = .returned (.tuple #[.slice (some ⟨g, 0, none⟩) n n, .int .i64 0]) ∧ W.heap.size ≤ g ∧ Blk W' g 46 (n64s (unL w n (bitsB b))) ∧ Below W.heap.size W W') ∨
  (fitB (n * w) b = false ∧ e = .returned (.tuple #[.slice none 0 0, .int .i64 10]) ∧ Below W.heap.size W W')

set_option maxRecDepth 100000 in
set_option maxHeartbeats 4000000 in
theorem unpack_good (n w : Nat) (A : Option Addr) (cap : Nat) (b : List UInt8) (W : World) (hb : Byt W A b) (hn : n ≤ 4096) (hw : w ≤ 64) (hlen : b.length = (n * w + 7) / 8) (hT : TabAt W) :
    Calls Tryd.prog 61 #[.slice A b.length cap, .int .i64 (n : Int), .int .i64 (w : Int)] W (UnR W n w b) := by
  unfold UnR
  obtain ⟨N, hN⟩ : ∃ N, W.heap.size = N := ⟨_, rfl⟩
  rw [hN]
  obtain ⟨M, hM⟩ : ∃ M, n * w = M := ⟨_, rfl⟩
  have hM1 : M ≤ 262144 := by
    rw [← hM]
    have := Nat.mul_le_mul hn hw
    omega
  obtain ⟨sz, hsz⟩ : ∃ sz, b.length = sz := ⟨_, rfl⟩
  obtain ⟨xs, hxs⟩ := lift_fin (8 * sz) (posAt 8 0 (b.map UInt8.toNat)) (by rw [← hsz]; exact posB_lt b)
  have hszM : sz = (M + 7) / 8 := by rw [← hM, ← hlen, hsz]
  rw [hM]
  have h2N : 0 < N := by have := World.block_lt_of_cell? W _ (hT 0 (by omega)); rw [← hN]; exact this
  have hbyt : bytAt W (N + 4) (N + 8) A b := by
    intro k hk
    obtain ⟨b, o, e, hc⟩ := hb k hk
    have := World.block_lt_of_cell? W _ hc
    have hbN : b < N := by rw [← hN]; exact this
    exact ⟨b, o, e, by omega, by omega, hc⟩
  have hsize : ∀ W : World, Calls Tryd.prog 55 #[.int .i64 (n : Int), .int .i64 (w : Int)] W fun e W' => e = .returned (.tuple #[.int .i64 (sz : Int), .int .i64 0]) ∧ W' = W := by
    intro W
    have h := size_any (n : Int) (w : Int) W
    rw [sizeR_good (by omega), show ((n : Int) * (w : Int) + 7) / 8 = (sz : Int) by rw [hszM, ← hM]; simp] at h
    exact h
  have HSZ : Hid (∀ W : World, CallsIn Fence.wide 9 Tryd.prog 55 #[.int .i64 (n : Int), .int .i64 (w : Int)] W fun e W' => e = .returned (.tuple #[.int .i64 (sz : Int), .int .i64 0]) ∧ W' = W) := fun W => callsIn_wide.2 (hsize W)
  have hsz2 : M ≤ 8 * sz := by omega
  have hsz3 : sz ≤ 32769 := by omega
  have HT := Lib.hid hT
  have HBYT := Lib.hid hbyt
  have HM := Lib.hid hM
  have HNN := Lib.hid hN
  have HBL := Lib.hid hsz
  have HSM := Lib.hid hszM
  have hfit := fitB_iff M b
  have HFIT := Lib.hid hfit
  rw [hsz]
  clear hsize hT hbyt hM hsz hb hlen hszM hfit
  refine (callsIn_wide (n := 10)).1 ?_
  refine callsIn_of_wp_marks Tryd.func61 rfl trivial ?_ rfl
  simp only [Tryd.ntmps61, List.size_toArray, List.length_cons, List.length_nil, Nat.reduceAdd, Nat.reduceSub, Array.replicate_succ, Array.replicate_zero, List.push_toArray, List.append_toArray, List.nil_append, List.cons_append]
  gi_wp2_with (first | (refine ⟨trivial, ?_⟩; gi_at_call 55; refine (HSZ.out _).mono ?_; rintro e w1 ⟨rfl, rfl⟩) | (gi_at_make; refine mk_in22 rfl _ _ rfl n rfl rfl (by omega) ?_) | (refine ⟨trivial, ?_⟩; gi_at_call 66; refine (ones34 9 8 A sz cap _).mono ?_; rintro e w2 ⟨rfl, rfl⟩))
  simp only [Nat.add_assoc, Nat.reduceAdd]
  obtain ⟨W4, hW4⟩ : ∃ x, x = allocs W [Obj.cells [Value.int IntKind.i64 (n : Int)].toArray 3, Obj.cells [Value.int IntKind.i64 (w : Int)].toArray 3, Obj.cells [Value.slice none 0 0].toArray 63, Obj.cells [Value.int IntKind.i64 0].toArray 25, Obj.cells (n64s (List.replicate n 0)).toArray 46, Obj.cells [Value.slice (some ⟨N + 4, 0, none⟩) n n].toArray 63, Obj.cells [Value.int IntKind.i64 8].toArray 3, Obj.cells [Value.slice A sz cap].toArray 24] := ⟨_, rfl⟩
  have hb0 : Blk W4 N 3 [Value.int IntKind.i64 (n : Int)] := by rw [hW4, ← HNN.out]; exact allocs_blk _ W 0 _ _ rfl
  have hb1 : Blk W4 (N + 1) 3 [Value.int IntKind.i64 (w : Int)] := by rw [hW4, ← HNN.out]; exact allocs_blk _ W 1 _ _ rfl
  have hb2 : Blk W4 (N + 2) 63 [Value.slice none 0 0] := by rw [hW4, ← HNN.out]; exact allocs_blk _ W 2 _ _ rfl
  have hb3 : Blk W4 (N + 3) 25 [Value.int IntKind.i64 0] := by rw [hW4, ← HNN.out]; exact allocs_blk _ W 3 _ _ rfl
  have hb4 : Blk W4 (N + 4) 46 (n64s (unL w n (fun _ => false))) := by rw [hW4, ← HNN.out, unL_none]; exact allocs_blk _ W 4 _ _ rfl
  have hb5 : Blk W4 (N + 5) 63 [Value.slice (some ⟨N + 4, 0, none⟩) n n] := by rw [hW4, ← HNN.out]; exact allocs_blk _ W 5 _ _ rfl
  have hb6 : Blk W4 (N + 6) 3 [Value.int IntKind.i64 8] := by rw [hW4, ← HNN.out]; exact allocs_blk _ W 6 _ _ rfl
  have hb7 : Blk W4 (N + 7) 24 [Value.slice A sz cap] := by rw [hW4, ← HNN.out]; exact allocs_blk _ W 7 _ _ rfl
  have bel : Below N W W4 := by rw [hW4]; exact allocs_below _ W W N (by rw [HNN.out]; omega) (Below.refl _ _)
  have s4 : W4.heap.size = N + 8 := by rw [hW4, allocs_size, HNN.out]; rfl
  have hbl := HBL.out
  change Code.wpIn Fence.wide 10 Tryd.prog _ _ _ (allocs W [Obj.cells [Value.int IntKind.i64 (n : Int)].toArray 3, Obj.cells [Value.int IntKind.i64 (w : Int)].toArray 3, Obj.cells [Value.slice none 0 0].toArray 63, Obj.cells [Value.int IntKind.i64 0].toArray 25, Obj.cells (n64s (List.replicate n 0)).toArray 46, Obj.cells [Value.slice (some ⟨N + 4, 0, none⟩) n n].toArray 63, Obj.cells [Value.int IntKind.i64 8].toArray 3, Obj.cells [Value.slice A sz cap].toArray 24])
  rw [← hW4]
  clear hW4
  refine wpIn_rangeFunc_ownF rfl (by omega) (gf := 68) (lb := #[.pointer (some ⟨N + 7, 0, none⟩), .pointer (some ⟨N + 6, 0, none⟩)]) rfl trivial (enters_of Tryd.func68 (by kernel_rfl) rfl)
    (ones_stops43 9 (by omega) (N + 7) (N + 6) (N + 4) (N + 8) A cap 8 (8 * sz) b xs hxs (by omega) (by omega) (by omega) W4 (by omega) (by omega) (by omega) (by omega) (by rw [hbl]; exact (hb7.at_ 0).trans rfl) ((hb6.at_ 0).trans rfl)
      (fun k hk => by obtain ⟨b, o, e, h1, h2, h3⟩ := HBYT.out k hk; have hb := World.block_lt_of_cell? W _ h3; exact ⟨b, o, e, h1, h2, (bel.cell (p := ⟨b, o + k, none⟩) (by rw [← HNN.out]; exact hb)).trans h3⟩)
      (HT.out.below bel h2N) (by omega) (by omega))
    Kept.trans (Kept.putObj (by omega)) (Below.refl _ _) (fun _ => rfl)
    (fun pre Wd => (Blk Wd N 3 [Value.int IntKind.i64 (n : Int)] ∧ Blk Wd (N + 1) 3 [Value.int IntKind.i64 (w : Int)] ∧ Blk Wd (N + 2) 63 [Value.slice none 0 0] ∧ Blk Wd (N + 3) 25 [Value.int IntKind.i64 0] ∧ Blk Wd (N + 4) 46 (n64s (unL w n (fun i => decide (i ∈ pre.map Fin.val)))) ∧ Blk Wd (N + 5) 63 [Value.slice (some ⟨N + 4, 0, none⟩) n n]) ∧ (∀ p ∈ pre, p.val < M) ∧ Below N W Wd)
    (fun c pre Wd => (c = .ret ∧ ∃ p ∈ pre, M ≤ p.val) ∧ (Blk Wd (N + 2) 63 [Value.slice none 0 0] ∧ Blk Wd (N + 3) 25 [Value.int IntKind.i64 10]) ∧ Below N W Wd)
    (OwnFrom.and (Own.from (fun s A B row hs hg hr => ⟨(grownBy_keeps_cells hg hr hs.1 rfl).trans hs.1, (grownBy_keeps_cells hg hr hs.2.1 rfl).trans hs.2.1, (grownBy_keeps_cells hg hr hs.2.2.1 rfl).trans hs.2.2.1, (grownBy_keeps_cells hg hr hs.2.2.2.1 rfl).trans hs.2.2.2.1, (grownBy_keeps_cells hg hr hs.2.2.2.2.1 rfl).trans hs.2.2.2.2.1, (grownBy_keeps_cells hg hr hs.2.2.2.2.2 rfl).trans hs.2.2.2.2.2⟩) _) (OwnFrom.and (ownFrom_pure _ _) (ownFrom_below (by omega) (by omega))))
    (fun c => OwnFrom.and (ownFrom_pure _ _) (OwnFrom.and (Own.from (fun s A B row hs hg hr => ⟨(grownBy_keeps_cells hg hr hs.1 rfl).trans hs.1, (grownBy_keeps_cells hg hr hs.2 rfl).trans hs.2⟩) _) (ownFrom_below (by omega) (by omega))))
    ⟨⟨hb0, hb1, hb2, hb3, by simpa using hb4, hb5⟩, by simp, bel⟩
    (fun x => { tmps := #[Value.slice A sz cap, Value.int IntKind.i64 (n : Int), Value.int IntKind.i64 (w : Int), undef,
          Value.pointer (some ⟨N, 0, none⟩), Value.pointer (some ⟨N + 1, 0, none⟩),
          Value.pointer (some ⟨N + 2, 0, none⟩),
          Value.pointer (some ⟨N + 3, 0, none⟩), Value.int IntKind.i64 (sz : Int), Value.int IntKind.i64 0,
          Value.pointer (some ⟨N + 5, 0, none⟩), .int .i64 (x.val : Int),
          Value.tuple #[Value.int IntKind.i64 (sz : Int), Value.int IntKind.i64 0], Value.int IntKind.i64 (n : Int),
          Value.int IntKind.i64 (w : Int), Value.tuple #[Value.int IntKind.i64 (sz : Int), Value.int IntKind.i64 0],
          Value.int IntKind.i64 (sz : Int), Value.int IntKind.i64 0, Value.int IntKind.i64 0, Value.bool false, undef,
          Value.slice A sz cap, Value.int IntKind.i64 (sz : Int), Value.int IntKind.i64 (sz : Int), Value.bool false,
          Value.int IntKind.i64 (n : Int), Value.slice (some ⟨N + 4, 0, none⟩) n n,
          Value.slice A sz cap,
          Value.func (Fn.func 68) #[]
            #[Value.pointer (some ⟨N + 7, 0, none⟩),
              Value.pointer (some ⟨N + 6, 0, none⟩)],
          .int .i64 (x.val : Int), undef, undef, undef, undef, undef, undef, undef, undef, undef, undef, undef, undef, undef, undef,
          undef, undef, undef, undef], defers := [] }) ?assign ?body ?done ?stop
  case assign =>
    intro l x W K hK
    gi_wp2
    exact hK
  case body =>
    rintro l pre x Wd ⟨⟨hb0, hb1, hb2, hb3, hb4, hb5⟩, hlt1, hbel⟩ hlt2
    have hxM := x.isLt
    obtain ⟨v, hv⟩ : ∃ v, x.val = v := ⟨_, rfl⟩
    have hc0 : Wd.cell? ⟨N, 0, none⟩ = some (.int .i64 (n : Int)) := (hb0.at_ 0).trans rfl
    have hc1 : Wd.cell? ⟨N + 1, 0, none⟩ = some (.int .i64 (w : Int)) := (hb1.at_ 0).trans rfl
    have enw : (n : Int) * (w : Int) = (M : Int) := by rw [← HM.out]; simp
    have hwM : IntKind.i64.wrap (M : Int) = (M : Int) := wrap_i64_of (by omega) (by omega)
    by_cases hvM : v < M
    · have hq1 : ¬ (M : Int) ≤ (v : Int) := by omega
      have hw0 : 0 < w := by
        apply Nat.pos_of_ne_zero
        intro h; subst h; have := HM.out; simp at this; omega
      obtain ⟨j, hj⟩ : ∃ j, v / w = j := ⟨_, rfl⟩
      obtain ⟨r, hr⟩ : ∃ r, v % w = r := ⟨_, rfl⟩
      have hjn : j < n := by rw [← hj]; exact (Nat.div_lt_iff_lt_mul hw0).2 (by rw [HM.out]; exact hvM)
      have hrw : r < w := by rw [← hr]; exact Nat.mod_lt v hw0
      have hjr : j * w + r = v := by rw [← hj, ← hr, Nat.mul_comm, Nat.div_add_mod]
      have hset2 := unL_set (n := n) hw (fun i => decide (i ∈ pre.map Fin.val)) hjn hrw
      have hget2 := unL_get (w := w) (fun i => decide (i ∈ pre.map Fin.val)) hjn
      have hsnoc : unL w n (fun i => decide (i ∈ (pre ++ [x]).map Fin.val)) = unL w n (fun i => decide (i ∈ pre.map Fin.val) || i == v) := by
        apply unL_congr
        intro i _
        rw [Bool.eq_iff_iff]
        rw [decide_eq_true_iff, Bool.or_eq_true, decide_eq_true_iff, beq_iff_eq, List.map_append, List.mem_append, List.map_cons, List.map_nil, List.mem_singleton, hv]
      rw [hjr, ← hsnoc] at hset2
      have hpl := unL_len w n (fun i => decide (i ∈ pre.map Fin.val))
      generalize (fun i => decide (i ∈ pre.map Fin.val)) = P at hb4 hset2 hget2 hpl
      have hread : Wd.drew.cell? ⟨N + 4, j, none⟩ = some (.int .u64 ((nuP w P j).toNat : Int)) := by
        have h := hb4.at_ j
        rw [n64s_at (by rw [hpl]; exact hjn), hget2] at h
        exact h
      have hfree : Wd.drew.frozen? ⟨N + 4, j, none⟩ = false := hb4.free j
      have hbox5 : Wd.drew.cell? ⟨N + 5, 0, none⟩ = some (.slice (some ⟨N + 4, 0, none⟩) n n) := (hb5.at_ 0).trans rfl
      have hbox1 : Wd.drew.cell? ⟨N + 1, 0, none⟩ = some (.int .i64 (w : Int)) := hc1
      have d0 : (0 : Int) ≤ (v : Int) := by omega
      have d1 : (v : Int) / (w : Int) = (j : Int) := by rw [← hj]; simp
      have d1' : (v : Int).tdiv (w : Int) = (j : Int) := by rw [Int.tdiv_eq_ediv_of_nonneg d0]; exact d1
      have d2 : (v : Int) % (w : Int) = (r : Int) := by rw [← hr]; simp
      have d3 : (v : Int).tmod (w : Int) = (r : Int) := by rw [Int.tmod_eq_emod_of_nonneg d0]; exact d2
      have wz : ((w : Int) == 0) = false := by simp; omega
      have wz2 : ¬ (w : Int) = 0 := by omega
      have wz3 : ¬ w = 0 := by omega
      have j0 : (0 : Int) ≤ (j : Int) := by omega
      have j1 : (j : Int) < (n : Int) := by omega
      have r0 : (0 : Int) ≤ (r : Int) := by omega
      have r1 : (r : Int) < 64 := by omega
      have hwj : IntKind.i64.wrap (j : Int) = (j : Int) := wrap_i64_of (by omega) (by omega)
      have h2r : 2 ^ r < 2 ^ 64 := Nat.pow_lt_pow_right (by decide) (by omega)
      obtain ⟨sh, hsh⟩ : ∃ sh, BitVec.ofNat 64 (2 ^ r) = sh := ⟨_, rfl⟩
      have hshn : 2 ^ r = sh.toNat := by rw [← hsh, BitVec.toNat_ofNat]; exact (Nat.mod_eq_of_lt h2r).symm
      rw [hsh] at hset2
      generalize nuP w P j = by0 at hread hset2
      have hor := bits_or64 by0 sh
      have hshw : IntKind.u64.wrap ((2 : Int) ^ r) = (sh.toNat : Int) := by
        have e : ((2 : Int) ^ r) = ((2 ^ r : Nat) : Int) := by simp
        rw [e, hshn]
        exact wrap_u64_bv sh
      have hmx : Tryd.prog.follows .mixedOrders = true := by kernel_rfl
      have HV := Lib.hid hv
      have HLT := Lib.hid hlt1
      have HBEL := Lib.hid hbel
      have HSET := Lib.hid hset2
      have HB4 := Lib.hid hb4
      have HBS := Lib.hid (And.intro hb0 (And.intro hb1 (And.intro hb2 (And.intro hb3 hb5))))
      have hvX : (x.val : Int) = (v : Int) := by rw [hv]
      rw [hv]
      clear hv hlt1 hbel hset2 hb4 hb0 hb1 hb2 hb3 hb5 hj hr hjr hget2 hsnoc hpl hsh h2r hshn hvX
      gi_wp2
      have HEND : KeepsOthers Wd (Wd.setCell ⟨N + 4, j, none⟩ (.int .u64 ((by0.toNat ||| sh.toNat : Nat) : Int))).drew ∧ Kept (N + 4) (N + 8) Wd (Wd.setCell ⟨N + 4, j, none⟩ (.int .u64 ((by0.toNat ||| sh.toNat : Nat) : Int))).drew ∧ (Blk (Wd.setCell ⟨N + 4, j, none⟩ (.int .u64 ((by0.toNat ||| sh.toNat : Nat) : Int))).drew N 3 [Value.int IntKind.i64 (n : Int)] ∧ Blk (Wd.setCell ⟨N + 4, j, none⟩ (.int .u64 ((by0.toNat ||| sh.toNat : Nat) : Int))).drew (N + 1) 3 [Value.int IntKind.i64 (w : Int)] ∧ Blk (Wd.setCell ⟨N + 4, j, none⟩ (.int .u64 ((by0.toNat ||| sh.toNat : Nat) : Int))).drew (N + 2) 63 [Value.slice none 0 0] ∧ Blk (Wd.setCell ⟨N + 4, j, none⟩ (.int .u64 ((by0.toNat ||| sh.toNat : Nat) : Int))).drew (N + 3) 25 [Value.int IntKind.i64 0] ∧ Blk (Wd.setCell ⟨N + 4, j, none⟩ (.int .u64 ((by0.toNat ||| sh.toNat : Nat) : Int))).drew (N + 4) 46 (n64s (unL w n (fun i => decide (i ∈ (pre ++ [x]).map Fin.val)))) ∧ Blk (Wd.setCell ⟨N + 4, j, none⟩ (.int .u64 ((by0.toNat ||| sh.toNat : Nat) : Int))).drew (N + 5) 63 [Value.slice (some ⟨N + 4, 0, none⟩) n n]) ∧ (∀ p ∈ pre ++ [x], p.val < M) ∧ Below N W (Wd.setCell ⟨N + 4, j, none⟩ (.int .u64 ((by0.toNat ||| sh.toNat : Nat) : Int))).drew := by
        have hst := HB4.out.store j (.int .u64 ((by0 ||| sh).toNat : Int))
        rw [n64s_set, HSET.out, BitVec.toNat_or] at hst
        have hso : Sole (N + 4) Wd (Wd.setCell ⟨N + 4, j, none⟩ (.int .u64 ((by0.toNat ||| sh.toNat : Nat) : Int))).drew := ((Sole.refl (N + 4) Wd).setCell j _).drew
        refine ⟨(KeepsOthers.setCell _ _ _).trans (KeepsOthers.drew _), fun k _ hB => hso.block k hB, ⟨HBS.out.1.sole hso (by omega), HBS.out.2.1.sole hso (by omega), HBS.out.2.2.1.sole hso (by omega), HBS.out.2.2.2.1.sole hso (by omega), hst, HBS.out.2.2.2.2.sole hso (by omega)⟩, ?_, hso.below HBEL.out (by omega)⟩
        intro p hp
        rcases List.mem_append.1 hp with hp | hp
        · exact HLT.out p hp
        · rw [List.mem_singleton] at hp
          rw [hp, HV.out]; exact hvM
      refine tame_region 13 hmx (by kernel_rfl) rfl ?_
      refine wpAnyIn_take (i := 1) (v := .int .i64 (v : Int)) rfl rfl (by kernel_rfl) (by kernel_rfl) (by kernel_rfl) (fun _ _ _ h => h) ⟨Or.inl ⟨by rfl, by intro w; go_simp⟩, fun _ => rfl⟩ ?_
      go_simp
      refine wpAnyIn_take (i := 6) (v := .int .i64 (v : Int)) rfl rfl (by kernel_rfl) (by kernel_rfl) (by kernel_rfl) (fun _ _ _ h => h) ⟨Or.inl ⟨by rfl, by intro w; go_simp⟩, fun _ => rfl⟩ ?_
      go_simp
      refine wpAnyIn_ready (rs := [0, 2, 7]) (by kernel_rfl) (by simp) (AllReadyIn.cons rfl (fun K hK => ?_) (AllReadyIn.cons rfl (fun K hK => ?_) (AllReadyIn.cons rfl (fun K hK => ?_) AllReadyIn.nil)))
      · go_simp
        refine hK _ _ ?_
        clear hK K
        refine wpAnyIn_ready (rs := [2, 7]) (by kernel_rfl) (by simp) (AllReadyIn.cons rfl (fun K hK => ?_) (AllReadyIn.cons rfl (fun K hK => ?_) AllReadyIn.nil))
        · go_simp
          refine hK _ _ ?_
          clear hK K
          refine wpAnyIn_take (i := 3) (v := .int .i64 (j : Int)) rfl rfl (by kernel_rfl) (by kernel_rfl) (by kernel_rfl) (fun _ _ _ h => h) ⟨Or.inl ⟨by rfl, by intro w; go_simp⟩, fun _ => rfl⟩ ?_
          go_simp
          refine wpAnyIn_take (i := 4) (v := .pointer (some ⟨N + 4, j, none⟩)) rfl rfl (by kernel_rfl) (by kernel_rfl) (by kernel_rfl) (fun _ _ _ h => h) ⟨Or.inl ⟨by rfl, by intro w; go_simp⟩, fun _ => rfl⟩ ?_
          go_simp
          refine wpAnyIn_ready (rs := [5, 7]) (by kernel_rfl) (by simp) (AllReadyIn.cons rfl (fun K hK => ?_) (AllReadyIn.cons rfl (fun K hK => ?_) AllReadyIn.nil))
          · go_simp
            refine hK _ _ ?_
            clear hK K
            refine wpAnyIn_ready (rs := [7]) (by kernel_rfl) (by simp) (AllReadyIn.cons rfl (fun K hK => ?_) AllReadyIn.nil)
            go_simp
            refine hK _ _ ?_
            clear hK K
            refine wpAnyIn_take (i := 8) (v := .int .i64 (r : Int)) rfl rfl (by kernel_rfl) (by kernel_rfl) (by kernel_rfl) (fun _ _ _ h => h) ⟨Or.inl ⟨by rfl, by intro w; go_simp⟩, fun _ => rfl⟩ ?_
            go_simp
            refine wpAnyIn_take (i := 9) (v := .int .u64 (sh.toNat : Int)) rfl rfl (by kernel_rfl) (by kernel_rfl) (by kernel_rfl) (fun _ _ _ h => h) ⟨Or.inl ⟨by rfl, by intro w; go_simp⟩, fun _ => rfl⟩ ?_
            go_simp
            refine wpAnyIn_take (i := 10) (v := .int .u64 ((by0 ||| sh).toNat : Int)) rfl rfl (by kernel_rfl) (by kernel_rfl) (by kernel_rfl) (fun _ _ _ h => h) ⟨Or.inl ⟨by rfl, by intro w; go_simp⟩, fun _ => rfl⟩ ?_
            go_simp
            refine wpAnyIn_take (i := 11) (v := .pointer (some ⟨N + 4, j, none⟩)) rfl rfl (by kernel_rfl) (by kernel_rfl) (by kernel_rfl) (fun _ _ _ h => h) ⟨Or.inl ⟨by rfl, by intro w; go_simp⟩, fun _ => rfl⟩ ?_
            go_simp
            refine wpAnyIn_ready (rs := [12]) (by kernel_rfl) (by simp) (AllReadyIn.cons rfl (fun K hK => ?_) AllReadyIn.nil)
            go_simp
            refine hK _ _ ?_
            clear hK K
            refine wpAnyIn_done (by kernel_rfl) ?_ _
            exact HEND
          · go_simp
            refine hK _ _ ?_
            clear hK K
            refine wpAnyIn_take (i := 8) (v := .int .i64 (r : Int)) rfl rfl (by kernel_rfl) (by kernel_rfl) (by kernel_rfl) (fun _ _ _ h => h) ⟨Or.inl ⟨by rfl, by intro w; go_simp⟩, fun _ => rfl⟩ ?_
            go_simp
            refine wpAnyIn_take (i := 9) (v := .int .u64 (sh.toNat : Int)) rfl rfl (by kernel_rfl) (by kernel_rfl) (by kernel_rfl) (fun _ _ _ h => h) ⟨Or.inl ⟨by rfl, by intro w; go_simp⟩, fun _ => rfl⟩ ?_
            go_simp
            refine wpAnyIn_ready (rs := [5]) (by kernel_rfl) (by simp) (AllReadyIn.cons rfl (fun K hK => ?_) AllReadyIn.nil)
            go_simp
            refine hK _ _ ?_
            clear hK K
            refine wpAnyIn_take (i := 10) (v := .int .u64 ((by0 ||| sh).toNat : Int)) rfl rfl (by kernel_rfl) (by kernel_rfl) (by kernel_rfl) (fun _ _ _ h => h) ⟨Or.inl ⟨by rfl, by intro w; go_simp⟩, fun _ => rfl⟩ ?_
            go_simp
            refine wpAnyIn_take (i := 11) (v := .pointer (some ⟨N + 4, j, none⟩)) rfl rfl (by kernel_rfl) (by kernel_rfl) (by kernel_rfl) (fun _ _ _ h => h) ⟨Or.inl ⟨by rfl, by intro w; go_simp⟩, fun _ => rfl⟩ ?_
            go_simp
            refine wpAnyIn_ready (rs := [12]) (by kernel_rfl) (by simp) (AllReadyIn.cons rfl (fun K hK => ?_) AllReadyIn.nil)
            go_simp
            refine hK _ _ ?_
            clear hK K
            refine wpAnyIn_done (by kernel_rfl) ?_ _
            exact HEND
        · go_simp
          refine hK _ _ ?_
          clear hK K
          refine wpAnyIn_take (i := 8) (v := .int .i64 (r : Int)) rfl rfl (by kernel_rfl) (by kernel_rfl) (by kernel_rfl) (fun _ _ _ h => h) ⟨Or.inl ⟨by rfl, by intro w; go_simp⟩, fun _ => rfl⟩ ?_
          go_simp
          refine wpAnyIn_take (i := 9) (v := .int .u64 (sh.toNat : Int)) rfl rfl (by kernel_rfl) (by kernel_rfl) (by kernel_rfl) (fun _ _ _ h => h) ⟨Or.inl ⟨by rfl, by intro w; go_simp⟩, fun _ => rfl⟩ ?_
          go_simp
          refine wpAnyIn_ready (rs := [2]) (by kernel_rfl) (by simp) (AllReadyIn.cons rfl (fun K hK => ?_) AllReadyIn.nil)
          go_simp
          refine hK _ _ ?_
          clear hK K
          refine wpAnyIn_take (i := 3) (v := .int .i64 (j : Int)) rfl rfl (by kernel_rfl) (by kernel_rfl) (by kernel_rfl) (fun _ _ _ h => h) ⟨Or.inl ⟨by rfl, by intro w; go_simp⟩, fun _ => rfl⟩ ?_
          go_simp
          refine wpAnyIn_take (i := 4) (v := .pointer (some ⟨N + 4, j, none⟩)) rfl rfl (by kernel_rfl) (by kernel_rfl) (by kernel_rfl) (fun _ _ _ h => h) ⟨Or.inl ⟨by rfl, by intro w; go_simp⟩, fun _ => rfl⟩ ?_
          go_simp
          refine wpAnyIn_ready (rs := [5]) (by kernel_rfl) (by simp) (AllReadyIn.cons rfl (fun K hK => ?_) AllReadyIn.nil)
          go_simp
          refine hK _ _ ?_
          clear hK K
          refine wpAnyIn_take (i := 10) (v := .int .u64 ((by0 ||| sh).toNat : Int)) rfl rfl (by kernel_rfl) (by kernel_rfl) (by kernel_rfl) (fun _ _ _ h => h) ⟨Or.inl ⟨by rfl, by intro w; go_simp⟩, fun _ => rfl⟩ ?_
          go_simp
          refine wpAnyIn_take (i := 11) (v := .pointer (some ⟨N + 4, j, none⟩)) rfl rfl (by kernel_rfl) (by kernel_rfl) (by kernel_rfl) (fun _ _ _ h => h) ⟨Or.inl ⟨by rfl, by intro w; go_simp⟩, fun _ => rfl⟩ ?_
          go_simp
          refine wpAnyIn_ready (rs := [12]) (by kernel_rfl) (by simp) (AllReadyIn.cons rfl (fun K hK => ?_) AllReadyIn.nil)
          go_simp
          refine hK _ _ ?_
          clear hK K
          refine wpAnyIn_done (by kernel_rfl) ?_ _
          exact HEND
      · go_simp
        refine hK _ _ ?_
        clear hK K
        refine wpAnyIn_take (i := 3) (v := .int .i64 (j : Int)) rfl rfl (by kernel_rfl) (by kernel_rfl) (by kernel_rfl) (fun _ _ _ h => h) ⟨Or.inl ⟨by rfl, by intro w; go_simp⟩, fun _ => rfl⟩ ?_
        go_simp
        refine wpAnyIn_ready (rs := [0, 7]) (by kernel_rfl) (by simp) (AllReadyIn.cons rfl (fun K hK => ?_) (AllReadyIn.cons rfl (fun K hK => ?_) AllReadyIn.nil))
        · go_simp
          refine hK _ _ ?_
          clear hK K
          refine wpAnyIn_take (i := 4) (v := .pointer (some ⟨N + 4, j, none⟩)) rfl rfl (by kernel_rfl) (by kernel_rfl) (by kernel_rfl) (fun _ _ _ h => h) ⟨Or.inl ⟨by rfl, by intro w; go_simp⟩, fun _ => rfl⟩ ?_
          go_simp
          refine wpAnyIn_ready (rs := [5, 7]) (by kernel_rfl) (by simp) (AllReadyIn.cons rfl (fun K hK => ?_) (AllReadyIn.cons rfl (fun K hK => ?_) AllReadyIn.nil))
          · go_simp
            refine hK _ _ ?_
            clear hK K
            refine wpAnyIn_ready (rs := [7]) (by kernel_rfl) (by simp) (AllReadyIn.cons rfl (fun K hK => ?_) AllReadyIn.nil)
            go_simp
            refine hK _ _ ?_
            clear hK K
            refine wpAnyIn_take (i := 8) (v := .int .i64 (r : Int)) rfl rfl (by kernel_rfl) (by kernel_rfl) (by kernel_rfl) (fun _ _ _ h => h) ⟨Or.inl ⟨by rfl, by intro w; go_simp⟩, fun _ => rfl⟩ ?_
            go_simp
            refine wpAnyIn_take (i := 9) (v := .int .u64 (sh.toNat : Int)) rfl rfl (by kernel_rfl) (by kernel_rfl) (by kernel_rfl) (fun _ _ _ h => h) ⟨Or.inl ⟨by rfl, by intro w; go_simp⟩, fun _ => rfl⟩ ?_
            go_simp
            refine wpAnyIn_take (i := 10) (v := .int .u64 ((by0 ||| sh).toNat : Int)) rfl rfl (by kernel_rfl) (by kernel_rfl) (by kernel_rfl) (fun _ _ _ h => h) ⟨Or.inl ⟨by rfl, by intro w; go_simp⟩, fun _ => rfl⟩ ?_
            go_simp
            refine wpAnyIn_take (i := 11) (v := .pointer (some ⟨N + 4, j, none⟩)) rfl rfl (by kernel_rfl) (by kernel_rfl) (by kernel_rfl) (fun _ _ _ h => h) ⟨Or.inl ⟨by rfl, by intro w; go_simp⟩, fun _ => rfl⟩ ?_
            go_simp
            refine wpAnyIn_ready (rs := [12]) (by kernel_rfl) (by simp) (AllReadyIn.cons rfl (fun K hK => ?_) AllReadyIn.nil)
            go_simp
            refine hK _ _ ?_
            clear hK K
            refine wpAnyIn_done (by kernel_rfl) ?_ _
            exact HEND
          · go_simp
            refine hK _ _ ?_
            clear hK K
            refine wpAnyIn_take (i := 8) (v := .int .i64 (r : Int)) rfl rfl (by kernel_rfl) (by kernel_rfl) (by kernel_rfl) (fun _ _ _ h => h) ⟨Or.inl ⟨by rfl, by intro w; go_simp⟩, fun _ => rfl⟩ ?_
            go_simp
            refine wpAnyIn_take (i := 9) (v := .int .u64 (sh.toNat : Int)) rfl rfl (by kernel_rfl) (by kernel_rfl) (by kernel_rfl) (fun _ _ _ h => h) ⟨Or.inl ⟨by rfl, by intro w; go_simp⟩, fun _ => rfl⟩ ?_
            go_simp
            refine wpAnyIn_ready (rs := [5]) (by kernel_rfl) (by simp) (AllReadyIn.cons rfl (fun K hK => ?_) AllReadyIn.nil)
            go_simp
            refine hK _ _ ?_
            clear hK K
            refine wpAnyIn_take (i := 10) (v := .int .u64 ((by0 ||| sh).toNat : Int)) rfl rfl (by kernel_rfl) (by kernel_rfl) (by kernel_rfl) (fun _ _ _ h => h) ⟨Or.inl ⟨by rfl, by intro w; go_simp⟩, fun _ => rfl⟩ ?_
            go_simp
            refine wpAnyIn_take (i := 11) (v := .pointer (some ⟨N + 4, j, none⟩)) rfl rfl (by kernel_rfl) (by kernel_rfl) (by kernel_rfl) (fun _ _ _ h => h) ⟨Or.inl ⟨by rfl, by intro w; go_simp⟩, fun _ => rfl⟩ ?_
            go_simp
            refine wpAnyIn_ready (rs := [12]) (by kernel_rfl) (by simp) (AllReadyIn.cons rfl (fun K hK => ?_) AllReadyIn.nil)
            go_simp
            refine hK _ _ ?_
            clear hK K
            refine wpAnyIn_done (by kernel_rfl) ?_ _
            exact HEND
        · go_simp
          refine hK _ _ ?_
          clear hK K
          refine wpAnyIn_take (i := 8) (v := .int .i64 (r : Int)) rfl rfl (by kernel_rfl) (by kernel_rfl) (by kernel_rfl) (fun _ _ _ h => h) ⟨Or.inl ⟨by rfl, by intro w; go_simp⟩, fun _ => rfl⟩ ?_
          go_simp
          refine wpAnyIn_take (i := 9) (v := .int .u64 (sh.toNat : Int)) rfl rfl (by kernel_rfl) (by kernel_rfl) (by kernel_rfl) (fun _ _ _ h => h) ⟨Or.inl ⟨by rfl, by intro w; go_simp⟩, fun _ => rfl⟩ ?_
          go_simp
          refine wpAnyIn_ready (rs := [0]) (by kernel_rfl) (by simp) (AllReadyIn.cons rfl (fun K hK => ?_) AllReadyIn.nil)
          go_simp
          refine hK _ _ ?_
          clear hK K
          refine wpAnyIn_take (i := 4) (v := .pointer (some ⟨N + 4, j, none⟩)) rfl rfl (by kernel_rfl) (by kernel_rfl) (by kernel_rfl) (fun _ _ _ h => h) ⟨Or.inl ⟨by rfl, by intro w; go_simp⟩, fun _ => rfl⟩ ?_
          go_simp
          refine wpAnyIn_ready (rs := [5]) (by kernel_rfl) (by simp) (AllReadyIn.cons rfl (fun K hK => ?_) AllReadyIn.nil)
          go_simp
          refine hK _ _ ?_
          clear hK K
          refine wpAnyIn_take (i := 10) (v := .int .u64 ((by0 ||| sh).toNat : Int)) rfl rfl (by kernel_rfl) (by kernel_rfl) (by kernel_rfl) (fun _ _ _ h => h) ⟨Or.inl ⟨by rfl, by intro w; go_simp⟩, fun _ => rfl⟩ ?_
          go_simp
          refine wpAnyIn_take (i := 11) (v := .pointer (some ⟨N + 4, j, none⟩)) rfl rfl (by kernel_rfl) (by kernel_rfl) (by kernel_rfl) (fun _ _ _ h => h) ⟨Or.inl ⟨by rfl, by intro w; go_simp⟩, fun _ => rfl⟩ ?_
          go_simp
          refine wpAnyIn_ready (rs := [12]) (by kernel_rfl) (by simp) (AllReadyIn.cons rfl (fun K hK => ?_) AllReadyIn.nil)
          go_simp
          refine hK _ _ ?_
          clear hK K
          refine wpAnyIn_done (by kernel_rfl) ?_ _
          exact HEND
      · go_simp
        refine hK _ _ ?_
        clear hK K
        refine wpAnyIn_take (i := 8) (v := .int .i64 (r : Int)) rfl rfl (by kernel_rfl) (by kernel_rfl) (by kernel_rfl) (fun _ _ _ h => h) ⟨Or.inl ⟨by rfl, by intro w; go_simp⟩, fun _ => rfl⟩ ?_
        go_simp
        refine wpAnyIn_take (i := 9) (v := .int .u64 (sh.toNat : Int)) rfl rfl (by kernel_rfl) (by kernel_rfl) (by kernel_rfl) (fun _ _ _ h => h) ⟨Or.inl ⟨by rfl, by intro w; go_simp⟩, fun _ => rfl⟩ ?_
        go_simp
        refine wpAnyIn_ready (rs := [0, 2]) (by kernel_rfl) (by simp) (AllReadyIn.cons rfl (fun K hK => ?_) (AllReadyIn.cons rfl (fun K hK => ?_) AllReadyIn.nil))
        · go_simp
          refine hK _ _ ?_
          clear hK K
          refine wpAnyIn_ready (rs := [2]) (by kernel_rfl) (by simp) (AllReadyIn.cons rfl (fun K hK => ?_) AllReadyIn.nil)
          go_simp
          refine hK _ _ ?_
          clear hK K
          refine wpAnyIn_take (i := 3) (v := .int .i64 (j : Int)) rfl rfl (by kernel_rfl) (by kernel_rfl) (by kernel_rfl) (fun _ _ _ h => h) ⟨Or.inl ⟨by rfl, by intro w; go_simp⟩, fun _ => rfl⟩ ?_
          go_simp
          refine wpAnyIn_take (i := 4) (v := .pointer (some ⟨N + 4, j, none⟩)) rfl rfl (by kernel_rfl) (by kernel_rfl) (by kernel_rfl) (fun _ _ _ h => h) ⟨Or.inl ⟨by rfl, by intro w; go_simp⟩, fun _ => rfl⟩ ?_
          go_simp
          refine wpAnyIn_ready (rs := [5]) (by kernel_rfl) (by simp) (AllReadyIn.cons rfl (fun K hK => ?_) AllReadyIn.nil)
          go_simp
          refine hK _ _ ?_
          clear hK K
          refine wpAnyIn_take (i := 10) (v := .int .u64 ((by0 ||| sh).toNat : Int)) rfl rfl (by kernel_rfl) (by kernel_rfl) (by kernel_rfl) (fun _ _ _ h => h) ⟨Or.inl ⟨by rfl, by intro w; go_simp⟩, fun _ => rfl⟩ ?_
          go_simp
          refine wpAnyIn_take (i := 11) (v := .pointer (some ⟨N + 4, j, none⟩)) rfl rfl (by kernel_rfl) (by kernel_rfl) (by kernel_rfl) (fun _ _ _ h => h) ⟨Or.inl ⟨by rfl, by intro w; go_simp⟩, fun _ => rfl⟩ ?_
          go_simp
          refine wpAnyIn_ready (rs := [12]) (by kernel_rfl) (by simp) (AllReadyIn.cons rfl (fun K hK => ?_) AllReadyIn.nil)
          go_simp
          refine hK _ _ ?_
          clear hK K
          refine wpAnyIn_done (by kernel_rfl) ?_ _
          exact HEND
        · go_simp
          refine hK _ _ ?_
          clear hK K
          refine wpAnyIn_take (i := 3) (v := .int .i64 (j : Int)) rfl rfl (by kernel_rfl) (by kernel_rfl) (by kernel_rfl) (fun _ _ _ h => h) ⟨Or.inl ⟨by rfl, by intro w; go_simp⟩, fun _ => rfl⟩ ?_
          go_simp
          refine wpAnyIn_ready (rs := [0]) (by kernel_rfl) (by simp) (AllReadyIn.cons rfl (fun K hK => ?_) AllReadyIn.nil)
          go_simp
          refine hK _ _ ?_
          clear hK K
          refine wpAnyIn_take (i := 4) (v := .pointer (some ⟨N + 4, j, none⟩)) rfl rfl (by kernel_rfl) (by kernel_rfl) (by kernel_rfl) (fun _ _ _ h => h) ⟨Or.inl ⟨by rfl, by intro w; go_simp⟩, fun _ => rfl⟩ ?_
          go_simp
          refine wpAnyIn_ready (rs := [5]) (by kernel_rfl) (by simp) (AllReadyIn.cons rfl (fun K hK => ?_) AllReadyIn.nil)
          go_simp
          refine hK _ _ ?_
          clear hK K
          refine wpAnyIn_take (i := 10) (v := .int .u64 ((by0 ||| sh).toNat : Int)) rfl rfl (by kernel_rfl) (by kernel_rfl) (by kernel_rfl) (fun _ _ _ h => h) ⟨Or.inl ⟨by rfl, by intro w; go_simp⟩, fun _ => rfl⟩ ?_
          go_simp
          refine wpAnyIn_take (i := 11) (v := .pointer (some ⟨N + 4, j, none⟩)) rfl rfl (by kernel_rfl) (by kernel_rfl) (by kernel_rfl) (fun _ _ _ h => h) ⟨Or.inl ⟨by rfl, by intro w; go_simp⟩, fun _ => rfl⟩ ?_
          go_simp
          refine wpAnyIn_ready (rs := [12]) (by kernel_rfl) (by simp) (AllReadyIn.cons rfl (fun K hK => ?_) AllReadyIn.nil)
          go_simp
          refine hK _ _ ?_
          clear hK K
          refine wpAnyIn_done (by kernel_rfl) ?_ _
          exact HEND
    · have hq1 : (M : Int) ≤ (v : Int) := by omega
      have hf2 := hb2.free 0
      have hf3 := hb3.free 0
      rw [hv]
      have HV := Lib.hid hv
      have HLT := Lib.hid hlt1
      have HBEL := Lib.hid hbel
      have HBS := Lib.hid (And.intro hb2 hb3)
      have hc2 : Wd.cell? ⟨N + 2, 0, none⟩ = some (.slice none 0 0) := (hb2.at_ 0).trans rfl
      have hc3 : Wd.cell? ⟨N + 3, 0, none⟩ = some (.int .i64 0) := (hb3.at_ 0).trans rfl
      clear hv hlt1 hbel hb4 hb0 hb1 hb2 hb3 hb5
      gi_wp2
      have hs2 : Sole (N + 2) Wd (Wd.setCell ⟨N + 2, 0, none⟩ (.slice none 0 0)) := (Sole.refl (N + 2) Wd).setCell 0 _
      have hs3 : Sole (N + 3) (Wd.setCell ⟨N + 2, 0, none⟩ (.slice none 0 0)) ((Wd.setCell ⟨N + 2, 0, none⟩ (.slice none 0 0)).setCell ⟨N + 3, 0, none⟩ (.int .i64 10)) := (Sole.refl (N + 3) _).setCell 0 _
      have k2 := (HBS.out.1.store 0 (.slice none 0 0)).sole hs3 (by omega)
      have k3 := (HBS.out.2.sole hs2 (by omega)).store 0 (.int .i64 10)
      exact (show KeepsOthers Wd _ ∧ ((Code.ret = Code.ret ∧ ∃ p ∈ pre ++ [x], M ≤ p.val) ∧ (Blk _ (N + 2) 63 _ ∧ Blk _ (N + 3) 25 _) ∧ Below N W _) from ⟨(KeepsOthers.setCell _ _ _).trans (KeepsOthers.setCell _ _ _), ⟨rfl, x, by simp, by rw [HV.out]; omega⟩, ⟨k2, k3⟩, hs3.below (hs2.below HBEL.out (by omega)) (by omega)⟩)
  case done =>
    rintro D ys Wd hD rfl ⟨⟨hb0, hb1, hb2, hb3, hb4, hb5⟩, hlt1, hB⟩ hK
    have hc5 : Wd.cell? ⟨N + 5, 0, none⟩ = some (.slice (some ⟨N + 4, 0, none⟩) n n) := (hb5.at_ 0).trans rfl
    have hf2 := hb2.free 0
    have hf3 := hb3.free 0
    have hc2 : Wd.cell? ⟨N + 2, 0, none⟩ = some (.slice none 0 0) := (hb2.at_ 0).trans rfl
    have hc3 : Wd.cell? ⟨N + 3, 0, none⟩ = some (.int .i64 0) := (hb3.at_ 0).trans rfl
    have HB4 := Lib.hid hb4
    have HBS := Lib.hid (And.intro hb2 hb3)
    have HBEL := Lib.hid hB
    have HLT := Lib.hid hlt1
    clear hb0 hb1 hb2 hb3 hb4 hb5 hB hlt1
    gi_wp2
    have hs2 : Sole (N + 2) Wd (Wd.setCell ⟨N + 2, 0, none⟩ (.slice (some ⟨N + 4, 0, none⟩) n n)) := (Sole.refl (N + 2) Wd).setCell 0 _
    have hs3 : Sole (N + 3) (Wd.setCell ⟨N + 2, 0, none⟩ (.slice (some ⟨N + 4, 0, none⟩) n n)) ((Wd.setCell ⟨N + 2, 0, none⟩ (.slice (some ⟨N + 4, 0, none⟩) n n)).setCell ⟨N + 3, 0, none⟩ (.int .i64 0)) := (Sole.refl (N + 3) _).setCell 0 _
    have k2 := (HBS.out.1.store 0 (.slice (some ⟨N + 4, 0, none⟩) n n)).sole hs3 (by omega)
    have k3 := (HBS.out.2.sole hs2 (by omega)).store 0 (.int .i64 0)
    have k4 := (HB4.out.sole hs2 (by omega)).sole hs3 (by omega)
    have kB := hs3.below (hs2.below HBEL.out (by omega)) (by omega)
    have kD := (hs3.block D (by omega)).trans ((hs2.block D (by omega)).trans hK)
    generalize (Wd.setCell ⟨N + 2, 0, none⟩ (.slice (some ⟨N + 4, 0, none⟩) n n)).setCell ⟨N + 3, 0, none⟩ (.int .i64 0) = W6 at k2 k3 k4 kB kD
    have hfx : fitB M b = true := by
      rw [HFIT.out]
      intro i hi
      have hi2 : i ∈ ys.map Fin.val := by rw [hxs]; exact of_decide_eq_true hi
      obtain ⟨p, hp, rfl⟩ := List.mem_map.1 hi2
      exact HLT.out p hp
    rw [hxs] at k4
    refine ⟨by simp, .inl ⟨_, _, rfl, run_takeDeferred kD, ?_⟩⟩
    have c2 : (W6.putObj D (Obj.deferred none)).cell? ⟨N + 2, 0, none⟩ = some (.slice (some ⟨N + 4, 0, none⟩) n n) := (Blk.at_ (show Blk (W6.putObj D (Obj.deferred none)) (N + 2) 63 _ from (World.putObj_heap_other (by omega)).trans k2) 0).trans rfl
    have c3 : (W6.putObj D (Obj.deferred none)).cell? ⟨N + 3, 0, none⟩ = some (.int .i64 0) := (Blk.at_ (show Blk (W6.putObj D (Obj.deferred none)) (N + 3) 25 _ from (World.putObj_heap_other (by omega)).trans k3) 0).trans rfl
    have hB2 : Below N W (W6.putObj D (Obj.deferred none)) := kB.trans (belowK_b (w := W) (by omega) W6 D _ _ (by omega) kD rfl rfl)
    have hb4 : Blk (W6.putObj D (Obj.deferred none)) (N + 4) 46 (n64s (unL w n (bitsB b))) := (World.putObj_heap_other (by omega)).trans k4
    refine ⟨.tuple #[.slice (some ⟨N + 4, 0, none⟩) n n, .int .i64 0], ?_, .inl ⟨hfx, _, rfl, by omega, hb4, hB2⟩⟩
    clear k2 k3 k4 kB kD hs2 hs3 HB4
    rw [results_cell2 rfl]
    go_simp
  case stop =>
    rintro D c pre Wd hD hpre ⟨⟨rfl, p, hp, hpM⟩, ⟨hb2, hb3⟩, hB⟩ hK
    refine wpIn_ret ?_
    have hfx : fitB M b = false := by
      rw [← Bool.not_eq_true]
      intro h
      have := HFIT.out.1 h p.val (decide_eq_true (by rw [← hxs]; exact List.mem_map_of_mem (hpre.subset hp)))
      omega
    have c2 : (Wd.putObj D (Obj.deferred none)).cell? ⟨N + 2, 0, none⟩ = some (.slice none 0 0) := (Blk.at_ (show Blk (Wd.putObj D (Obj.deferred none)) (N + 2) 63 _ from (World.putObj_heap_other (by omega)).trans hb2) 0).trans rfl
    have c3 : (Wd.putObj D (Obj.deferred none)).cell? ⟨N + 3, 0, none⟩ = some (.int .i64 10) := (Blk.at_ (show Blk (Wd.putObj D (Obj.deferred none)) (N + 3) 25 _ from (World.putObj_heap_other (by omega)).trans hb3) 0).trans rfl
    have hB2 : Below N W (Wd.putObj D (Obj.deferred none)) := hB.trans (belowK_b (w := W) (by omega) Wd D _ _ (by omega) hK rfl rfl)
    refine ⟨by simp, .inl ⟨_, _, rfl, run_takeDeferred hK, ?_⟩⟩
    refine ⟨.tuple #[.slice none 0 0, .int .i64 10], ?_, .inr ⟨hfx, rfl, hB2⟩⟩
    clear hb2 hb3 hB hK
    rw [results_cell2 rfl]
    go_simp
end Go.Proofs.YtdchaojgldfagaaDoor
