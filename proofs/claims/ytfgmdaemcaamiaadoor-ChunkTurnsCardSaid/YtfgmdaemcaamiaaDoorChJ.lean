/- The walk of decodeOthers. -/
import Derived.Test.YtfgmdaemcaamiaaDoorChI
import Derived.Test.YtfgmdaemcaamiaaDoorInZC
import Derived.Test.YtfgmdaemcaamiaaDoorDcZ
namespace Go.Proofs.YtfgmdaemcaamiaaDoor
open Go.RowKit
set_option linter.unusedVariables false

/-- Which values bytes say, that are not null. -/
def OthOf (kind : Int) (b : List UInt8) (n : Nat) (L : List Vl) : Prop := (kind = 3 ∧ ∃ T, decT b n T ∧ L = T.map (mkT kind)) ∨ (kind ≠ 3 ∧ ∃ I, decP b n I ∧ L = I.map (mkI kind))
theorem dect_len {b : List UInt8} {n : Nat} {T : List Tx} (h : decT b n T) : T.length = n ∧ ∀ x ∈ T, x.length ≤ 1024 := by
  obtain ⟨f, _, _, _, h1, h2, _⟩ := h
  exact ⟨by simpa using h2, h1.2⟩
theorem decp_len {b : List UInt8} {n : Nat} {I : List Int} (h : decP b n I) : I.length = n ∧ All64 I := by
  obtain ⟨f, _, _, _, h1, h2, _⟩ := h
  exact ⟨by simpa using h2, h1⟩
def DecO (W0 : World) (kind : Int) (b : List UInt8) (n : Nat) (e : Ending) (W' : World) : Prop := Below W0.heap.size W0 W' ∧
  ((∃ L A c, OthOf kind b n L ∧ (∀ L', OthOf kind b n L' → L' = L) ∧ e = .returned (.tuple #[.slice A L.length c, .int .i64 0]) ∧ Vls W' A L ∧ L.length ≤ c ∧ c ≤ 1000000 ∧ (A = none → c = 0) ∧ L.length = n) ∨
   ((∀ L, ¬ OthOf kind b n L) ∧ ∃ v er, e = .returned (.tuple #[v, .int .i64 er]) ∧ er ≠ 0))
theorem flat8_setM {α : Type} (f : α → Vl) {l : List α} {k n : Nat} (hk : k < l.length) (hn : l.length = n) : setN (((l.take k).map f ++ List.replicate (n - k) nulV).flatMap vlC) (k * 3) (vlC (f l[k])) = ((l.take (k + 1)).map f ++ List.replicate (n - (k + 1)) nulV).flatMap vlC := by
  have h := flat8_set (c := f l[k]) (z := n - (k + 1)) (r := (l.take k).map f) (k := k) (by rw [List.length_map, List.length_take]; omega)
  rw [show n - (k + 1) + 1 = n - k by omega] at h
  rw [h, List.take_succ_eq_append_getElem hk, List.map_append]
  rfl
theorem zeros_at {n q : Nat} {u : Value} (h : ((List.replicate n nulV).flatMap vlC)[q]? = some u) : q < n * 3 ∧ ((q % 3 < 2 ∧ u = .int .i64 0) ∨ (q % 3 = 2 ∧ u = .string ⟨#[]⟩)) := by
  have hq : q < n * 3 := by
    have := (List.getElem?_eq_some_iff.1 h).1
    rwa [flat8_len, List.length_replicate] at this
  refine ⟨hq, ?_⟩
  have h1 := flat8_at (List.replicate n nulV) (q / 3) (q % 3) (by rw [List.length_replicate]; omega) (Nat.mod_lt _ (by decide))
  rw [show q / 3 * 3 + q % 3 = q by omega, h, List.getElem_replicate] at h1
  have hm : q % 3 = 0 ∨ q % 3 = 1 ∨ q % 3 = 2 := by omega
  rcases hm with e | e | e
  · rw [e] at h1; exact .inl ⟨by omega, by injection h1⟩
  · rw [e] at h1; exact .inl ⟨by omega, by injection h1⟩
  · rw [e] at h1; exact .inr ⟨e, by injection h1⟩
/-- The texts from place k on. -/
def RemT (w : World) (A : Option Addr) (l : List Tx) (k : Nat) : Prop := ∀ j (h : j < l.length), k ≤ j → ∃ b o, A = some ⟨b, o, none⟩ ∧ w.cell? ⟨b, o + j, none⟩ = some (.string (str l[j]))
def RemI (w : World) (A : Option Addr) (l : List Int) (k : Nat) : Prop := ∀ j (h : j < l.length), k ≤ j → ∃ b o, A = some ⟨b, o, none⟩ ∧ w.cell? ⟨b, o + j, none⟩ = some (.int .i64 l[j])
theorem remT_step {w w2 w' : World} {A : Option Addr} {l : List Tx} {k N n : Nat} {t : TypeId} (hr : RemT w A l k) (h0 : RemT w2 A l 0) (hb : Blk w2 N t ((List.replicate n nulV).flatMap vlC)) (ho : ∀ p : Addr, p.block ≠ N → w'.cell? p = w.cell? p) : RemT w' A l (k + 1) := by
  intro j hj hkj
  obtain ⟨b, o, e, hc⟩ := hr j hj (by omega)
  by_cases hbN : b = N
  · exfalso
    obtain ⟨b1, o1, e1, c1⟩ := h0 j hj (by omega)
    obtain ⟨b3, o3, e3, c3⟩ := h0 (j - 1) (by omega) (by omega)
    rw [e] at e1 e3
    injection e1 with e1; injection e1 with e1 e2; subst e1 e2
    injection e3 with e3; injection e3 with e3 e4; subst e3 e4
    subst hbN
    rw [hb.at_] at c1 c3
    have h1 := (zeros_at c1).2
    have h3 := (zeros_at c3).2
    rcases h1 with ⟨_, h1⟩ | ⟨h1, _⟩
    · cases h1
    · rcases h3 with ⟨_, h3⟩ | ⟨h3, _⟩
      · cases h3
      · omega
  · exact ⟨b, o, e, (ho _ hbN).trans hc⟩
theorem remI_step {w w2 w' : World} {A : Option Addr} {l : List Int} {k N n : Nat} {t : TypeId} {kind : Int} (hn : l.length = n) (hk : k < n) (hI : All64 l) (hr : RemI w A l k) (h0 : RemI w2 A l 0) (hb : Blk w2 N t ((List.replicate n nulV).flatMap vlC))
    (hb9 : Blk w' N t (((l.take (k + 1)).map (mkI kind) ++ List.replicate (n - (k + 1)) nulV).flatMap vlC)) (ho : ∀ p : Addr, p.block ≠ N → w'.cell? p = w.cell? p) : RemI w' A l (k + 1) := by
  intro j hj hkj
  obtain ⟨b, o, e, hc⟩ := hr j hj (by omega)
  by_cases hbN : b = N
  · have hz : ∀ i, i < l.length → ∃ h : i < l.length, o + i < n * 3 ∧ (o + i) % 3 < 2 ∧ l[i] = 0 := fun i hi => by
      obtain ⟨b1, o1, e1, c1⟩ := h0 i hi (by omega)
      rw [e] at e1
      injection e1 with e1; injection e1 with e1 e2; subst e1 e2
      subst hbN
      rw [hb.at_] at c1
      obtain ⟨h1, h2⟩ := zeros_at c1
      rcases h2 with ⟨h2, h3⟩ | ⟨_, h3⟩
      · injection h3 with _ h3
        exact ⟨hi, h1, h2, h3⟩
      · cases h3
    obtain ⟨_, g1, g2, g3⟩ := hz 0 (by omega)
    obtain ⟨_, g4, g5, g6⟩ := hz 1 (by omega)
    have hn2 : l.length = 2 := by
      by_cases h3 : 2 < l.length
      · obtain ⟨_, _, g7, _⟩ := hz 2 h3
        omega
      · omega
    obtain rfl : k = 0 := by omega
    obtain rfl : j = 1 := by omega
    obtain ⟨x, y, rfl⟩ : ∃ x y, l = [x, y] := by
      match l, hn2 with
      | [x, y], _ => exact ⟨x, y, rfl⟩
    have g3 : x = 0 := g3
    have g6 : y = 0 := g6
    subst g3 g6
    have hn3 : n = 2 := by rw [← hn]; rfl
    subst hn3
    refine ⟨b, o, e, ?_⟩
    subst hbN
    rw [hb9.at_]
    have ho2 : o = 0 ∨ o = 3 := by omega
    obtain ⟨q1, q2, q3⟩ := mkI_of (k := kind) (x := 0) ⟨by omega, by omega⟩
    rcases ho2 with rfl | rfl
    · show (vlC (mkI kind 0) ++ _)[1]? = _
      unfold vlC
      rw [q2]
      rfl
    · rfl
  · exact ⟨b, o, e, (ho _ hbN).trans hc⟩

set_option maxRecDepth 100000 in
set_option maxHeartbeats 20000000 in
theorem deco_t (A : Option Addr) (cap : Nat) (b : List UInt8) (n : Nat) (W : World) (hb : Byt W A b) (hA : A = none → cap = 0) (hc : b.length ≤ cap) (hm : cap ≤ 9223372036854775807) (hL : b.length ≤ 140737488355328) (hn : n ≤ 1024) (hT : TabAt W) :
    Calls Tryd.prog 58 #[.int .i64 (3 : Int), .slice A b.length cap, .int .i64 (n : Int)] W (DecO W (3 : Int) b n) := by
  obtain ⟨N, hN⟩ : ∃ N, W.heap.size = N := ⟨_, rfl⟩
  have hb1 := Blk.born W 30 ((List.replicate n nulV).flatMap vlC)
  have hbe : Below W.heap.size W (W.alloc (.cells ((List.replicate n nulV).flatMap vlC).toArray 30)) := (Below.refl _ _).alloc (Nat.le_refl _) _
  have hcall := fun w (h : Below W.heap.size W w) => (tdecode_any A cap b (n : Int) w (hb.keep h) hA hc hm hL (hT.keep h))
  rw [hN] at hb1
  have HB1 := Lib.hid hb1
  have HBE := Lib.hid hbe
  have HNN := Lib.hid hN
  have HCA := Lib.hid hcall
  clear hb1 hbe hcall hb hA hc hT
  generalize b.length = nb at HCA hL ⊢
  unfold DecTR at HCA
  go_enter Tryd.func58, Tryd.ntmps58
  go_wp2_with (refine mk8_vals rfl _ _ rfl n rfl rfl (by omega) ?_; refine Hid.out ?_)
  refine Lib.hid ?_
  generalize hW1 : W.alloc (.cells ((List.replicate n nulV).flatMap vlC).toArray 30) = W1 at HB1 HBE ⊢
  clear hW1
  go_wp2_with fail
  refine (HCA.out W1 HBE.out).mono ?_
  rintro e w2 ⟨hb2, (⟨A2, c2, L, hd, hu, rfl, hs2, hc2⟩ | ⟨hno, rfl⟩)⟩
  · have hln := (dect_len hd).1
    have hwf := (dect_len hd).2
    have HOK : Hid (OthOf (3 : Int) b n (L.map (mkT 3)) ∧ ∀ L', OthOf (3 : Int) b n L' → L' = L.map (mkT 3)) := by
      show _ ∧ _
      refine ⟨.inl ⟨rfl, L, hd, rfl⟩, ?_⟩
      rintro L' (⟨_, T, hT', rfl⟩ | ⟨h3, T, hT', rfl⟩)
      · rw [hu T hT']
      · exact absurd rfl h3
    have hblk2 := HB1.out.below hb2 (lt_of_block HB1.out)
    have HB2 := Lib.hid hblk2
    have HE2 := Lib.hid (below_to HBE.out hb2)
    have HR0 : Hid (RemT w2 A2 L 0) := fun j hj _ => hs2 j hj
    have HLN := Lib.hid hln
    have HWF := Lib.hid hwf
    clear hd hu hs2 hwf hblk2 hb2
    rw [hln] at hc2 ⊢
    clear hln
    go_wp2_with fail
    go_loopw [11, 12, 29] (fun _ _ i wr => ∃ k : Nat, k ≤ n ∧ i = .int .i64 k ∧ Blk wr N 30 (((L.take k).map (mkT 3) ++ List.replicate (n - k) nulV).flatMap vlC) ∧ Below W.heap.size W wr ∧ RemT wr A2 L k) (fun _ _ i _ => n - (intOf i).toNat)
    case atStart => exact ⟨0, by omega, rfl, HB2.out, HE2.out, HR0.out⟩
    case round =>
      obtain ⟨k, hk, rfl, hblk, hbel, hsr⟩ := hrel
      have HBK := Lib.hid hblk
      have HBL := Lib.hid hbel
      have HSR := Lib.hid hsr
      clear hblk hbel hsr
      by_cases hlt : k < n
      · have h1 : k < L.length := by rw [HLN.out]; exact hlt
        obtain ⟨b2, o2, rfl, hcx⟩ := HSR.out k h1 (Nat.le_refl _)
        have hK : Hid (k < n) := hlt
        have HSET := Lib.hid (flat8_setM (mkT 3) h1 HLN.out)
        have hfl : k * 3 + 3 ≤ (((L.take k).map (mkT 3) ++ List.replicate (n - k) nulV).flatMap vlC).length := by
          rw [flat8_len, List.length_append, List.length_replicate, List.length_map, List.length_take, HLN.out]; omega
        have HFL := Lib.hid hfl
        have hof := mkT_of (k := 3) (HWF.out L[k] (List.getElem_mem h1))
        generalize L[k] = x at hcx HSET hof
        obtain ⟨f1, f2, f3⟩ := hof
        have hvc : vlC (mkT 3 x) = [.int .i64 3, .int .i64 0, .string (str x)] := by unfold vlC; rw [f1, f2, f3]
        have HVC := Lib.hid hvc
        clear hfl h1 f1 f2 f3 hvc
        generalize str x = sx at hcx HVC
        go_wp2_with (with_reducible refine st_midN rfl 30 (.tmp 39) (.tmp 38) rfl 3 ?a1 N (k * 3) 30 (((L.take k).map (mkT 3) ++ List.replicate (n - k) nulV).flatMap vlC) [.int .i64 3, .int .i64 0, .string sx] ?a2 ?a3 ?a4 ?a5 ?a6 ?a7 (Hid.out ?a8))
        case a1 => first | exact info8W | simpa using info8W
        try (case a2 => first | rfl | (simp; done))
        try (case a3 => rfl)
        case a4 => exact HBK.out
        try (case a5 => rfl)
        case a6 => exact HFL.out
        case a7 => rw [← HVC.out]; exact vlC_one _
        refine Lib.hid ?_
        rw [← HVC.out]
        have HB9 : Hid (Blk (wr.setCells N (k * 3) (vlC (mkT 3 x))) N 30 (((L.take (k + 1)).map (mkT 3) ++ List.replicate (n - (k + 1)) nulV).flatMap vlC)) := by show Blk _ _ _ _; rw [← HSET.out]; exact Blk.storesN (vlC (mkT 3 x)) _ (k * 3) wr HBK.out
        have HE9 := Lib.hid (Below.storesN (g := N) (by rw [HNN.out]; exact Nat.le_refl _) (vlC (mkT 3 x)) (k * 3) _ HBL.out)
        have HR9 := Lib.hid (remT_step HSR.out HR0.out HB2.out (w' := wr.setCells N (k * 3) (vlC (mkT 3 x))) (fun p hp => World.cell?_of_block (heap_storesN (g := N) hp (vlC (mkT 3 x)) (k * 3) wr)))
        clear hcx
        generalize wr.setCells N (k * 3) (vlC (mkT 3 x)) = w9 at HB9 HE9 HR9 ⊢
        go_wp2
        go_roundw
        case rel => exact ⟨k + 1, hK.out, by go_num, HB9.out, HE9.out, HR9.out⟩
        case measure => simp [intOf]; have := hK.out; omega
      · obtain rfl : k = n := by omega
        have hbk := HBK.out
        rw [Nat.sub_self, List.replicate_zero, List.append_nil, List.take_of_length_le (by rw [HLN.out]; omega)] at hbk
        have HV := Lib.hid (vls_blk hbk)
        have hml : (L.map (mkT 3)).length = k := by rw [List.length_map, HLN.out]
        have HML := Lib.hid hml
        clear hbk hml
        go_wp2
        go_ret2
        exact ⟨HBL.out, .inl ⟨L.map (mkT 3), some ⟨N, 0, none⟩, k, HOK.out.1, HOK.out.2, by rw [HML.out]; rfl, HV.out, by rw [HML.out]; exact Nat.le_refl _, by omega, by simp, HML.out⟩⟩
  · have HNO : Hid (∀ L, ¬ OthOf (3 : Int) b n L) := by
      show ∀ _, _
      rintro L' (⟨_, T, hT', rfl⟩ | ⟨h3, T, hT', rfl⟩)
      · exact hno T hT'
      · exact absurd rfl h3
    have HER : Hid ((if (n : Int) < 0 ∨ 4096 < (n : Int) then (2 : Int) else 70) = 70) := by show _ = _; rw [if_neg (by omega)]
    have HE2 := Lib.hid (below_to HBE.out hb2)
    rw [HER.out]
    clear hno hb2
    go_wp2_with fail
    go_loopw [11, 12, 29] (fun _ _ i wr => i = .int .i64 0 ∧ wr = w2) (fun _ _ i _ => 0)
    case atStart => exact ⟨rfl, rfl⟩
    case round =>
      obtain ⟨rfl, rfl⟩ := hrel
      go_wp2
      go_ret2
      exact ⟨HE2.out, .inr ⟨HNO.out, _, _, rfl, by decide⟩⟩

set_option maxRecDepth 100000 in
set_option maxHeartbeats 20000000 in
theorem deco_i (kind : Int) (hk3 : kind ≠ 3) (A : Option Addr) (cap : Nat) (b : List UInt8) (n : Nat) (W : World) (hb : Byt W A b) (hA : A = none → cap = 0) (hc : b.length ≤ cap) (hm : cap ≤ 9223372036854775807) (hL : b.length ≤ 140737488355328) (hn : n ≤ 1024) (hT : TabAt W) :
    Calls Tryd.prog 58 #[.int .i64 kind, .slice A b.length cap, .int .i64 (n : Int)] W (DecO W kind b n) := by
  obtain ⟨N, hN⟩ : ∃ N, W.heap.size = N := ⟨_, rfl⟩
  have hb1 := Blk.born W 30 ((List.replicate n nulV).flatMap vlC)
  have hbe : Below W.heap.size W (W.alloc (.cells ((List.replicate n nulV).flatMap vlC).toArray 30)) := (Below.refl _ _).alloc (Nat.le_refl _) _
  have hcall := fun w (h : Below W.heap.size W w) => (decode_any A cap b (n : Int) w (hb.keep h) hc hm hL (hT.keep h))
  rw [hN] at hb1
  have HB1 := Lib.hid hb1
  have HBE := Lib.hid hbe
  have HNN := Lib.hid hN
  have HCA := Lib.hid hcall
  clear hb1 hbe hcall hb hA hc hT
  generalize b.length = nb at HCA hL ⊢
  have q3 : (kind == 3) = false := by rw [beq_eq_false_iff_ne]; exact hk3
  unfold DecR at HCA
  go_enter Tryd.func58, Tryd.ntmps58
  go_wp2_with (refine mk8_vals rfl _ _ rfl n rfl rfl (by omega) ?_; refine Hid.out ?_)
  refine Lib.hid ?_
  generalize hW1 : W.alloc (.cells ((List.replicate n nulV).flatMap vlC).toArray 30) = W1 at HB1 HBE ⊢
  clear hW1
  go_wp2_with fail
  refine (HCA.out W1 HBE.out).mono ?_
  rintro e w2 ⟨hb2, (⟨A2, c2, L, hd, hu, rfl, hs2, hc2⟩ | ⟨hno, rfl⟩)⟩
  · have hln := (decp_len hd).1
    have hwf := (decp_len hd).2
    have HOK : Hid (OthOf kind b n (L.map (mkI kind)) ∧ ∀ L', OthOf kind b n L' → L' = L.map (mkI kind)) := by
      show _ ∧ _
      refine ⟨.inr ⟨hk3, L, hd, rfl⟩, ?_⟩
      rintro L' (⟨h3, T, hT', rfl⟩ | ⟨_, T, hT', rfl⟩)
      · exact absurd h3 hk3
      · rw [hu T hT']
    have hblk2 := HB1.out.below hb2 (lt_of_block HB1.out)
    have HB2 := Lib.hid hblk2
    have HE2 := Lib.hid (below_to HBE.out hb2)
    have HR0 : Hid (RemI w2 A2 L 0) := fun j hj _ => hs2 j hj
    have HLN := Lib.hid hln
    have HWF := Lib.hid hwf
    clear hd hu hs2 hwf hblk2 hb2
    rw [hln] at hc2 ⊢
    clear hln
    go_wp2_with fail
    go_loopw [15, 16, 51] (fun _ _ i wr => ∃ k : Nat, k ≤ n ∧ i = .int .i64 k ∧ Blk wr N 30 (((L.take k).map (mkI kind) ++ List.replicate (n - k) nulV).flatMap vlC) ∧ Below W.heap.size W wr ∧ RemI wr A2 L k) (fun _ _ i _ => n - (intOf i).toNat)
    case atStart => exact ⟨0, by omega, rfl, HB2.out, HE2.out, HR0.out⟩
    case round =>
      obtain ⟨k, hk, rfl, hblk, hbel, hsr⟩ := hrel
      have HBK := Lib.hid hblk
      have HBL := Lib.hid hbel
      have HSR := Lib.hid hsr
      clear hblk hbel hsr
      by_cases hlt : k < n
      · have h1 : k < L.length := by rw [HLN.out]; exact hlt
        obtain ⟨b2, o2, rfl, hcx⟩ := HSR.out k h1 (Nat.le_refl _)
        have hK : Hid (k < n) := hlt
        have HSET := Lib.hid (flat8_setM (mkI kind) h1 HLN.out)
        have hfl : k * 3 + 3 ≤ (((L.take k).map (mkI kind) ++ List.replicate (n - k) nulV).flatMap vlC).length := by
          rw [flat8_len, List.length_append, List.length_replicate, List.length_map, List.length_take, HLN.out]; omega
        have HFL := Lib.hid hfl
        have hof := mkI_of (k := kind) (HWF.out L[k] (List.getElem_mem h1))
        generalize L[k] = x at hcx HSET hof
        obtain ⟨f1, f2, f3⟩ := hof
        have hvc : vlC (mkI kind x) = [.int .i64 kind, .int .i64 x, .string ⟨#[]⟩] := by unfold vlC; rw [f1, f2, f3]
        have HVC := Lib.hid hvc
        clear hfl h1 f1 f2 f3 hvc
        skip
        go_wp2_with (with_reducible refine st_midN rfl 30 (.tmp 61) (.tmp 60) rfl 3 ?b1 N (k * 3) 30 (((L.take k).map (mkI kind) ++ List.replicate (n - k) nulV).flatMap vlC) [.int .i64 kind, .int .i64 x, .string ⟨#[]⟩] ?b2 ?b3 ?b4 ?b5 ?b6 ?b7 (Hid.out ?b8))
        case b1 => first | exact info8W | simpa using info8W
        try (case b2 => first | rfl | (simp; done))
        try (case b3 => rfl)
        case b4 => exact HBK.out
        try (case b5 => rfl)
        case b6 => exact HFL.out
        case b7 => rw [← HVC.out]; exact vlC_one _
        refine Lib.hid ?_
        rw [← HVC.out]
        have HB9 : Hid (Blk (wr.setCells N (k * 3) (vlC (mkI kind x))) N 30 (((L.take (k + 1)).map (mkI kind) ++ List.replicate (n - (k + 1)) nulV).flatMap vlC)) := by show Blk _ _ _ _; rw [← HSET.out]; exact Blk.storesN (vlC (mkI kind x)) _ (k * 3) wr HBK.out
        have HE9 := Lib.hid (Below.storesN (g := N) (by rw [HNN.out]; exact Nat.le_refl _) (vlC (mkI kind x)) (k * 3) _ HBL.out)
        have HR9 := Lib.hid (remI_step HLN.out hK.out HWF.out HSR.out HR0.out HB2.out HB9.out (w' := wr.setCells N (k * 3) (vlC (mkI kind x))) (fun p hp => World.cell?_of_block (heap_storesN (g := N) hp (vlC (mkI kind x)) (k * 3) wr)))
        clear hcx
        generalize wr.setCells N (k * 3) (vlC (mkI kind x)) = w9 at HB9 HE9 HR9 ⊢
        go_wp2
        go_roundw
        case rel => exact ⟨k + 1, hK.out, by go_num, HB9.out, HE9.out, HR9.out⟩
        case measure => simp [intOf]; have := hK.out; omega
      · obtain rfl : k = n := by omega
        have hbk := HBK.out
        rw [Nat.sub_self, List.replicate_zero, List.append_nil, List.take_of_length_le (by rw [HLN.out]; omega)] at hbk
        have HV := Lib.hid (vls_blk hbk)
        have hml : (L.map (mkI kind)).length = k := by rw [List.length_map, HLN.out]
        have HML := Lib.hid hml
        clear hbk hml
        go_wp2
        go_ret2
        exact ⟨HBL.out, .inl ⟨L.map (mkI kind), some ⟨N, 0, none⟩, k, HOK.out.1, HOK.out.2, by rw [HML.out]; rfl, HV.out, by rw [HML.out]; exact Nat.le_refl _, by omega, by simp, HML.out⟩⟩
  · have HNO : Hid (∀ L, ¬ OthOf kind b n L) := by
      show ∀ _, _
      rintro L' (⟨h3, T, hT', rfl⟩ | ⟨_, T, hT', rfl⟩)
      · exact absurd h3 hk3
      · exact hno T hT'
    have HER : Hid ((if (n : Int) < 0 ∨ 4096 < (n : Int) then (2 : Int) else 60) = 60) := by show _ = _; rw [if_neg (by omega)]
    have HE2 := Lib.hid (below_to HBE.out hb2)
    rw [HER.out]
    clear hno hb2
    go_wp2_with fail
    go_loopw [15, 16, 51] (fun _ _ i wr => i = .int .i64 0 ∧ wr = w2) (fun _ _ i _ => 0)
    case atStart => exact ⟨rfl, rfl⟩
    case round =>
      obtain ⟨rfl, rfl⟩ := hrel
      go_wp2
      go_ret2
      exact ⟨HE2.out, .inr ⟨HNO.out, _, _, rfl, by decide⟩⟩

theorem deco_any (kind : Int) (A : Option Addr) (cap : Nat) (b : List UInt8) (n : Nat) (W : World) (hb : Byt W A b) (hA : A = none → cap = 0) (hc : b.length ≤ cap) (hm : cap ≤ 9223372036854775807) (hL : b.length ≤ 140737488355328) (hn : n ≤ 1024) (hT : TabAt W) :
    Calls Tryd.prog 58 #[.int .i64 kind, .slice A b.length cap, .int .i64 (n : Int)] W (DecO W kind b n) := by
  by_cases h3 : kind = 3
  · subst h3; exact deco_t A cap b n W hb hA hc hm hL hn hT
  · exact deco_i kind h3 A cap b n W hb hA hc hm hL hn hT
end Go.Proofs.YtfgmdaemcaamiaaDoor
