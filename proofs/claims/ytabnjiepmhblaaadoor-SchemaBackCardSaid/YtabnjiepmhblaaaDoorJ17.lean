/- Joined texts: What stands between commas or blanks: the plain model, and the walk of the document's parts. The walk of parseColumn. -/
import Derived.Test.YtabnjiepmhblaaaDoorJ16
import Derived.Test.YtabnjiepmhblaaaDoorJ5
import Derived.Test.YtabnjiepmhblaaaDoorJ10
import Derived.Test.YtabnjiepmhblaaaDoorJ15
import Derived.Test.YtabnjiepmhblaaaDoorJ29
import Derived.Outline
/-! What stands between commas or blanks: the plain model, and the walk of the document's parts. -/
namespace Go.Proofs.YtabnjiepmhblaaaDoor
open Go.RowKit Go.Shelf Go.Maps
set_option linter.unusedVariables false

def partsL (c : UInt8) : List UInt8 → List (List UInt8)
  | [] => [[]]
  | x :: t => if x = c then [] :: partsL c t else (match partsL c t with | p :: ps => (x :: p) :: ps | [] => [[x]])
theorem parts_hit (c : UInt8) (r : List UInt8) : ∀ x : List UInt8, c ∉ x → partsL c (x ++ c :: r) = x :: partsL c r
  | [], _ => by simp [partsL]
  | a :: x, h => by
    have h1 : a ≠ c := fun e => h (by simp [e])
    rw [List.cons_append, partsL, if_neg h1, parts_hit c r x (fun hm => h (List.mem_cons_of_mem _ hm))]
theorem parts_end (c : UInt8) : ∀ x : List UInt8, c ∉ x → partsL c x = [x]
  | [], _ => rfl
  | a :: x, h => by
    have h1 : a ≠ c := fun e => h (by simp [e])
    rw [partsL, if_neg h1, parts_end c x (fun hm => h (List.mem_cons_of_mem _ hm))]
theorem parts_len (c : UInt8) : ∀ x : List UInt8, (partsL c x).length ≤ x.length + 1
  | [] => by simp [partsL]
  | a :: x => by
    have := parts_len c x
    rw [partsL]
    split
    · simp; omega
    · cases h : partsL c x with
      | nil => simp
      | cons p ps => rw [h] at this; simp at this ⊢; omega
theorem parts_small (c : UInt8) : ∀ x p : List UInt8, p ∈ partsL c x → p.length ≤ x.length
  | [], p, h => by
    have : p = [] := by simpa [partsL] using h
    simp [this]
  | a :: x, p, h => by
    rw [partsL] at h
    split at h
    · rcases List.mem_cons.1 h with rfl | h2
      · simp
      · have := parts_small c x p h2; simp; omega
    · cases hq : partsL c x with
      | nil => rw [hq] at h; have : p = [a] := by simpa using h
               simp [this]
      | cons q qs =>
        rw [hq] at h
        rcases List.mem_cons.1 h with rfl | h2
        · have := parts_small c x q (by rw [hq]; simp); simp; omega
        · have := parts_small c x p (by rw [hq]; exact List.mem_cons_of_mem _ h2); simp; omega

set_option maxHeartbeats 2000000 in
theorem refshow_no (A : Option Addr) (cap : Nat) (l : List Col) (W : World) (hl : Cols W A l) (hn : l.length ≤ 4000000000000000000) (hr : rightC l = false) :
    Calls Tryd.prog 7 #[.slice A l.length cap] W fun e W' => e = .returned (.tuple #[.string ⟨#[]⟩, .int .i64 50]) ∧ W = W' := by
  have hri := refrightC_any A cap l W hl hn
  rw [hr] at hri
  have HR := Lib.hid hri
  clear hri hl hr
  generalize l.length = n at HR hn
  go_enter Tryd.func7, Tryd.ntmps7
  go_wp2_with (first | (go_at_call 20; refine HR.out.mono ?_; rintro e w1 ⟨rfl, rfl⟩; clear HR))
  go_ret2
  exact ⟨rfl, rfl⟩

def strV (x : List UInt8) : Value := .string ⟨x.toArray⟩
/-- Texts in a row of the call's own, by their bytes. -/
def OwnP (w : World) (B : Nat) (v : Value) (l : List (List UInt8)) : Prop := w.ownsRow B 9 1 v l.length (l.map strV)
theorem app_txt {ops : Array Oper} {rest : List Oper} {o : Oper} {a : Act} {Q : Exit → Act → World → Prop} {w : World} (B : Nat) (w0 : World) (hgd : o.guard = none) (s x : Operand)
    (ho : o.op = .call { callee := .builtin .append, args := #[s, x], argTypes := #[45, 45] }) (v : Value) (d : List (List UInt8)) (hs : a.eval s = v) (hown : OwnP w B v d) (hB : B ≤ w.heap.size) (hbel : Below B w0 w)
    (g c : Nat) (q : List UInt8) (hx : a.eval x = .slice (some ⟨g, 0, none⟩) 1 c) (hq : Blk w g 9 [Value.string ⟨q.toArray⟩]) (hsz : d.length ≤ 4000000000)
    (h : ∀ v' w', OwnP w' B v' (d ++ [q]) → Below B w0 w' → wpList Tryd.prog ops Q rest (a.put o.dst v') w') : wpList Tryd.prog ops Q (o :: rest) a w := by
  obtain ⟨i0, hti, hz0, hz1, hz2⟩ := info_parts info_str
  refine wpList_append_own w hgd s x 45 ho B 9 i0 _ 1 16 Tryd.underlying45 hti hz0 hz1 hz2 rfl (by decide) v d.length (d.map strV) hs hown ⟨g, 0, none⟩ 1 c [Value.string ⟨q.toArray⟩] hx rfl
    (fun j u hj => by rw [Addr.add_lit, Nat.zero_add, hq.at_]; exact hj) (fun u hu => by have : u = Value.string ⟨q.toArray⟩ := by simpa using hu
                                                                                         subst this; rfl) (by unfold maxLen; omega) (by omega) hB ?_
  intro v' w' h1 h2 h5
  refine h v' w' ?_ (hbel.grown h2 hB (fun k hk => (World.ownsRow.lt hown k hk).1))
  show w'.ownsRow B 9 1 v' (d ++ [q]).length ((d ++ [q]).map _)
  rw [List.length_append, List.map_append, List.map_cons, List.map_nil]
  exact h1
theorem OwnP.form {w : World} {B : Nat} {v : Value} {l : List (List UInt8)} (h : OwnP w B v l) : ∃ A c, v = .slice A l.length c ∧ (A = none → l.length = 0) ∧ l.length ≤ c ∧ ∀ k (h : k < l.length), ∃ g, A = some ⟨g, 0, none⟩ ∧ w.cell? ⟨g, k, none⟩ = some (.string ⟨(l[k]).toArray⟩) := by
  obtain ⟨A, c, e, hA, hc, _, hcl⟩ := row_form h
  refine ⟨A, c, e, fun h => (hA h).2, hc, fun k hk => ?_⟩
  obtain ⟨g, e0, b0⟩ := hcl k _ (by rw [List.getElem?_map, List.getElem?_eq_getElem hk]; rfl)
  exact ⟨g, e0, b0⟩
/-- What parts leaves. -/
def MadeP (B : Nat) (W : World) (l : List (List UInt8)) (e : Ending) (W' : World) : Prop := ∃ v, e = .returned v ∧ OwnP W' B v l ∧ Below B W W'

theorem sl_data (s : ByteArray) (a b : Nat) : (s.extract a b).data.toList = (s.data.toList.take b).drop a := by
  rw [ByteArray.data_extract, Array.toList_extract]
  simp [List.extract_eq_take_drop, List.drop_take]
theorem ba_eq (s : ByteArray) : s = ⟨s.data.toList.toArray⟩ := by simp

set_option maxRecDepth 100000 in
set_option maxHeartbeats 4000000 in
theorem parts_any (s : ByteArray) (c : UInt8) (W : World) (hs : s.size ≤ 3000000000) :
    Calls Tryd.prog 24 #[.string s, .int .u8 (c.toNat : Int)] W (MadeP W.heap.size W (partsL c s.data.toList)) := by
  obtain ⟨B, hB⟩ : ∃ B, W.heap.size = B := ⟨_, rfl⟩
  rw [hB]
  have HBW := Lib.hid hB
  have HNL := Lib.hid (sz_list s)
  obtain ⟨R, hR⟩ : ∃ R, partsL c s.data.toList = R := ⟨_, rfl⟩
  rw [hR]
  have HR := Lib.hid hR
  clear hB hR
  go_enter Tryd.func24, Tryd.ntmps24
  go_wp2
  go_loopw [5, 6, 7] (fun x5 x6 x7 wr => ∃ i from_ : Nat, (i ≤ s.size + 1 ∧ from_ ≤ s.size + 1 ∧ from_ ≤ i) ∧ x7 = .int .i64 i ∧ x6 = .int .i64 from_ ∧ ∃ O, OwnP wr B x5 O ∧ O.length ≤ i ∧ Below B W wr ∧
      (i ≤ s.size → R = O ++ partsL c (s.data.toList.drop from_) ∧ c ∉ (s.data.toList.take i).drop from_) ∧ (i = s.size + 1 → R = O)) (fun _ _ x _ => s.size + 2 - (intOf x).toNat)
  case atStart => exact ⟨0, 0, ⟨by omega, by omega, by omega⟩, rfl, rfl, [], World.ownsRow_nil W _ 9 1, by simp, Below.refl _ _, fun _ => ⟨by rw [← HR.out]; rfl, by simp⟩, fun h => by omega⟩
  case round =>
    obtain ⟨i, from_, ⟨hi, hf, hfi⟩, rfl, rfl, O, hown, hol, hbel, hin, hend⟩ := hrel
    obtain ⟨Av, cv, rfl, _, _, _⟩ := hown.form
    obtain ⟨m, hm⟩ : ∃ m, O.length = m := ⟨_, rfl⟩
    rw [hm] at hown hol ⊢
    have HM := Lib.hid hm
    have HOWN := Lib.hid hown
    have HBEL := Lib.hid hbel
    have HIN := Lib.hid hin
    have HEND := Lib.hid hend
    have hBs : B ≤ wr.heap.size := by rw [← HBW.out]; exact (HBW.out ▸ hbel : Below W.heap.size W wr).size
    clear hown hbel hin hend hm
    by_cases hle : i ≤ s.size
    · obtain ⟨h1, h2⟩ := HIN.out hle
      obtain ⟨x, hx⟩ : ∃ x, s.extract from_ i = x := ⟨_, rfl⟩
      have hxd : x = ⟨((s.data.toList.take i).drop from_).toArray⟩ := by rw [← sl_data, ← hx]
      obtain ⟨q, hq⟩ : ∃ q, (s.data.toList.take i).drop from_ = q := ⟨_, rfl⟩
      rw [hq] at hxd h2
      have hso : ∀ W : World, (Instr.slice 9 (.string s) (some (.int .i64 (from_ : Int))) (some (.int .i64 (i : Int))) none).run Tryd.prog W = .ok (.string ⟨q.toArray⟩) W := fun W => by
        rw [← hxd, ← hx]; go_simp
      by_cases hn : i = s.size
      · have hcond : ((i : Int) == (s.size : Int)) = true := by rw [beq_iff_eq]; omega
        have hR2 : R = O ++ [q] := by
          rw [h1, parts_end]
          · rw [← hq, hn, List.take_of_length_le (by rw [HNL.out]; exact Nat.le_refl _)]
          · rwa [← hq, hn, List.take_of_length_le (by rw [HNL.out]; exact Nat.le_refl _)] at h2
        have HR2 := Lib.hid hR2
        have HI : Hid (i = s.size) := hn
        clear h1 h2 hx hxd hq hR2 hn HIN
        go_wp2_with (first | (refine app_txt B W rfl (.tmp 25) (.tmp 30) rfl (.slice Av m cv) O rfl (World.ownsRow.alloc HOWN.out _) (by simp; omega) (HBEL.out.alloc hBs _) wr.heap.size 1 q rfl (Blk.born wr _ [strV q]) (by have := HM.out; omega) ?_; intro v3 w3 hown3 hbel3; have HO3 := Lib.hid hown3; have HB3 := Lib.hid hbel3; clear hown3 hbel3))
        go_roundw
        case rel => exact ⟨i + 1, i + 1, ⟨by omega, by omega, by omega⟩, by go_num, by go_num, O ++ [q], HO3.out, by have := HM.out; rw [List.length_append, List.length_cons, List.length_nil]; omega, HB3.out, fun h => by have := HI.out; omega, fun _ => HR2.out⟩
        case measure => simp [intOf]; omega
      · have hlt : i < s.size := by omega
        have hcond : ((i : Int) == (s.size : Int)) = false := by rw [beq_eq_false_iff_ne]; omega
        have hget : s.data.toList[i]? = some (s[i]'hlt) := by rw [List.getElem?_eq_getElem (by rw [HNL.out]; exact hlt)]; rfl
        have htk : s.data.toList.take (i + 1) = s.data.toList.take i ++ [s[i]'hlt] := by rw [List.take_add_one, hget]; rfl
        have hsplit : s.data.toList.drop from_ = q ++ (s[i]'hlt) :: s.data.toList.drop (i + 1) := by
          have e : s.data.toList = s.data.toList.take i ++ (s[i]'hlt) :: s.data.toList.drop (i + 1) := by
            have h3 := List.drop_eq_getElem_cons (l := s.data.toList) (i := i) (by rw [HNL.out]; exact hlt)
            have h4 : s.data.toList[i]'(by rw [HNL.out]; exact hlt) = s[i]'hlt := rfl
            rw [h4] at h3
            rw [← h3, List.take_append_drop]
          rw [← hq]
          conv => lhs; rw [e]
          rw [List.drop_append_of_le_length (by rw [List.length_take, HNL.out]; omega)]
        obtain ⟨y, hy⟩ : ∃ y, s[i]'hlt = y := ⟨_, rfl⟩
        rw [hy] at htk hsplit
        have hget2 : s[i]? = some y := by rw [← hy]; exact getElem?_pos s i hlt
        have hidx : ∀ W : World, (Instr.index 9 (.string s) (.int .i64 (i : Int))).run Tryd.prog W = .ok (.int .u8 (y.toNat : Int)) W := fun W => by go_simp
        by_cases hyc : y = c
        · subst hyc
          have hc2 : ((y.toNat : Int) == (y.toNat : Int)) = true := by simp
          have hR2 : R = (O ++ [q]) ++ partsL y (s.data.toList.drop (i + 1)) := by rw [h1, hsplit, parts_hit _ _ _ h2]; simp
          have HR2 := Lib.hid hR2
          have HTK : Hid (y ∉ (s.data.toList.take (i + 1)).drop (i + 1)) := by show _ ∉ _; rw [List.drop_of_length_le (by rw [List.length_take]; omega)]; simp
          clear h1 h2 hx hxd hq hR2 htk hsplit hget hget2 hy HIN
          go_wp2_with (first | (refine app_txt B W rfl (.tmp 25) (.tmp 30) rfl (.slice Av m cv) O rfl (World.ownsRow.alloc HOWN.out _) (by simp; omega) (HBEL.out.alloc hBs _) wr.heap.size 1 q rfl (Blk.born wr _ [strV q]) (by have := HM.out; omega) ?_; intro v3 w3 hown3 hbel3; have HO3 := Lib.hid hown3; have HB3 := Lib.hid hbel3; clear hown3 hbel3))
          go_roundw
          case rel => exact ⟨i + 1, i + 1, ⟨by omega, by omega, by omega⟩, by go_num, by go_num, O ++ [q], HO3.out, by have := HM.out; rw [List.length_append, List.length_cons, List.length_nil]; omega, HB3.out, fun h => ⟨HR2.out, HTK.out⟩, fun h => by omega⟩
          case measure => simp [intOf]; omega
        · have hc2 : ((y.toNat : Int) == (c.toNat : Int)) = false := by rw [beq_eq_false_iff_ne]; intro h; exact hyc (UInt8.toNat_inj.1 (by omega))
          have hnm : c ∉ (s.data.toList.take (i + 1)).drop from_ := by
            rw [htk, List.drop_append_of_le_length (by rw [List.length_take, HNL.out]; omega), hq]
            intro hm2
            rcases List.mem_append.1 hm2 with h | h
            · exact h2 h
            · exact hyc (List.mem_singleton.1 h).symm
          have HNM := Lib.hid hnm
          have H1 := Lib.hid h1
          clear h1 h2 hx hxd hq htk hsplit hget hget2 hy hnm hyc HIN
          go_wp2
          go_roundw
          case rel => exact ⟨i + 1, from_, ⟨by omega, by omega, by omega⟩, by go_num, rfl, O, HOWN.out, by have := HM.out; omega, HBEL.out, fun h => ⟨H1.out, HNM.out⟩, fun h => by omega⟩
          case measure => simp [intOf]; omega
    · have HE : Hid (R = O) := HEND.out (by omega)
      clear HIN HEND
      go_wp2
      go_ret
      exact ⟨_, rfl, by rw [HE.out]; exact HOWN.out, HBEL.out⟩
end Go.Proofs.YtabnjiepmhblaaaDoor

/-! The walk of parseColumn. -/
namespace Go.Proofs.YtabnjiepmhblaaaDoor
open Go.RowKit Go.Shelf Go.Maps
set_option linter.unusedVariables false

/-- What parseColumn answers. -/
def pcR (s : List UInt8) : Value := match parseC s with
  | some x => .tuple #[colV (colP x), .int .i64 0]
  | none => .tuple #[.agg #[.string ⟨#[]⟩, .int .i64 0, .bool false], .int .i64 50]
/-- The kinds that are still to be tried. -/
def pK (r : List UInt8) (nl : Bool) : Nat → Option (List UInt8 × Int × Bool)
  | 0 => none
  | f + 1 => if Lib.hasSuffix r (kindT (3 - (f : Int))) then some (Lib.trimSuffix r (kindT (3 - (f : Int))), 3 - (f : Int), nl) else pK r nl f
theorem parseC_pK (s : List UInt8) : parseC s = pK (Lib.trimSuffix s nullT) (Lib.hasSuffix s nullT) 3 := rfl
theorem trim_len (s p : List UInt8) : (Lib.trimSuffix s p).length ≤ s.length := by
  unfold Lib.trimSuffix
  split
  · rw [List.length_take]; omega
  · exact Nat.le_refl _

theorem results_cellt {fn : Func} {p u : Tmp} {t : TypeId} (h : fn.results = #[.cell p t, .tmp u]) (tmps : Array Value) (P : Program) (w : World) :
    (results fn tmps).run P w = ((asAddr (tmps.getD p undef)).run P w).andThen fun a w₁ => ((loadVar t a).run P w₁).andThen fun x w₂ => .ok (.tuple #[x, tmps.getD u undef]) w₂ := by
  simp only [results, h]
  simp [Sem.run_bind, Result.andThen]
set_option maxRecDepth 100000 in
set_option maxHeartbeats 4000000 in
theorem parsecol_any (s : ByteArray) (W : World) (hs : s.size ≤ 140737488351232) :
    Calls Tryd.prog 23 #[.string s] W fun e W' => e = .returned (pcR s.data.toList) ∧ Below W.heap.size W W' := by
  have hcs := fun w => Tryd.strings_CutSuffix s ⟨#[32, 110, 117, 108, 108]⟩ w (by omega)
  obtain ⟨W1, hW1⟩ : ∃ x, x = W.alloc (Obj.cells #[Value.string ⟨#[]⟩, Value.int .i64 0, Value.bool false] 44) := ⟨_, rfl⟩
  have hB : Below W.heap.size W W1 := by rw [hW1]; exact (Below.refl _ _).alloc (Nat.le_refl _) _
  have hG : Blk W1 W.heap.size 44 [Value.string ⟨#[]⟩, Value.int .i64 0, Value.bool false] := by rw [hW1]; exact Blk.born W _ _
  have HP : Hid (pcR s.data.toList = match pK (Lib.trimSuffix s.data.toList nullT) (Lib.hasSuffix s.data.toList nullT) 3 with
      | some x => .tuple #[colV (colP x), .int .i64 0]
      | none => .tuple #[.agg #[.string ⟨#[]⟩, .int .i64 0, .bool false], .int .i64 50]) := rfl
  have hrl : (Lib.trimSuffix s.data.toList nullT).length ≤ 140737488351232 := Nat.le_trans (trim_len _ _) (by rw [sz_list]; exact hs)
  change ∀ w, Calls Tryd.prog 43 _ w (fun e w' => e = .returned (.tuple #[.string ⟨(Lib.trimSuffix s.data.toList nullT).toArray⟩, .bool (Lib.hasSuffix s.data.toList nullT)]) ∧ w' = w) at hcs
  obtain ⟨r, hr⟩ : ∃ r, Lib.trimSuffix s.data.toList nullT = r := ⟨_, rfl⟩
  obtain ⟨nl, hnl⟩ : ∃ r, Lib.hasSuffix s.data.toList nullT = r := ⟨_, rfl⟩
  rw [hr, hnl] at HP
  rw [hr] at hrl
  simp only [hr, hnl] at hcs
  generalize pcR s.data.toList = res at HP ⊢
  have HCS := Lib.hid hcs
  have HW1 := Lib.hid hW1
  obtain ⟨N, hN⟩ : ∃ N, W.heap.size = N := ⟨_, rfl⟩
  rw [hN] at hG hB ⊢
  have HBN := Lib.hid hB
  have HG := Lib.hid hG
  clear hcs hr hnl hW1 hB hG hs
  go_enter Tryd.func23, Tryd.ntmps23
  go_wp2_with (first | (go_at_call 43; refine (HCS.out _).mono ?_; rintro e w1 ⟨rfl, rfl⟩; clear HCS))
  rw [← HW1.out]
  go_loopw [6] (fun x6 wr => ∃ f : Nat, f ≤ 3 ∧ x6 = .int .i64 (4 - (f : Int)) ∧ pK r nl f = pK r nl 3 ∧ Blk wr N 44 [Value.string ⟨#[]⟩, Value.int .i64 0, Value.bool false] ∧ Below N W wr) (fun x _ => (4 - intOf x).toNat)
  case atStart => exact ⟨3, by omega, rfl, rfl, HG.out, HBN.out⟩
  case round =>
    obtain ⟨f, hf, rfl, hpk, hblk, hbel⟩ := hrel
    have HBLK := Lib.hid hblk
    have HBEL := Lib.hid hbel
    have HPK := Lib.hid hpk
    clear hblk hbel hpk HG HBN
    cases f with
    | zero =>
      have hno : res = .tuple #[.agg #[.string ⟨#[]⟩, .int .i64 0, .bool false], .int .i64 50] := by rw [HP.out, ← HPK.out]; rfl
      have HNO := Lib.hid hno
      clear hno
      go_wp2_with (first | (refine st_mid rfl 44 (.tmp 2) (.tmp 30) rfl 3 szCo N 0 44 _ [Value.string ⟨#[]⟩, Value.int .i64 0, Value.bool false] rfl rfl HBLK.out rfl (by decide) one_z ?_; intro w3 hb3 hs3; have HB3 := Lib.hid hb3; have HS3 := Lib.hid hs3; clear hb3 hs3))
      have k0 : w3.cell? ⟨N, 0, none⟩ = some (.string ⟨#[]⟩) := (HB3.out.at_ 0).trans rfl
      have k1 : w3.cell? ⟨N, 1, none⟩ = some (.int .i64 0) := (HB3.out.at_ 1).trans rfl
      have k2 : w3.cell? ⟨N, 2, none⟩ = some (.bool false) := (HB3.out.at_ 2).trans rfl
      refine bodyPost_ret (v := res) ?_ rfl ⟨rfl, HS3.out.below HBEL.out (Nat.le_refl _)⟩
      rw [HNO.out, results_cellt rfl]
      go_simp
    | succ f =>
      obtain ⟨kk, hkk⟩ : ∃ kk : Int, 4 - ((f + 1 : Nat) : Int) = kk := ⟨_, rfl⟩
      have hk3 : (3 - (f : Int)) = kk := by omega
      have hkb : 1 ≤ kk ∧ kk ≤ 3 := by omega
      have hkl : kk = 1 ∨ kk = 2 ∨ kk = 3 := by omega
      rw [hkk]
      have HKW := Lib.hid (fun w => kindword_any kk w)
      have hc := fun w => Tryd.strings_CutSuffix ⟨r.toArray⟩ ⟨(kindT kk).toArray⟩ w (by rw [bsz]; omega)
      have hstep := HPK.out
      rw [pK, hk3] at hstep
      have HFK : Hid (f ≤ 2 ∧ kk + 1 = 4 - (f : Int)) := ⟨by omega, by omega⟩
      cases hh : Lib.hasSuffix r (kindT kk) with
      | true =>
        rw [hh, if_pos rfl] at hstep
        have hyes : res = .tuple #[colV (colP (Lib.trimSuffix r (kindT kk), kk, nl)), .int .i64 0] := by rw [HP.out, ← hstep]
        have htl := trim_len r (kindT kk)
        have hcol : colV (colP (Lib.trimSuffix r (kindT kk), kk, nl)) = .agg #[.string ⟨(Lib.trimSuffix r (kindT kk)).toArray⟩, .int .i64 kk, .bool nl] := by
          unfold colV colP
          simp only
          rw [List.take_of_length_le (by omega)]
          rfl
        rw [hcol] at hyes
        change ∀ w, Calls Tryd.prog 43 _ w (fun e w' => e = .returned (.tuple #[.string ⟨(Lib.trimSuffix r (kindT kk)).toArray⟩, .bool (Lib.hasSuffix r (kindT kk))]) ∧ w' = w) at hc
        rw [hh] at hc
        generalize Lib.trimSuffix r (kindT kk) = q at hc hyes
        have HC := Lib.hid hc
        have HYES := Lib.hid hyes
        generalize kindT kk = kt at HKW HC
        clear hc hyes hstep htl hcol hkk hk3 hkl hh hrl
        go_wp2_with (first | (go_at_call 18; refine (HKW.out _).mono ?_; rintro e w1 ⟨rfl, rfl⟩; clear HKW) | (go_at_call 43; refine (HC.out _).mono ?_; rintro e w1 ⟨rfl, rfl⟩; clear HC) | (refine st_mid rfl 44 (.tmp 2) (.tmp 29) rfl 3 szCo N 0 44 _ [Value.string ⟨q.toArray⟩, Value.int .i64 kk, Value.bool nl] rfl rfl HBLK.out rfl (by decide) (one_c _ _ _) ?_; intro w3 hb3 hs3; have HB3 := Lib.hid hb3; have HS3 := Lib.hid hs3; clear hb3 hs3))
        have k0 : w3.cell? ⟨N, 0, none⟩ = some (.string ⟨q.toArray⟩) := (HB3.out.at_ 0).trans rfl
        have k1 : w3.cell? ⟨N, 1, none⟩ = some (.int .i64 kk) := (HB3.out.at_ 1).trans rfl
        have k2 : w3.cell? ⟨N, 2, none⟩ = some (.bool nl) := (HB3.out.at_ 2).trans rfl
        refine bodyPost_ret (v := res) ?_ rfl ⟨rfl, HS3.out.below HBEL.out (Nat.le_refl _)⟩
        rw [HYES.out, results_cellt rfl]
        go_simp
      | false =>
        rw [hh, if_neg (by simp)] at hstep
        change ∀ w, Calls Tryd.prog 43 _ w (fun e w' => e = .returned (.tuple #[.string ⟨(Lib.trimSuffix r (kindT kk)).toArray⟩, .bool (Lib.hasSuffix r (kindT kk))]) ∧ w' = w) at hc
        rw [hh] at hc
        generalize Lib.trimSuffix r (kindT kk) = q at hc
        have HC := Lib.hid hc
        have HSTEP := Lib.hid hstep
        generalize kindT kk = kt at HKW HC
        clear hc hstep hkk hk3 hkl hh hrl
        go_wp2_with (first | (go_at_call 18; refine (HKW.out _).mono ?_; rintro e w1 ⟨rfl, rfl⟩; clear HKW) | (go_at_call 43; refine (HC.out _).mono ?_; rintro e w1 ⟨rfl, rfl⟩; clear HC))
        go_roundw
        case rel => exact ⟨f, by have := HFK.out.1; omega, by rw [HFK.out.2], HSTEP.out, HBLK.out, HBEL.out⟩
        case measure => simp [intOf]; omega
end Go.Proofs.YtabnjiepmhblaaaDoor
