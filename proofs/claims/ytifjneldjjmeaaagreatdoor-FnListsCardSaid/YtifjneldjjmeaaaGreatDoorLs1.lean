import Derived.Laws.CopyOwn
import Derived.Lib.AppendZerosOnto
import Derived.Lib.Overlaps
import Derived.Deep.CutRange
import Derived.Deep.RegionLaw
import Derived.Laws.NewBlocks
import Derived.Lib.Strings
import Derived.Lib.Walk
import Derived.Lib.BufferWrite
import Derived.Lib.UnsafeStr
import Derived.Laws.MakeOwn
import Derived.Test.YtifjneldjjmeaaaGreatDoorLs0
set_option maxRecDepth 100000
set_option maxHeartbeats 1600000
namespace Go.Proofs.YtifjneldjjmeaaaGreatDoor
open Go.RowKit
theorem cellsEnt_len : ∀ (T : List EntD) (vs : List Value), vs.length = T.length → (cellsEnt T vs).length = T.length * 5
  | [], [], _ => rfl
  | [], _ :: _, h => absurd h (by simp)
  | _ :: _, [], h => absurd h (by simp)
  | a :: r, y :: s, h => by
    simp only [cellsEnt, List.length_cons]
    rw [cellsEnt_len r s (by simpa using h)]
    omega
theorem cellsEnt_drop : ∀ (T : List EntD) (vs : List Value) (j : Nat), vs.length = T.length → cellsEnt (T.drop j) (vs.drop j) = (cellsEnt T vs).drop (j * 5)
  | T, vs, 0, _ => by simp
  | [], [], j + 1, _ => by simp [cellsEnt]
  | [], _ :: _, _ + 1, h => absurd h (by simp)
  | _ :: _, [], _ + 1, h => absurd h (by simp)
  | a :: r, y :: s, j + 1, h => by
    rw [List.drop_succ_cons, List.drop_succ_cons, cellsEnt_drop r s j (by simpa using h), show (j + 1) * 5 = j * 5 + 5 by omega]
    simp only [cellsEnt]
    rw [Nat.add_comm (j * 5) 5, ← List.drop_drop]
    rfl
theorem cellsEnt_two : ∀ (a b : List EntD) (s t : List Value), s.length = a.length → cellsEnt (a ++ b) (s ++ t) = cellsEnt a s ++ cellsEnt b t
  | [], b, [], t, _ => rfl
  | [], _, _ :: _, _, h => absurd h (by simp)
  | _ :: _, _, [], _, h => absurd h (by simp)
  | A :: r, b, y :: s, t, h => by simp only [List.cons_append, cellsEnt]; rw [cellsEnt_two r b s t (by simpa using h)]
theorem cellsEnt_take (T : List EntD) (vs : List Value) (i : Nat) (h : vs.length = T.length) (hi : i ≤ T.length) : cellsEnt (T.take i) (vs.take i) = (cellsEnt T vs).take (i * 5) := by
  have e := cellsEnt_two (T.take i) (T.drop i) (vs.take i) (vs.drop i) (by simp [h])
  rw [List.take_append_drop, List.take_append_drop] at e
  have hl : (cellsEnt (T.take i) (vs.take i)).length = i * 5 := by
    rw [cellsEnt_len _ _ (by simp [h]), List.length_take, Nat.min_eq_left hi]
  rw [e, List.take_append_of_le_length (by omega)]
  exact (List.take_of_length_le (by omega)).symm
theorem cellsEnt_mix (T : List EntD) (vs : List Value) (F : EntD) (x : Value) (i j : Nat) (h : vs.length = T.length) (hi : i ≤ T.length) :
    cellsEnt (T.take i ++ F :: T.drop j) (vs.take i ++ x :: vs.drop j) = (cellsEnt T vs).take (i * 5) ++ (cells1E F x ++ (cellsEnt T vs).drop (j * 5)) := by
  rw [cellsEnt_two _ _ _ _ (by simp [h]), cellsEnt_take T vs i h hi]
  congr 1
  rw [← cellsEnt_drop T vs j h]
  rfl
theorem mix_get {α : Type} {L : List α} {i j k : Nat} {x y : α} (h : (L.take i ++ x :: L.drop j)[k]? = some y) (hi : i ≤ L.length) : (k = i ∧ y = x) ∨ (k < i ∧ L[k]? = some y) ∨ (i < k ∧ L[k - i - 1 + j]? = some y) := by
  rcases Nat.lt_trichotomy k i with hk | hk | hk
  · rw [List.getElem?_append_left (by simp; omega), List.getElem?_take, if_pos hk] at h
    exact .inr (.inl ⟨hk, h⟩)
  · subst hk
    rw [List.getElem?_append_right (by simp; omega), List.length_take, Nat.min_eq_left hi, Nat.sub_self] at h
    exact .inl ⟨rfl, (Option.some.inj h).symm⟩
  · rw [List.getElem?_append_right (by simp; omega), List.length_take, Nat.min_eq_left hi] at h
    obtain ⟨m, hm⟩ : ∃ m, k - i = m + 1 := ⟨k - i - 1, by omega⟩
    rw [hm, List.getElem?_cons_succ, List.getElem?_drop] at h
    exact .inr (.inr ⟨hk, by rw [← h]; congr 1; omega⟩)
theorem buildE_mix {W w' : World} {B g cap : Nat} {cur : Array Value} {T : List EntD} {F : EntD} {x : Value} {vs : List Value} {i j : Nat} (hij : i ≤ j) (hj : j ≤ T.length)
    (h1 : vs.length = T.length) (h3 : ∀ (j : Nat) (x : Value) (b : EntD), vs[j]? = some x → T[j]? = some b → RowText W B x b.val.items)
    (h4 : ∀ (i j : Nat) (x y : Value) (h : Nat), i ≠ j → vs[i]? = some x → vs[j]? = some y → x.ownBlock = some h → y.ownBlock ≠ some h)
    (hx : RowText W B x F.val.items) (hnew : ∀ h, x.ownBlock = some h → ∀ y ∈ vs, y.ownBlock ≠ some h)
    (hk : ∀ (b : Nat) (C : Array Value), W.heap[b]? = some (Obj.cells C 9 (0, 0)) → w'.heap[b]? = W.heap[b]?)
    (hg : w'.heap[g]? = some (.cells cur 40 (0, 0))) (hB : B ≤ g) {n : Nat} (hn : n = T.length - j + i + 1) (hnc : n ≤ cap) (hc : cap ≤ maxLen) (hs : cur.size = cap * 5)
    (ht : cur.toList.take (n * 5) = (cellsEnt T vs).take (i * 5) ++ (cells1E F x ++ (cellsEnt T vs).drop (j * 5))) : BuildE w' B (.slice (some ⟨g, 0, none⟩) n cap) (T.take i ++ F :: T.drop j) := by
  have hl : (T.take i ++ F :: T.drop j).length = n := by simp; omega
  have keep : ∀ {y : Value} {ts : List ByteArray}, RowText W B y ts → RowText w' B y ts := fun hy => rowText_keep hy (fun b hb => by
    obtain ⟨C, hC⟩ := text_block hy hb
    exact hk b C hC)
  refine ⟨vs.take i ++ x :: vs.drop j, by simp [h1], ⟨?_, .inr ⟨g, cap, cur, by rw [hl], hB, hg, by omega, hc, hs, ?_⟩⟩, ?_, ?_⟩
  · rw [cellsEnt_mix T vs F x i j h1 (by omega), ← ht, List.length_take]
    simp only [Array.length_toList]
    rw [hl]
    have : n * 5 ≤ cap * 5 := Nat.mul_le_mul_right 5 hnc
    omega
  · rw [hl, ht, cellsEnt_mix T vs F x i j h1 (by omega)]
  · intro k y b hy hb
    rcases mix_get hy (by omega) with ⟨e, rfl⟩ | ⟨e, hy⟩ | ⟨e, hy⟩
    · rcases mix_get hb (by omega) with ⟨-, rfl⟩ | ⟨e2, -⟩ | ⟨e2, -⟩
      · exact keep hx
      · omega
      · omega
    · rcases mix_get hb (by omega) with ⟨e2, -⟩ | ⟨-, hb⟩ | ⟨e2, -⟩
      · omega
      · exact keep (h3 _ _ _ hy hb)
      · omega
    · rcases mix_get hb (by omega) with ⟨e2, -⟩ | ⟨e2, -⟩ | ⟨-, hb⟩
      · omega
      · omega
      · exact keep (h3 _ _ _ hy hb)
  · intro k m y z h hkm hy hz hh
    rcases mix_get hy (by omega) with ⟨e, ey⟩ | ⟨e, hy2⟩ | ⟨e, hy2⟩
    · rw [ey] at hh
      rcases mix_get hz (by omega) with ⟨e2, -⟩ | ⟨-, hz2⟩ | ⟨-, hz2⟩
      · omega
      · exact hnew h hh z (List.mem_of_getElem? hz2)
      · exact hnew h hh z (List.mem_of_getElem? hz2)
    · rcases mix_get hz (by omega) with ⟨e2, ez⟩ | ⟨e2, hz2⟩ | ⟨e2, hz2⟩
      · rw [ez]
        exact fun h5 => hnew h h5 y (List.mem_of_getElem? hy2) hh
      · exact h4 _ _ _ _ h hkm hy2 hz2 hh
      · exact h4 _ _ _ _ h (by omega) hy2 hz2 hh
    · rcases mix_get hz (by omega) with ⟨e2, ez⟩ | ⟨e2, hz2⟩ | ⟨e2, hz2⟩
      · rw [ez]
        exact fun h5 => hnew h h5 y (List.mem_of_getElem? hy2) hh
      · exact h4 _ _ _ _ h (by omega) hy2 hz2 hh
      · exact h4 _ _ _ _ h (by omega) hy2 hz2 hh
theorem run_storeCells_row {P : Program} {w : World} {g o : Nat} {cur : Array Value} {t : TypeId} {cs : List Value} (hg : w.heap[g]? = some (.cells cur t (0, 0))) (hfit : o + cs.length ≤ cur.size) (h1 : ∀ v ∈ cs, v.oneCell' = true) :
    (storeCells ⟨g, o, none⟩ cs 0).run P w = .ok () (w.setRow g (cur.toList.take o ++ cs ++ cur.toList.drop (o + cs.length)).toArray) :=
  run_storeCells_at (P := P) g o t cs 0 cur w hg hfit h1
theorem run_copy_k {P : Program} (w : World) (dT sT ty elem : TypeId) (z g o dLen dCap : Nat) (ad : Addr) (sLen sCap : Nat) (cur : Array Value) (t : TypeId) (cs : List Value) (n : Nat)
    (hu : P.underlying dT = some (.slice elem)) (hs : (P.info? elem).map (·.size) = some z) (hg : w.heap[g]? = some (.cells cur t (0, 0))) (hn : Nat.min sLen dLen = n) (hl : cs.length = n * z)
    (hsrc : ∀ j v, cs[j]? = some v → w.cell? (ad.add j) = some v) (hfit : o + cs.length ≤ cur.size) (h1 : ∀ v ∈ cs, v.oneCell' = true) :
    (Builtin.copy_ #[dT, sT] ty #[.slice (some ⟨g, o, none⟩) dLen dCap, .slice (some ad) sLen sCap]).run P w = .ok (goInt n) (w.setRow g (cur.toList.take o ++ cs ++ cur.toList.drop (o + cs.length)).toArray) := by
  have hld := run_loadCells_list (P := P) w ad cs hsrc
  rw [hl] at hld
  have hst := run_storeCells_row (P := P) hg hfit h1
  cases hq : P.info? elem with
  | none => simp [hq] at hs
  | some i =>
    have hi : i.size = z := by simpa [hq] using hs
    simp only [Nat.min_def] at hn
    simp [Builtin.copy_, run_underlying hu, Builtin.lenOf, Builtin.firstCells, sizeOf, typeInfo, hq, hi, hn, hld, hst, Nat.min_def]
theorem step_copyR {P : Program} {ops : Array Oper} {o : Oper} {a : Act} {w : World} {K : Act → World → Prop} {Q : Exit → Act → World → Prop} {E : Prop}
    (hg : o.guard = none) (d x : Operand) (dT sT : TypeId) (hop : o.op = Op.call { callee := Callee.builtin Builtin.copy, args := #[d, x], argTypes := #[dT, sT] })
    (v u : Value) (hd : a.eval d = v) (hx : a.eval x = u) {v' : Value} {w' : World} (hr : (Builtin.copy_ #[dT, sT] o.type #[v, u]).run P w = .ok v' w') (hK : K (a.put o.dst v') w') :
    if Region.wanted o (yielded ops a.tmps) = true then Oper.wp P o a w K Q else E := by
  have hw : Region.wanted o (yielded ops a.tmps) = true := by simp [Region.wanted, hg]
  rw [if_pos hw]
  unfold Oper.wp
  simp [execOp, hop, resolve, invoke, builtin, hd, hx, hr, Result.andThen]
  exact hK
def InsP (B : Nat) (w : World) (T : List EntD) (F : EntD) (i : Nat) (e : Ending) (w' : World) : Prop := (∃ v', e = .returned v' ∧ BuildE w' B v' (T.take i ++ F :: T.drop i)) ∧ Below B w w' ∧
  ∀ (b : Nat) (C : Array Value) (t : TypeId), w.heap[b]? = some (.cells C t (0, 0)) → (t == 40) = false → w'.heap[b]? = w.heap[b]?
theorem laid_up {R P Y Z : List Value} {a b c : Nat} (hR : a + b + c ≤ R.length) (hP : R.take a = P) (hY : Y.length = b) (hZ : Z.length = c) :
    ((R.take a ++ Y ++ R.drop (a + b)).take (a + b) ++ Z ++ (R.take a ++ Y ++ R.drop (a + b)).drop (a + b + c)).take (a + b + c) = P ++ (Y ++ Z) := by
  have h1 : (R.take a ++ Y).length = a + b := by simp; omega
  have e1 : (R.take a ++ Y ++ R.drop (a + b)).take (a + b) = P ++ Y := by
    rw [List.take_append_of_le_length (by omega), hP]
    exact List.take_of_length_le (by rw [hP] at h1; omega)
  have h2 : (P ++ Y).length = a + b := by rw [← hP]; exact h1
  rw [e1, List.take_append_of_le_length (by rw [List.length_append]; omega), ← List.append_assoc]
  exact List.take_of_length_le (by rw [List.length_append]; omega)
theorem laid_down {R P Y Z : List Value} {a b c : Nat} (hR : a + b + c ≤ R.length) (hP : R.take a = P) (hY : Y.length = b) (hZ : Z.length = c) :
    ((R.take (a + b) ++ Z ++ R.drop (a + b + c)).take a ++ Y ++ (R.take (a + b) ++ Z ++ R.drop (a + b + c)).drop (a + b)).take (a + b + c) = P ++ (Y ++ Z) := by
  have h1 : (R.take (a + b)).length = a + b := by simp; omega
  have e1 : (R.take (a + b) ++ Z ++ R.drop (a + b + c)).take a = P := by
    rw [List.append_assoc, List.take_append_of_le_length (by omega), List.take_take, Nat.min_eq_left (by omega), hP]
  have e2 : (R.take (a + b) ++ Z ++ R.drop (a + b + c)).drop (a + b) = Z ++ R.drop (a + b + c) := by
    rw [List.append_assoc, List.drop_append_of_le_length (by omega), List.drop_of_length_le (by omega), List.nil_append]
  have hPl : P.length = a := by rw [← hP]; simp; omega
  rw [e1, e2, ← List.append_assoc, List.take_append_of_le_length (by simp; omega), List.take_of_length_le (by simp; omega), List.append_assoc]
theorem cells_one {W : World} {B : Nat} : ∀ (T : List EntD) (vs : List Value), vs.length = T.length → (∀ (j : Nat) (x : Value) (b : EntD), vs[j]? = some x → T[j]? = some b → RowText W B x b.val.items) → ∀ u ∈ cellsEnt T vs, Value.oneCell' u = true
  | [], _, _, _, u, hu => by simp [cellsEnt] at hu
  | _ :: _, [], h, _, _, _ => absurd h (by simp)
  | a :: r, y :: s, h, hk, u, hu => by
    rw [show cellsEnt (a :: r) (y :: s) = cells1E a y ++ cellsEnt r s from rfl] at hu
    rcases List.mem_append.1 hu with hu | hu
    · exact five_one (hk 0 y a rfl rfl) _ u hu
    · exact cells_one r s (by simpa using h) (fun j x b hx hb => hk (j + 1) x b (by simpa using hx) (by simpa using hb)) u hu
theorem insE_end (T : List EntD) (F : EntD) (W0 w : World) (B k : Nat) (v x : Value) (hbuild : BuildE W0 B v T) (hBs : B ≤ W0.heap.size) (hb : Below W0.heap.size W0 w)
    (hx : RowText w W0.heap.size x F.val.items) (hblk : w.heap[k]? = some (.cells #[.string F.key, .int .i64 F.val.kind, .int .i64 F.val.til, .string F.val.text, x] 40 (0, 0))) (hl : T.length ≤ 1048576) :
    Calls Tryz.prog 140 #[v, .int .i64 T.length, .slice (some ⟨k, 0, none⟩) 1 1] w (InsP B w T F T.length) := by
  obtain ⟨i0, hi, hz0, hz1, hz2⟩ := info_parts Tryz.infoEntry
  obtain ⟨vs, h1, h2, h3, h4⟩ := hbuild
  have HOWN := hide (ownsRow_below h2 hb)
  have DONE : Hid (∀ v' w', w'.ownsRow B 40 5 v' (T.length + 1) (cellsEnt T vs ++ cells1E F x) → w.grownBy w' v.ownBlock → InsP B w T F T.length (.returned v') w') := fun v' w' ho hg => by
    refine ⟨⟨v', rfl, ?_⟩, (Below.refl B w).grown hg (Nat.le_trans hBs hb.size) (fun k hk => (HOWN.out.lt k hk).1), fun b C t hC ht => hg.block b (obj_lt hC) (fun e => ?_)⟩
    rotate_left
    · obtain ⟨C', hC'⟩ := owns_blockE HOWN.out e.symm
      rw [hC] at hC'
      simp at hC'
      rw [hC'.2] at ht
      simp at ht
    rw [List.take_length, List.drop_length]
    exact buildE_after hBs hb h1 h2 h3 h4 hx (by rw [List.length_append]; exact ho) hg
  have HN : Hid (∀ j u, (cells1E F x)[j]? = some u → w.cell? ((⟨k, 0, none⟩ : Addr).add j) = some u) := fun j u hj => World.news_of_block hblk j u hj
  have H1 : Hid (∀ u ∈ cells1E F x, Value.oneCell' u = true) := five_one hx _
  have hBw := Nat.le_trans hBs hb.size
  clear hx hblk h2 h3 h4 hb
  rcases HOWN.out.2 with ⟨rfl, h0⟩ | ⟨g, cap, cur, rfl, hBg, hC, hle, hcl, hs, ht⟩
  · rw [h0] at HOWN DONE ⊢
    go_enter Tryz.func140, Tryz.ntmps140
    go_wp2_with (at_builtin; go_loud (refine wpList_append_own_at _ (by rfl) _ _ 24 (by rfl) B 40 i0 _ 5 72 Tryz.underlying24 hi hz0 hz1 hz2 rfl (by decide) (.slice none 0 0) 0 (cellsEnt T vs) (by rfl) HOWN.out ⟨k, 0, none⟩ 1 1 (cells1E F x) (by rfl) rfl HN.out H1.out (by unfold maxLen; omega) (by omega) hBw ?_); intro v9 w9 ho hg _ _; have HF := hide (DONE.out v9 w9 ho hg); clear ho hg)
    go_ret
    exact HF.out
  · clear hC hs ht
    have hc63 : cap ≤ 9223372036854775807 := by unfold maxLen at hcl; omega
    go_enter Tryz.func140, Tryz.ntmps140
    go_wp2_with (at_builtin; go_loud (refine wpList_append_own_at _ (by rfl) _ _ 24 (by rfl) B 40 i0 _ 5 72 Tryz.underlying24 hi hz0 hz1 hz2 rfl (by decide) (.slice (some ⟨g, 0, none⟩) T.length cap) T.length (cellsEnt T vs) (by rfl) HOWN.out ⟨k, 0, none⟩ 1 1 (cells1E F x) (by rfl) rfl HN.out H1.out (by unfold maxLen; omega) (by omega) hBw ?_); intro v9 w9 ho hg _ _; have HF := hide (DONE.out v9 w9 ho hg); clear ho hg)
    all_goals go_ret
    all_goals exact HF.out
theorem insE_shift (T : List EntD) (F : EntD) (w : World) (B k g cap i : Nat) (cur : Array Value) (x : Value) (vs : List Value) (h1 : vs.length = T.length) (hBg : B ≤ g)
    (hC : w.heap[g]? = some (.cells cur 40 (0, 0))) (hcl : cap ≤ maxLen) (hs : cur.size = cap * 5) (ht : cur.toList.take (T.length * 5) = cellsEnt T vs)
    (h3 : ∀ (j : Nat) (x : Value) (b : EntD), vs[j]? = some x → T[j]? = some b → RowText w B x b.val.items)
    (h4 : ∀ (i j : Nat) (x y : Value) (h : Nat), i ≠ j → vs[i]? = some x → vs[j]? = some y → x.ownBlock = some h → y.ownBlock ≠ some h) (h5 : ∀ u ∈ cellsEnt T vs, Value.oneCell' u = true)
    (hx : RowText w B x F.val.items) (hnew : ∀ h, x.ownBlock = some h → ∀ y ∈ vs, y.ownBlock ≠ some h) (hkg : k ≠ g)
    (hblk : w.heap[k]? = some (.cells #[.string F.key, .int .i64 F.val.kind, .int .i64 F.val.til, .string F.val.text, x] 40 (0, 0))) (hl : T.length ≤ 1048576) (hi : i < T.length) (hroom : T.length + 1 ≤ cap) :
    Calls Tryz.prog 140 #[.slice (some ⟨g, 0, none⟩) T.length cap, .int .i64 i, .slice (some ⟨k, 0, none⟩) 1 1] w (InsP B w T F i) := by
  obtain ⟨i0, hi0, hz0, hz1, hz2⟩ := info_parts Tryz.infoEntry
  have hsz : (Tryz.prog.info? 40).map (·.size) = some 5 := by rw [hi0]; simp [hz1]
  have hcells := cellsEnt_len T vs h1
  obtain ⟨Z, hZ⟩ : ∃ Z, Z = (cellsEnt T vs).drop (i * 5) := ⟨_, rfl⟩
  obtain ⟨A1, hA1⟩ : ∃ A1, A1 = (cur.toList.take (i * 5 + 5) ++ Z ++ cur.toList.drop (i * 5 + 5 + (T.length - i) * 5)).toArray := ⟨_, rfl⟩
  obtain ⟨A2, hA2⟩ : ∃ A2, A2 = (A1.toList.take (i * 5) ++ cells1E F x ++ A1.toList.drop (i * 5 + 5)).toArray := ⟨_, rfl⟩
  have hZl : Z.length = (T.length - i) * 5 := by rw [hZ, List.length_drop, hcells]; omega
  have hcsz : (T.length + 1) * 5 ≤ cur.size := by rw [hs]; exact Nat.mul_le_mul_right 5 hroom
  have hA1s : A1.size = cur.size := by rw [hA1]; simp [hZl]; omega
  have hA2s : A2.size = cur.size := by rw [hA2]; simp [cells1E]; omega
  have hFin : A2.toList.take ((T.length + 1) * 5) = (cellsEnt T vs).take (i * 5) ++ (cells1E F x ++ (cellsEnt T vs).drop (i * 5)) := by
    have e : (T.length + 1) * 5 = i * 5 + 5 + (T.length - i) * 5 := by omega
    have hP : cur.toList.take (i * 5) = (cellsEnt T vs).take (i * 5) := by
      rw [← ht, List.take_take, Nat.min_eq_left (by omega)]
    rw [hA2, hA1, e, ← hZ]
    exact laid_down (by simp; omega) hP rfl hZl
  have hcp1 : ∀ W : World, W.heap = w.heap → ∀ ty dc sc, (Builtin.copy_ #[24, 24] ty #[.slice (some ⟨g, (i + 1) * 5, none⟩) (T.length - i) dc, .slice (some ⟨g, i * 5, none⟩) (T.length + 1 - i) sc]).run Tryz.prog W = .ok (goInt ((T.length - i : Nat))) (W.setRow g A1) := fun W hW ty dc sc => by
    have := run_copy_k (P := Tryz.prog) W 24 24 ty 40 5 g ((i + 1) * 5) (T.length - i) dc ⟨g, i * 5, none⟩ (T.length + 1 - i) sc cur 40 Z (T.length - i) Tryz.underlying24 hsz (by rw [hW]; exact hC) (by simp only [Nat.min_def]; split <;> omega) hZl
      (fun j u hj => by
        rw [Addr.add_lit]
        have hC2 : W.heap[g]? = some (.cells cur 40 (0, 0)) := by rw [hW]; exact hC
        refine (cell_of_row W g _ _ _ (0, 0) hC2).trans ?_
        rw [hZ, List.getElem?_drop] at hj
        have hlt : i * 5 + j < (cellsEnt T vs).length := by
          rcases Nat.lt_or_ge (i * 5 + j) (cellsEnt T vs).length with h | h
          · exact h
          · rw [List.getElem?_eq_none h] at hj; cases hj
        rw [← ht, List.getElem?_take, if_pos (by omega)] at hj
        simpa using hj) (by rw [hZl]; omega) (fun u hu => h5 u (by rw [hZ] at hu; exact List.mem_of_mem_drop hu))
    rw [this, hA1, hZl, show (i + 1) * 5 = i * 5 + 5 by omega]
  have hcp2 : ∀ W : World, W.heap = (w.setRow g A1).heap → ∀ ty dc, (Builtin.copy_ #[24, 24] ty #[.slice (some ⟨g, i * 5, none⟩) (T.length + 1 - i) dc, .slice (some ⟨k, 0, none⟩) 1 1]).run Tryz.prog W = .ok (goInt ((1 : Nat))) (W.setRow g A2) := fun W hW ty dc => by
    have hWk : W.heap[k]? = some (.cells #[.string F.key, .int .i64 F.val.kind, .int .i64 F.val.til, .string F.val.text, x] 40 (0, 0)) := by rw [hW, setRow_other w g k A1 hkg]; exact hblk
    have := run_copy_k (P := Tryz.prog) W 24 24 ty 40 5 g (i * 5) (T.length + 1 - i) dc ⟨k, 0, none⟩ 1 1 A1 40 (cells1E F x) 1 Tryz.underlying24 hsz (by rw [hW]; exact setRow_heap w g _ _ _ _ hC) (by simp only [Nat.min_def]; split <;> omega) rfl
      (fun j u hj => World.news_of_block hWk j u hj) (by simp [cells1E]; omega) (five_one hx _)
    rw [this, hA2]
    rfl
  have HDONE : Hid (∀ W : World, W.heap = ((w.setRow g A1).setRow g A2).heap → (∀ B0, B0 ≤ g → Below B0 w W) → InsP B w T F i (.returned (.slice (some ⟨g, 0, none⟩) (T.length + 1) cap)) W) := fun W hW hbel => by
    have hoth : ∀ (b : Nat) (C : Array Value) (t : TypeId), w.heap[b]? = some (.cells C t (0, 0)) → (t == 40) = false → W.heap[b]? = w.heap[b]? := fun b C t hb ht => by
      have hne : b ≠ g := fun e => by
        rw [e, hC] at hb
        simp at hb
        rw [← hb.2] at ht
        simp at ht
      rw [hW, setRow_other _ g b _ hne, setRow_other _ g b _ hne]
    refine ⟨⟨_, rfl, ?_⟩, hbel B hBg, hoth⟩
    refine buildE_mix (W := w) (cur := A2) (Nat.le_refl i) (by omega) h1 h3 h4 hx hnew (fun b C hb => ?_) ?_ hBg (by omega) (by omega) hcl (by rw [hA2s]; exact hs) hFin
    · have hne : b ≠ g := fun e => by
        rw [e, hC] at hb
        simp at hb
      rw [hW, setRow_other _ g b _ hne, setRow_other _ g b _ hne]
    · rw [hW]
      exact setRow_heap _ g _ _ _ _ (setRow_heap w g _ _ _ _ hC)
  have hov : ∀ lb cb, (callFunc 149 #[.slice (some ⟨k, 0, none⟩) 1 1, .slice (some ⟨g, (i + 1) * 5, none⟩) lb cb]).run Tryz.prog w = .ok (.value (.bool false)) w := fun lb cb => by
    rw [run_callFunc_extern Tryz.func149 (by kernel_rfl) (by kernel_rfl) (by kernel_rfl) (e := Extern.SlicesOverlaps.overlaps #[24, 24] #[4]) (by kernel_rfl),
      Lib.run_overlaps_apart w 24 4 40 Tryz.underlying24 5 Tryz.sizeOf40 ⟨k, 0, none⟩ ⟨g, (i + 1) * 5, none⟩ 1 1 lb cb hkg 40 40 5 (cap * 5) (by simp [World.shape?, hblk]) (by simp [World.shape?, hC, hs]) (by omega) (by simp [World.frozen?, hblk]) (by simp [World.frozen?, hblk])]
    rfl
  have hc63 : cap ≤ 9223372036854775807 := by unfold maxLen at hcl; omega
  have hw1 : IntKind.i64.wrap ((i : Int) + 1) = (i : Int) + 1 := by rw [IntKind.wrap_i64]; omega
  have hw2 : IntKind.i64.wrap ((T.length : Int) + 1) = (T.length : Int) + 1 := by rw [IntKind.wrap_i64]; omega
  have hne : ¬ ((i : Int) = (T.length : Int)) := by omega
  have hb1 : (0 : Int) ≤ (i : Int) + 1 := by omega
  have hin : (i : Int) ≤ (T.length : Int) := by omega
  have htn : ((i : Int) + 1).toNat = i + 1 := by omega
  have hb2 : ¬ (cap = i + 1) := by omega
  have hb3 : (i : Int) ≤ (T.length : Int) + 1 := by omega
  have hb4 : ¬ (cap = i) := by omega
  have hb5 : ¬ ((cap : Int) < (T.length : Int) + 1) := by omega
  have hb6 : (T.length : Int) + 1 ≤ (cap : Int) := by omega
  have HX := hide (And.intro hcp1 (And.intro hcp2 hblk))
  clear hA1 hA2 hZ hFin h3 h4 h5 hx hnew hblk hcp1 hcp2 hsz hZl hA1s hA2s hcsz hcells
  go_enter Tryz.func140, Tryz.ntmps140
  go_wp2_with (simp only [hov])
  go_region_law (go_loud (refine step_copyR (by rfl) _ _ 24 24 rfl (.slice (some ⟨g, (i + 1) * 5, none⟩) (T.length - i) (cap - (i + 1))) (.slice (some ⟨g, i * 5, none⟩) (T.length + 1 - i) (cap - i)) (by simp [Act.eval, Act.put]) (by simp [Act.eval, Act.put]) (HX.out.1 _ (by rfl) _ _ _) ?_))
  have hq : ∀ ty dc, (Builtin.copy_ #[24, 24] ty #[.slice (some ⟨g, i * 5, none⟩) (T.length + 1 - i) dc, .slice (some ⟨k, 0, none⟩) 1 1]).run Tryz.prog (w.drew.setRow g A1) = .ok (goInt ((1 : Nat))) ((w.drew.setRow g A1).setRow g A2) := HX.out.2.1 (w.drew.setRow g A1) rfl
  go_wp2_with (simp only [hq])
  go_ret
  exact HDONE.out _ rfl (fun B0 h => below_setRow (below_setRow ((Below.refl B0 w).drew) h A1) h A2)
theorem insE_grow (T : List EntD) (F : EntD) (w : World) (B k g cap i : Nat) (cur : Array Value) (x : Value) (vs : List Value) (h1 : vs.length = T.length) (hBw : B ≤ w.heap.size)
    (hC : w.heap[g]? = some (.cells cur 40 (0, 0))) (hcl : cap ≤ maxLen) (hle : T.length ≤ cap) (ht : cur.toList.take (T.length * 5) = cellsEnt T vs)
    (h3 : ∀ (j : Nat) (x : Value) (b : EntD), vs[j]? = some x → T[j]? = some b → RowText w B x b.val.items)
    (h4 : ∀ (i j : Nat) (x y : Value) (h : Nat), i ≠ j → vs[i]? = some x → vs[j]? = some y → x.ownBlock = some h → y.ownBlock ≠ some h) (h5 : ∀ u ∈ cellsEnt T vs, Value.oneCell' u = true)
    (hx : RowText w B x F.val.items) (hnew : ∀ h, x.ownBlock = some h → ∀ y ∈ vs, y.ownBlock ≠ some h)
    (hblk : w.heap[k]? = some (.cells #[.string F.key, .int .i64 F.val.kind, .int .i64 F.val.til, .string F.val.text, x] 40 (0, 0))) (hl : T.length ≤ 1048576) (hi : i < T.length) (hroom : cap < T.length + 1) :
    Calls Tryz.prog 140 #[.slice (some ⟨g, 0, none⟩) T.length cap, .int .i64 i, .slice (some ⟨k, 0, none⟩) 1 1] w (InsP B w T F i) := by
  obtain ⟨i0, hi0, hz0, hz1, hz2⟩ := info_parts Tryz.infoEntry
  have hsz : (Tryz.prog.info? 40).map (·.size) = some 5 := by rw [hi0]; simp [hz1]
  have hcells := cellsEnt_len T vs h1
  have hgw : g < w.heap.size := obj_lt hC
  have hkw : k < w.heap.size := obj_lt hblk
  have srcCells : ∀ (W : World) (a : Nat), W.heap[g]? = some (.cells cur 40 (0, 0)) → ∀ j u, ((cellsEnt T vs).drop a)[j]? = some u → W.cell? ⟨g, a + j, none⟩ = some u := fun W a hW j u hj => by
    refine (cell_of_row W g _ _ _ (0, 0) hW).trans ?_
    rw [List.getElem?_drop] at hj
    have hlt : a + j < (cellsEnt T vs).length := by
      rcases Nat.lt_or_ge (a + j) (cellsEnt T vs).length with h | h
      · exact h
      · rw [List.getElem?_eq_none h] at hj; cases hj
    rw [← ht, List.getElem?_take, if_pos (by omega)] at hj
    simpa using hj
  have hold : (Builtin.firstCells i0.size i (.slice (some ⟨g, 0, none⟩) i cap)).run Tryz.prog w.drew = .ok ((cellsEnt T vs).take (i * 5)).toArray w.drew := by
    rw [hz1]
    exact run_firstCells_some w.drew 5 i ⟨g, 0, none⟩ i cap _ (by rw [List.length_take]; omega) (fun j v hj => by
      rw [Addr.add_lit, Nat.zero_add]
      rw [List.getElem?_take] at hj
      split at hj
      · have := srcCells w.drew 0 hC j v (by rw [List.drop_zero]; exact hj)
        rwa [Nat.zero_add] at this
      · cases hj)
  have hkk : (T.length : Int) + 1 - (i : Int) = ((T.length + 1 - i : Nat) : Int) := by omega
  have hik : i + (T.length + 1 - i) = T.length + 1 := by omega
  have hrz : ∀ ty, (Builtin.append_ #[24, 3] ty #[.slice (some ⟨g, 0, none⟩) i cap, .int .i64 ((T.length : Int) + 1 - (i : Int))]).run Tryz.prog w =
      .ok (.slice (some ⟨w.heap.size, 0, none⟩) (T.length + 1) (grownCap w (T.length + 1) cap 40)) (w.drew.alloc (.cells (((cellsEnt T vs).take (i * 5)).toArray ++ Builtin.zeroCells (Value.agg #[.string ⟨#[]⟩, .int .i64 0, .int .i64 0, .string ⟨#[]⟩, .slice none 0 0]).cells (T.length + 1 - i) ++ Builtin.zeroCells (Value.agg #[.string ⟨#[]⟩, .int .i64 0, .int .i64 0, .string ⟨#[]⟩, .slice none 0 0]).cells (grownCap w (T.length + 1) cap 40 - (T.length + 1))) 40)) := fun ty => by
    have h := Lib.run_append_grow_zeros (P := Tryz.prog) w 24 3 ty 40 i0 _ .i64 .i64 Tryz.underlying24 Tryz.underlying3 hi0 hz0 (some ⟨g, 0, none⟩) i cap _ hold (T.length + 1 - i) (by omega) (by omega) (by omega) (by omega) (by rw [hz2]; omega) (by rw [hz2, hik]; exact growslice_fits hroom (by omega))
    rw [hik] at h
    rw [hkk]
    exact h
  obtain ⟨G, hG⟩ : ∃ G, G = grownCap w (T.length + 1) cap 40 := ⟨_, rfl⟩
  rw [← hG] at hrz
  have hGn : T.length + 1 ≤ G := by rw [hG]; exact grownCap_ge w _ _ _
  have hGm : G ≤ maxLen := by
    have := grownCap_le_maxLen w (T.length + 1) cap 40 (by unfold maxLen; omega)
    rwa [← hG] at this
  obtain ⟨R, hR⟩ : ∃ R, R = ((cellsEnt T vs).take (i * 5)).toArray ++ Builtin.zeroCells (Value.agg #[.string ⟨#[]⟩, .int .i64 0, .int .i64 0, .string ⟨#[]⟩, .slice none 0 0]).cells (T.length + 1 - i) ++ Builtin.zeroCells (Value.agg #[.string ⟨#[]⟩, .int .i64 0, .int .i64 0, .string ⟨#[]⟩, .slice none 0 0]).cells (G - (T.length + 1)) := ⟨_, rfl⟩
  rw [← hR] at hrz
  have hRs : R.size = G * 5 := by
    rw [hR]
    simp [Builtin.zeroCells, Value.cells]
    omega
  have hRt : R.toList.take (i * 5) = (cellsEnt T vs).take (i * 5) := by
    rw [hR]
    simp only [Array.toList_append, List.append_assoc]
    rw [List.take_append_of_le_length (by simp; omega)]
    exact List.take_of_length_le (by simp; omega)
  obtain ⟨Z, hZ⟩ : ∃ Z, Z = (cellsEnt T vs).drop (i * 5) := ⟨_, rfl⟩
  have hZl : Z.length = (T.length - i) * 5 := by rw [hZ, List.length_drop, hcells]; omega
  obtain ⟨A1, hA1⟩ : ∃ A1, A1 = (R.toList.take (i * 5) ++ cells1E F x ++ R.toList.drop (i * 5 + 5)).toArray := ⟨_, rfl⟩
  obtain ⟨A2, hA2⟩ : ∃ A2, A2 = (A1.toList.take (i * 5 + 5) ++ Z ++ A1.toList.drop (i * 5 + 5 + (T.length - i) * 5)).toArray := ⟨_, rfl⟩
  have hGG : (T.length + 1) * 5 ≤ G * 5 := Nat.mul_le_mul_right 5 hGn
  have hA1s : A1.size = R.size := by rw [hA1]; simp [cells1E]; omega
  have hA2s : A2.size = R.size := by rw [hA2]; simp [hZl]; omega
  have hFin : A2.toList.take ((T.length + 1) * 5) = (cellsEnt T vs).take (i * 5) ++ (cells1E F x ++ (cellsEnt T vs).drop (i * 5)) := by
    have e : (T.length + 1) * 5 = i * 5 + 5 + (T.length - i) * 5 := by omega
    rw [hA2, hA1, e, ← hZ]
    exact laid_up (by simp; omega) hRt rfl hZl
  obtain ⟨w1, hw1⟩ : ∃ w1, w1 = w.drew.alloc (.cells R 40) := ⟨_, rfl⟩
  rw [← hw1] at hrz
  have hN : w1.heap[w.heap.size]? = some (.cells R 40 (0, 0)) := by rw [hw1]; exact heap_alloc_new w.drew _
  have hO : ∀ b, b < w.heap.size → w1.heap[b]? = w.heap[b]? := fun b hb => by
    rw [hw1]
    exact ((Below.refl w.heap.size w).drew.alloc (Nat.le_refl _) _).block b hb
  have hcp1 : ∀ ty dc, (Builtin.copy_ #[24, 24] ty #[.slice (some ⟨w.heap.size, i * 5, none⟩) (T.length + 1 - i) dc, .slice (some ⟨k, 0, none⟩) 1 1]).run Tryz.prog w1 = .ok (goInt ((1 : Nat))) (w1.setRow w.heap.size A1) := fun ty dc => by
    have := run_copy_k (P := Tryz.prog) w1 24 24 ty 40 5 w.heap.size (i * 5) (T.length + 1 - i) dc ⟨k, 0, none⟩ 1 1 R 40 (cells1E F x) 1 Tryz.underlying24 hsz hN (by simp only [Nat.min_def]; split <;> omega) rfl
      (fun j u hj => World.news_of_block ((hO k hkw).trans hblk) j u hj) (by simp [cells1E]; omega) (five_one hx _)
    rw [this, hA1]
    rfl
  have hcp2 : ∀ W : World, W.heap = (w1.setRow w.heap.size A1).heap → ∀ ty dc sc, (Builtin.copy_ #[24, 24] ty #[.slice (some ⟨w.heap.size, (i + 1) * 5, none⟩) (T.length - i) dc, .slice (some ⟨g, i * 5, none⟩) (T.length - i) sc]).run Tryz.prog W = .ok (goInt ((T.length - i : Nat))) (W.setRow w.heap.size A2) := fun W hW ty dc sc => by
    have hWg : W.heap[g]? = some (.cells cur 40 (0, 0)) := by rw [hW, setRow_other w1 _ g A1 (by omega), hO g hgw]; exact hC
    have := run_copy_k (P := Tryz.prog) W 24 24 ty 40 5 w.heap.size ((i + 1) * 5) (T.length - i) dc ⟨g, i * 5, none⟩ (T.length - i) sc A1 40 Z (T.length - i) Tryz.underlying24 hsz (by rw [hW]; exact setRow_heap w1 _ _ _ _ _ hN) (Nat.min_self _) hZl
      (fun j u hj => by rw [Addr.add_lit]; rw [hZ] at hj; exact srcCells W _ hWg j u hj) (by rw [hZl]; omega) (fun u hu => h5 u (by rw [hZ] at hu; exact List.mem_of_mem_drop hu))
    rw [this, hA2, hZl, show (i + 1) * 5 = i * 5 + 5 by omega]
  have HDONE : Hid (∀ W : World, W.heap = ((w1.setRow w.heap.size A1).setRow w.heap.size A2).heap → (∀ B0, B0 ≤ w.heap.size → Below B0 w W) → InsP B w T F i (.returned (.slice (some ⟨w.heap.size, 0, none⟩) (T.length + 1) G)) W) := fun W hW hbel => by
    have hoth : ∀ (b : Nat) (C : Array Value) (t : TypeId), w.heap[b]? = some (.cells C t (0, 0)) → (t == 40) = false → W.heap[b]? = w.heap[b]? := fun b C t hb _ => by
      have hlt : b < w.heap.size := obj_lt hb
      rw [hW, setRow_other _ _ b _ (by omega), setRow_other _ _ b _ (by omega), hO b hlt]
    refine ⟨⟨_, rfl, ?_⟩, hbel B hBw, hoth⟩
    refine buildE_mix (W := w) (cur := A2) (Nat.le_refl i) (by omega) h1 h3 h4 hx hnew (fun b C hb => ?_) ?_ hBw (by omega) (by omega) hGm (by rw [hA2s]; exact hRs) hFin
    · have hlt : b < w.heap.size := obj_lt hb
      rw [hW, setRow_other _ _ b _ (by omega), setRow_other _ _ b _ (by omega), hO b hlt]
    · rw [hW]
      exact setRow_heap _ _ _ _ _ _ (setRow_heap w1 _ _ _ _ _ hN)
  have hc63 : cap ≤ 9223372036854775807 := by unfold maxLen at hcl; omega
  have hG63 : G ≤ 9223372036854775807 := by unfold maxLen at hGm; omega
  have hb1' : IntKind.i64.wrap ((i : Int) + 1) = (i : Int) + 1 := by rw [IntKind.wrap_i64]; omega
  have hb2' : IntKind.i64.wrap ((T.length : Int) + 1) = (T.length : Int) + 1 := by rw [IntKind.wrap_i64]; omega
  have hne : ¬ ((i : Int) = (T.length : Int)) := by omega
  have hb1 : (0 : Int) ≤ (i : Int) + 1 := by omega
  have hin : (i : Int) ≤ (T.length : Int) := by omega
  have htn : ((i : Int) + 1).toNat = i + 1 := by omega
  have hb2 : ¬ (G = i + 1) := by omega
  have hb3 : (i : Int) ≤ (T.length : Int) + 1 := by omega
  have hb4 : ¬ (G = i) := by omega
  have hb5 : ¬ (cap = i) := by omega
  have hb6 : (cap : Int) < (T.length : Int) + 1 := by omega
  have hB1 : Hid (Below w.heap.size w w1) := by rw [hw1]; exact (Below.refl w.heap.size w).drew.alloc (Nat.le_refl _) _
  have HX := hide (And.intro hrz (And.intro hcp1 hcp2))
  clear hA1 hA2 hZ hFin h3 h4 h5 hx hnew hblk hrz hcp1 hcp2 hsz hZl hA1s hA2s hcells hR hRs hRt hG hGG hold srcCells hkk hik hw1 hN hO
  go_enter Tryz.func140, Tryz.ntmps140
  go_wp2_with (at_builtin; refine Lib.wpList_append_run _ (by rfl) _ _ _ _ (by rfl) _ _ (by rfl) (by rfl) _ _ (HX.out.1 _) ?_)
  have hq := HX.out.2.1
  go_wp2_with (simp only [hq])
  go_region_law (go_loud (refine step_copyR (by rfl) _ _ 24 24 rfl (.slice (some ⟨w.heap.size, (i + 1) * 5, none⟩) (T.length - i) (G - (i + 1))) (.slice (some ⟨g, i * 5, none⟩) (T.length - i) (cap - i)) (by simp [Act.eval, Act.put]) (by simp [Act.eval, Act.put]) (HX.out.2.2 _ (by rfl) _ _ _) ?_))
  go_wp2
  go_ret
  exact HDONE.out _ rfl (fun B0 h => below_setRow (below_setRow ((hB1.out.mono h)) h A1).drew h A2)
theorem insE_any (T : List EntD) (F : EntD) (W0 w : World) (B k i : Nat) (v x : Value) (hbuild : BuildE W0 B v T) (hBs : B ≤ W0.heap.size) (hb : Below W0.heap.size W0 w) (hk : W0.heap.size ≤ k)
    (hx : RowText w W0.heap.size x F.val.items) (hblk : w.heap[k]? = some (.cells #[.string F.key, .int .i64 F.val.kind, .int .i64 F.val.til, .string F.val.text, x] 40 (0, 0))) (hl : T.length ≤ 1048576) (hi : i ≤ T.length) :
    Calls Tryz.prog 140 #[v, .int .i64 i, .slice (some ⟨k, 0, none⟩) 1 1] w (InsP B w T F i) := by
  rcases Nat.eq_or_lt_of_le hi with h | h
  · subst h
    exact insE_end T F W0 w B k v x hbuild hBs hb hx hblk hl
  · obtain ⟨vs, h1, h2, h3, h4⟩ := hbuild
    have h3' : ∀ (j : Nat) (x : Value) (b : EntD), vs[j]? = some x → T[j]? = some b → RowText w B x b.val.items := fun j y b hy hb' => rowText_below (h3 j y b hy hb') hb
    have hnew : ∀ h, x.ownBlock = some h → ∀ y ∈ vs, y.ownBlock ≠ some h := fun h hh y hy e => by
      obtain ⟨j, hj, rfl⟩ := List.getElem_of_mem hy
      have a1 := (rowText_lt hx h hh).1
      have a2 := (rowText_lt (h3 j _ _ (List.getElem?_eq_getElem hj) (List.getElem?_eq_getElem (by omega))) h e).2
      omega
    have h5 : ∀ u ∈ cellsEnt T vs, Value.oneCell' u = true := cells_one (W := W0) (B := B) T vs h1 h3
    have hx' := rowText_le hx hBs
    have hown := ownsRow_below h2 hb
    rcases h2.2 with ⟨-, h0⟩ | ⟨g0, cap0, cur0, ev, -, hC0, -⟩
    · omega
    rcases hown.2 with ⟨-, h0⟩ | ⟨g, cap, cur, rfl, hBg, hC, hle, hcl, hs, ht⟩
    · omega
    have hg0 : g0 = g := by simp at ev; exact ev.1.symm
    have hgw : g < W0.heap.size := by rw [← hg0]; exact obj_lt hC0
    rcases Nat.lt_or_ge cap (T.length + 1) with hr | hr
    · exact insE_grow T F w B k g cap i cur x vs h1 (Nat.le_trans hBs hb.size) hC hcl hle ht h3' h4 h5 hx' hnew hblk hl h hr
    · exact insE_shift T F w B k g cap i cur x vs h1 hBg hC hcl hs ht h3' h4 h5 hx' hnew (by omega) hblk hl h hr
def EntS (n : Nat) (e : EntD) : Prop := e.key.size ≤ n ∧ e.val.text.size ≤ n ∧ e.val.items.length ≤ n ∧ ∀ s ∈ e.val.items, s.size ≤ n
theorem clone_any (s : ByteArray) (w : World) (hs : s.size ≤ 1048576) :
    Calls Tryz.prog 158 #[.string s] w fun e w' => e = .returned (.string s) ∧ Below w.heap.size w w' := by
  by_cases h0 : s.size = 0
  · have e0 : s = ⟨#[]⟩ := ByteArray.ext (Array.eq_empty_of_size_eq_zero h0)
    subst e0
    go_enter Tryz.func158, Tryz.ntmps158
    go_wp2
    go_ret
    exact ⟨rfl, Below.refl _ _⟩
  · obtain ⟨i0, hi, hz0, hz1, hz2⟩ := info_parts Tryz.info5
    have hinfo : (Tryz.prog.info? 5).map (·.size) = some 1 := by rw [hi]; simp [hz1]
    obtain ⟨M, hM⟩ : ∃ M, M = madeCells (Value.int .u8 0).cells (((s.size : Nat) : Int).toNat * i0.size) := ⟨_, rfl⟩
    have hmk : ∀ W : World, (Instr.makeSlice 22 (.int .i64 (s.size : Int)) (.int .i64 (s.size : Int))).run Tryz.prog W = .ok (.slice (some ⟨W.heap.size, 0, none⟩) s.size s.size) (W.alloc (.cells M 5)) := fun W => by
      have h := run_make (P := Tryz.prog) W 22 5 i0 (.int .u8 0) Tryz.underlying22 hi hz0 .i64 .i64 (s.size : Int) (s.size : Int) (by omega) (by omega) (by rw [hz2]; omega) (by omega)
      rw [← hM] at h
      simpa using h
    have hMs : M.size = s.size := by rw [hM, size_madeCells, hz1]; simp
    clear hM
    have hcp := Lib.run_copy_row_string (P := Tryz.prog) (w.alloc (.cells M 5)) 22 9 3 5 w.heap.size 0 s.size s.size s M 5 Tryz.underlying22 hinfo (heap_alloc_new w _) (Nat.le_refl _) (by omega)
    obtain ⟨Y, hY⟩ : ∃ Y, Y = (M.toList.take 0 ++ Lib.byteCells s.data.toList ++ M.toList.drop (0 + s.size)).toArray := ⟨_, rfl⟩
    rw [← hY] at hcp
    have hYl : Y.toList = Lib.byteCells s.data.toList := by
      rw [hY, List.toList_toArray, List.take_zero, List.nil_append, List.drop_of_length_le (by rw [Array.length_toList]; omega), List.append_nil]
    have hYs : Y.size = s.size := by rw [← Array.length_toList, hYl, Lib.byteCells_length, ← Lib.size_eq]
    have hgY : ((w.alloc (.cells M 5)).setRow w.heap.size Y).heap[w.heap.size]? = some (.cells Y 5 (0, 0)) := setRow_heap _ _ M _ 5 (0, 0) (heap_alloc_new w _)
    have hne : s.data.toList ≠ [] := fun e => h0 (by rw [Lib.size_eq, e]; rfl)
    have hUS := Lib.run_unsafeString_row (P := Tryz.prog) ((w.alloc (.cells M 5)).setRow w.heap.size Y) 180 3 9 5 Tryz.underlying180 Tryz.cells5 w.heap.size Y.size (by unfold World.shape?; rw [hgY]) s.data.toList hne (by rw [← Lib.size_eq]; omega) (by rw [← Lib.size_eq]; omega)
      (fun j x hx => Lib.cells_of_row hgY Y.size j _ (by rw [List.take_of_length_le (by rw [Array.length_toList]; exact Nat.le_refl _), hYl]; simp [Lib.byteCells, hx]))
    rw [← Lib.size_eq] at hUS
    clear hY
    go_enter Tryz.func158, Tryz.ntmps158
    go_wp2
    go_ret
    have hb1 : Below w.heap.size w (w.alloc (.cells M 5)) := (Below.refl _ w).alloc (Nat.le_refl _) _
    have hb2 : Below w.heap.size (w.alloc (.cells M 5)) ((w.alloc (.cells M 5)).setRow w.heap.size Y) := ⟨rfl, rfl, rfl, by simp, fun k hk => setRow_other _ _ _ _ (by omega)⟩
    exact ⟨rfl, Lib.below_freeze (hb1.trans hb2) (p := ⟨w.heap.size, 0, none⟩) (Nat.le_refl _) _⟩
theorem ownText_any (s : ByteArray) (w : World) (hs : s.size ≤ 1048576) :
    Calls Tryz.prog 135 #[.string s] w fun e w' => e = .returned (.string s) ∧ Below w.heap.size w w' := by
  go_enter Tryz.func135, Tryz.ntmps135
  go_wp2_with (first | (go_at_call 158; refine (clone_any s _ hs).mono ?_; rintro e w' ⟨rfl, hb⟩) | go_in)
  go_ret
  exact ⟨rfl, hb⟩
end Go.Proofs.YtifjneldjjmeaaaGreatDoor
