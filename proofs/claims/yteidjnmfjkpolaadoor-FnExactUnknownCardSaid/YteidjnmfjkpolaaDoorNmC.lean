/- Commands: the names in their order. -/
import Derived.Test.YteidjnmfjkpolaaDoorNmB
import Derived.Test.YteidjnmfjkpolaaDoorTxtA
import Derived.OwnWalk
namespace Go.Proofs.YteidjnmfjkpolaaDoor
open Go.RowKit

theorem flat_cut (m : Nat) : ∀ (L : List (Array Value)) (k : Nat) (h : k < L.length), (∀ v ∈ L, v.size = m) → ((L.map Array.toList).flatten.drop (k * m)).take m = (L[k]'h).toList
  | v :: L, 0, _, hv => by
    have := hv v List.mem_cons_self
    simp [this]
  | v :: L, k + 1, h, hv => by
    have h1 := hv v List.mem_cons_self
    have h2 := flat_cut m L k (by simpa using h) (fun x hx => hv x (List.mem_cons_of_mem _ hx))
    rw [List.map_cons, List.flatten_cons, List.drop_append, List.drop_of_length_le (by rw [Array.length_toList, h1, Nat.succ_mul]; omega), List.nil_append, Array.length_toList, h1, Nat.succ_mul, Nat.add_sub_cancel]
    simpa using h2
theorem allV_len : allV.length = 41 := by unfold allV; rw [List.length_map]; rfl
theorem allV_get (k : Nat) (h : k < 41) : ∃ (s : ByteArray) (a b : Int), cmdsL[k]? = some s ∧ cmdsK[k]? = some (a, b) ∧ allV[k]'(by rw [allV_len]; exact h) = cmdC s a b := by
  have h1 : k < cmdsL.length := h
  have h2 : k < cmdsK.length := h
  refine ⟨cmdsL[k], (cmdsK[k]).1, (cmdsK[k]).2, List.getElem?_eq_getElem h1, List.getElem?_eq_getElem h2, ?_⟩
  simp [allV]
  rfl
theorem all_index (k : Nat) (h : k < 41) (s : ByteArray) (a b : Int) (he : allV[k]'(by rw [allV_len]; exact h) = cmdC s a b) :
    ∀ W : World, (Instr.index 36 (.agg allC) (.int .i64 (k : Int))).run Tryd.prog W = .ok (.agg (cmdC s a b)) W := by
  intro W
  have hm : ∀ v ∈ allV, v.size = 11 := by
    intro v hv
    simp only [allV, List.mem_map] at hv
    obtain ⟨x, _, rfl⟩ := hv
    exact cmdC_size _ _ _
  have hc : allC.extract (k * 11) (k * 11 + 11) = cmdC s a b := by
    have h1 := flat_cut 11 allV k (by rw [allV_len]; exact h) hm
    rw [he] at h1
    apply Array.toList_inj.1
    rw [Array.toList_extract, ← h1]
    simp [allC, List.extract_eq_take_drop]
  have hs : (Tryd.prog.info? 35).map (·.size) = some 11 := Tryd.infoCmd
  cases hq : Tryd.prog.info? 35 with
  | none => simp [hq] at hs
  | some i =>
    have hi : i.size = 11 := by simpa [hq] using hs
    have hk : (0 : Int) ≤ (k : Int) ∧ (k : Int) < ((41 : Nat) : Int) := by omega
    simp [Instr.index, asIntOf, run_underlying Tryd.underlying36, run_underlying Tryd.underlying35, part, isAgg, sizeOf, typeInfo, hq, hi, hc]
    omega
theorem run_load_part {P : Program} (w : World) (g : Nat) (t ty : TypeId) (cs rest : Array Value) (fr : Nat × Nat) (d : TypeDesc) (hg : w.heap[g]? = some (.cells (cs ++ rest) t fr))
    (hu : P.underlying ty = some d) (hd : (match d with | .struct _ | .array _ _ => true | _ => false) = true) (hi : (P.info? ty).map (·.size) = some cs.size) :
    (loadVar ty ⟨g, 0, none⟩).run P w = .ok (.agg cs) w := by
  have hl : (loadCells ⟨g, 0, none⟩ cs.toList.length).run P w = .ok cs.toList.toArray w :=
    run_loadCells_list (P := P) w ⟨g, 0, none⟩ cs.toList (fun j v hv => by
      have hadd : (⟨g, 0, none⟩ : Addr).add j = ⟨g, j, none⟩ := by unfold Addr.add; split <;> simp_all
      rw [hadd, cell_of_row w g j (cs ++ rest) t fr hg]
      have hj : j < cs.size := by
        have := (List.getElem?_eq_some_iff.1 hv).1
        simpa using this
      rw [Array.getElem?_append_left hj]
      simpa using hv)
  cases hq : P.info? ty with
  | none => simp [hq] at hi
  | some i =>
    have hs : i.size = cs.size := by simpa [hq] using hi
    have hagg : (isAgg ty).run P w = .ok true w := by
      unfold isAgg
      rw [Sem.run_bind, run_underlying hu w]
      cases d <;> simp_all
    simp only [Array.length_toList, Array.toArray_toList] at hl
    simp [loadVar, Sem.run_bind, hagg, sizeOf, typeInfo, hq, hs, hl]
theorem wpList_load_part {P : Program} {ops : Array Oper} {rest : List Oper} {o : Oper} {a : Act} {w : World} {Q : Exit → Act → World → Prop} (hgd : o.guard = none) (ty : TypeId) (x : Operand) (ho : o.op = .load ty x)
    (g : Nat) (hx : a.eval x = .pointer (some ⟨g, 0, none⟩)) (t : TypeId) (cs rs : Array Value) (fr : Nat × Nat) (d : TypeDesc) (hg : w.heap[g]? = some (.cells (cs ++ rs) t fr))
    (hu : P.underlying ty = some d) (hd : (match d with | .struct _ | .array _ _ => true | _ => false) = true) (hi : (P.info? ty).map (·.size) = some cs.size)
    (h : wpList P ops Q rest (a.put o.dst (.agg cs)) w) : wpList P ops Q (o :: rest) a w := by
  refine wpList_plain hgd fun K hK => ?_
  unfold Oper.wp execOp
  simp only [ho, hx, Instr.loadAt, Instr.sureAddr, Sem.run_bind, Sem.run_pure, Result.andThen_ok, run_load_part w g t ty cs rs fr d hg hu hd hi]
  exact hK _ _ h
theorem cmd_name {s : ByteArray} {k : Nat} (h : cmdsL[k]? = some s) : s ∈ cmdsL := List.mem_of_getElem? h

/-- A command's box. -/
def CBox (W : World) (g : Nat) (s : ByteArray) (a b : Int) : Prop := W.heap[g]? = some (.cells (nmC s ++ #[.int .i64 a, .int .i64 b]) 35 (0, 0))
def zeroC : Array Value := #[.int .u8 0, .int .u8 0, .int .u8 0, .int .u8 0, .int .u8 0, .int .u8 0, .int .u8 0, .int .u8 0, .int .u8 0, .int .i64 0, .int .i64 0]
theorem cbox_new (W : World) (s : ByteArray) (a b : Int) : CBox ((W.alloc (.cells zeroC 35)).setRow W.heap.size (cmdC s a b)) W.heap.size s a b := setRow_new _ _ _ _ _ (heap_alloc_new W _)
theorem cbox_below {B : Nat} {w W : World} (hb : Below B w W) (hB : B ≤ W.heap.size) (s : ByteArray) (a b : Int) : Below B w ((W.alloc (.cells zeroC 35)).setRow W.heap.size (cmdC s a b)) :=
  below_setRow (hb.alloc hB _) hB _

set_option maxRecDepth 100000 in
set_option maxHeartbeats 1000000 in
theorem implCmds_any (w : World) : Calls Tryd.prog 8 #[] w fun e w' => ∃ v, e = .returned v ∧ RowText w' w.heap.size v cmdsL ∧ Below w.heap.size w w' := by
  have HAL := hide (fun W => allCmds_any W)
  go_enter Tryd.func8, Tryd.ntmps8
  go_wp2_with fail
  refine (HAL.out _).mono ?_
  rintro e w1 ⟨rfl, b1⟩
  have B1 := hide b1
  clear b1
  go_wp2_with fail
  go_loopw [1, 5] (fun vl ii wr => ∃ (k : Nat) (acc : List ByteArray), ii = .int .i64 (k : Int) ∧ k ≤ 41 ∧ acc.length ≤ 41 ∧ Hid (acc = cmdsL.take k) ∧ Hid (wr.ownsRow w.heap.size 9 1 vl acc.length (acc.map Value.string)) ∧ Hid (Below w.heap.size w wr)) (fun _ ii _ => 41 - (intOf ii).toNat)
  case atStart => exact ⟨0, [], rfl, by omega, by simp, rfl, World.ownsRow_nil _ _ _ _, B1.out⟩
  case round =>
    obtain ⟨k, acc, rfl, hk, hacc, HA, HO, HB⟩ := hrel
    have hws := HB.out.size
    by_cases hlt : k < 41
    · have hlt' : decide ((k : Int) < 41) = true := by simp; omega
      obtain ⟨s, a, b, hs, hp, he⟩ := allV_get k hlt
      have hidx := all_index k hlt s a b he
      have HS := hide hs
      have HBX := hide (cbox_new wr s a b)
      have HB2 := hide (cbox_below HB.out hws s a b)
      have HT := hide (fun W => nmText_any s W)
      have HTS : Hid (nmT s = s) := cmds_told s (cmd_name hs)
      rw [HTS.out] at HT
      clear hs hp he
      obtain ⟨a0, c0, e0⟩ := slice_form HO.out
      subst e0
      go_wp2_with (first | refine wpList_store_row rfl 35 _ _ rfl wr.heap.size _ rfl rfl 35 _ (heap_alloc_new wr (.cells zeroC 35)) (Tryd.infoCmd.trans (by rw [cmdC_size])) (by rw [cmdC_size]; rfl) (cmdC_one s a b) ?_ | refine wpList_load_part rfl 31 _ rfl wr.heap.size rfl 35 (nmC s) _ (0, 0) _ HBX.out Tryd.underlying31 rfl (Tryd.infoNm.trans (by rw [nmC_size])) ?_)
      refine (HT.out _).mono ?_
      rintro e w3 ⟨rfl, b3⟩
      have B3 := hide (HB2.out.trans (b3.mono HB2.out.size))
      have HO3 := hide (ownsRow_below (ownsRow_below HO.out (cbox_below (Below.refl wr.heap.size wr) (Nat.le_refl _) s a b)) b3)
      have hw3 := B3.out.size
      have HA3 : Hid (acc ++ [s] = cmdsL.take (k + 1)) := by show _ = _; rw [HA.out, List.take_add_one, HS.out]; rfl
      clear b3
      go_wp2_with (at_builtin; refine app_txt _ w.heap.size rfl _ _ rfl _ acc s rfl (HO3.out.alloc _) w3.heap.size rfl (heap_alloc_new w3 _) (by omega) (by simp; omega) ?_; intro g4 cap4 w4 ho4 hb4 hg4 hgg4 hgl4; have HO4 := hide ho4; have HB4 := hide ((B3.out.alloc hw3 _).trans hb4); clear ho4 hb4 hg4)
      go_roundw
      case rel => exact ⟨k + 1, acc ++ [s], by go_num, by omega, by rw [HA3.out, List.length_take]; omega, HA3, HO4, HB4⟩
      case measure => simp [intOf]; omega
    · have hlt' : decide ((k : Int) < 41) = false := by simp; omega
      have HA2 : Hid (acc = cmdsL) := by show _ = _; rw [HA.out, List.take_of_length_le (show cmdsL.length ≤ k by show 41 ≤ k; omega)]
      obtain ⟨a0, c0, e0⟩ := slice_form HO.out
      subst e0
      go_wp2
      go_ret
      exact ⟨_, rfl, by have := rowText_own HO.out; rw [HA2.out] at this ⊢; exact this, HB.out⟩
end Go.Proofs.YteidjnmfjkpolaaDoor
