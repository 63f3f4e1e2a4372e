import Derived.OwnWalk
import Derived.Laws.StructEq
import Derived.Lib.SmallJoins
import Derived.OpenShut
import Derived.Deep.RegionHeld3
import Derived.BigQuiet
import Derived.Lib.ConvBytes
import Derived.Deep.AppendLies
import Derived.Test.YtpibnhodlojajaaDoorAr3
import Derived.Test.YtpibnhodlojajaaDoorAr0
import Derived.Test.YtpibnhodlojajaaDoorAr2
import Derived.Test.YtpibnhodlojajaaDoorAr1
set_option maxRecDepth 100000
set_option maxHeartbeats 4000000
namespace Go.Proofs.YtpibnhodlojajaaDoor
open Go.RowKit
theorem flat_cut (m : Nat) : ∀ (L : List (Array Value)) (k : Nat) (h : k < L.length), (∀ v ∈ L, v.size = m) → ((L.map Array.toList).flatten.drop (k * m)).take m = (L[k]'h).toList
  | v :: L, 0, _, hv => by
    have := hv v List.mem_cons_self
    simp [this]
  | v :: L, k + 1, h, hv => by
    have h1 := hv v List.mem_cons_self
    have h2 := flat_cut m L k (by simpa using h) (fun x hx => hv x (List.mem_cons_of_mem _ hx))
    rw [List.map_cons, List.flatten_cons, List.drop_append, List.drop_of_length_le (by rw [Array.length_toList, h1, Nat.succ_mul]; omega), List.nil_append, Array.length_toList, h1, Nat.succ_mul, Nat.add_sub_cancel]
    simpa using h2
theorem allV_len : allV.length = 41 := by unfold allV; rw [List.length_map]; rfl
theorem allV_get (k : Nat) (h : k < 41) : ∃ (s : ByteArray) (a b : Int), cmdsL[k]? = some s ∧ cmdsK[k]? = some (a, b) ∧ allV[k]'(by rw [allV_len]; exact h) = cmdC s a b := by
  have h1 : k < cmdsL.length := h
  have h2 : k < cmdsK.length := h
  refine ⟨cmdsL[k], (cmdsK[k]).1, (cmdsK[k]).2, List.getElem?_eq_getElem h1, List.getElem?_eq_getElem h2, ?_⟩
  simp [allV]
  rfl
theorem all_index (k : Nat) (h : k < 41) (s : ByteArray) (a b : Int) (he : allV[k]'(by rw [allV_len]; exact h) = cmdC s a b) :
    ∀ W : World, (Instr.index 48 (.agg allC) (.int .i64 (k : Int))).run Tryd.prog W = .ok (.agg (cmdC s a b)) W := by
  intro W
  have hm : ∀ v ∈ allV, v.size = 11 := by
    intro v hv
    simp only [allV, List.mem_map] at hv
    obtain ⟨x, _, rfl⟩ := hv
    exact cmdC_size _ _ _
  have hc : allC.extract (k * 11) (k * 11 + 11) = cmdC s a b := by
    have h1 := flat_cut 11 allV k (by rw [allV_len]; exact h) hm
    rw [he] at h1
    apply Array.toList_inj.1
    rw [Array.toList_extract, ← h1]
    simp [allC, List.extract_eq_take_drop]
  have hs : (Tryd.prog.info? 45).map (·.size) = some 11 := Tryd.infoCmd
  cases hq : Tryd.prog.info? 45 with
  | none => simp [hq] at hs
  | some i =>
    have hi : i.size = 11 := by simpa [hq] using hs
    have hk : (0 : Int) ≤ (k : Int) ∧ (k : Int) < ((41 : Nat) : Int) := by omega
    simp [Instr.index, asIntOf, run_underlying Tryd.underlying48, run_underlying Tryd.underlying45, part, isAgg, sizeOf, typeInfo, hq, hi, hc]
    omega
theorem run_load_part {P : Program} (w : World) (g : Nat) (t ty : TypeId) (cs rest : Array Value) (fr : Nat × Nat) (d : TypeDesc) (hg : w.heap[g]? = some (.cells (cs ++ rest) t fr))
    (hu : P.underlying ty = some d) (hd : (match d with | .struct _ | .array _ _ => true | _ => false) = true) (hi : (P.info? ty).map (·.size) = some cs.size) :
    (loadVar ty ⟨g, 0, none⟩).run P w = .ok (.agg cs) w := by
  have hl : (loadCells ⟨g, 0, none⟩ cs.toList.length).run P w = .ok cs.toList.toArray w :=
    run_loadCells_list (P := P) w ⟨g, 0, none⟩ cs.toList (fun j v hv => by
      have hadd : (⟨g, 0, none⟩ : Addr).add j = ⟨g, j, none⟩ := by unfold Addr.add; split <;> simp_all
      rw [hadd, cell_of_row w g j (cs ++ rest) t fr hg]
      have hj : j < cs.size := by
        have := (List.getElem?_eq_some_iff.1 hv).1
        simpa using this
      rw [Array.getElem?_append_left hj]
      simpa using hv)
  cases hq : P.info? ty with
  | none => simp [hq] at hi
  | some i =>
    have hs : i.size = cs.size := by simpa [hq] using hi
    have hagg : (isAgg ty).run P w = .ok true w := by
      unfold isAgg
      rw [Sem.run_bind, run_underlying hu w]
      cases d <;> simp_all
    simp only [Array.length_toList, Array.toArray_toList] at hl
    simp [loadVar, Sem.run_bind, hagg, sizeOf, typeInfo, hq, hs, hl]
theorem wpList_load_part {P : Program} {ops : Array Oper} {rest : List Oper} {o : Oper} {a : Act} {w : World} {Q : Exit → Act → World → Prop} (hgd : o.guard = none) (ty : TypeId) (x : Operand) (ho : o.op = .load ty x)
    (g : Nat) (hx : a.eval x = .pointer (some ⟨g, 0, none⟩)) (t : TypeId) (cs rs : Array Value) (fr : Nat × Nat) (d : TypeDesc) (hg : w.heap[g]? = some (.cells (cs ++ rs) t fr))
    (hu : P.underlying ty = some d) (hd : (match d with | .struct _ | .array _ _ => true | _ => false) = true) (hi : (P.info? ty).map (·.size) = some cs.size)
    (h : wpList P ops Q rest (a.put o.dst (.agg cs)) w) : wpList P ops Q (o :: rest) a w := by
  refine wpList_plain hgd fun K hK => ?_
  unfold Oper.wp execOp
  simp only [ho, hx, Instr.loadAt, Instr.sureAddr, Sem.run_bind, Sem.run_pure, Result.andThen_ok, run_load_part w g t ty cs rs fr d hg hu hd hi]
  exact hK _ _ h
theorem cmd_name {s : ByteArray} {k : Nat} (h : cmdsL[k]? = some s) : s ∈ cmdsL := List.mem_of_getElem? h
def CBox (W : World) (g : Nat) (s : ByteArray) (a b : Int) : Prop := W.heap[g]? = some (.cells (nmC s ++ #[.int .i64 a, .int .i64 b]) 45 (0, 0))
def zeroC : Array Value := #[.int .u8 0, .int .u8 0, .int .u8 0, .int .u8 0, .int .u8 0, .int .u8 0, .int .u8 0, .int .u8 0, .int .u8 0, .int .i64 0, .int .i64 0]
theorem cbox_new (W : World) (s : ByteArray) (a b : Int) : CBox ((W.alloc (.cells zeroC 45)).setRow W.heap.size (cmdC s a b)) W.heap.size s a b := setRow_new _ _ _ _ _ (heap_alloc_new W _)
theorem cbox_below {B : Nat} {w W : World} (hb : Below B w W) (hB : B ≤ W.heap.size) (s : ByteArray) (a b : Int) : Below B w ((W.alloc (.cells zeroC 45)).setRow W.heap.size (cmdC s a b)) :=
  below_setRow (hb.alloc hB _) hB _
theorem implCmds_any (w : World) : Calls Tryd.prog 12 #[] w fun e w' => ∃ v, e = .returned v ∧ RowText w' w.heap.size v cmdsL ∧ Below w.heap.size w w' := by
  have HAL := hide (fun W => allCmds_any W)
  go_enter Tryd.func12, Tryd.ntmps12
  go_wp2_with fail
  refine (HAL.out _).mono ?_
  rintro e w1 ⟨rfl, b1⟩
  have B1 := hide b1
  clear b1
  go_wp2_with fail
  go_loopw [1, 5] (fun vl ii wr => ∃ (k : Nat) (acc : List ByteArray), ii = .int .i64 (k : Int) ∧ k ≤ 41 ∧ acc.length ≤ 41 ∧ Hid (acc = cmdsL.take k) ∧ Hid (wr.ownsRow w.heap.size 9 1 vl acc.length (acc.map Value.string)) ∧ Hid (Below w.heap.size w wr)) (fun _ ii _ => 41 - (intOf ii).toNat)
  case atStart => exact ⟨0, [], rfl, by omega, by simp, rfl, World.ownsRow_nil _ _ _ _, B1.out⟩
  case round =>
    obtain ⟨k, acc, rfl, hk, hacc, HA, HO, HB⟩ := hrel
    have hws := HB.out.size
    by_cases hlt : k < 41
    · have hlt' : decide ((k : Int) < 41) = true := by simp; omega
      obtain ⟨s, a, b, hs, hp, he⟩ := allV_get k hlt
      have hidx := all_index k hlt s a b he
      have HS := hide hs
      have HBX := hide (cbox_new wr s a b)
      have HB2 := hide (cbox_below HB.out hws s a b)
      have HT := hide (fun W => nmText_any s W)
      have HTS : Hid (nmT s = s) := cmds_told s (cmd_name hs)
      rw [HTS.out] at HT
      clear hs hp he
      obtain ⟨a0, c0, e0⟩ := slice_form HO.out
      subst e0
      go_wp2_with (first | refine wpList_store_row rfl 45 _ _ rfl wr.heap.size _ rfl rfl 45 _ (heap_alloc_new wr (.cells zeroC 45)) (Tryd.infoCmd.trans (by rw [cmdC_size])) (by rw [cmdC_size]; rfl) (cmdC_one s a b) ?_ | refine wpList_load_part rfl 41 _ rfl wr.heap.size rfl 45 (nmC s) _ (0, 0) _ HBX.out Tryd.underlying41 rfl (Tryd.infoNm.trans (by rw [nmC_size])) ?_)
      refine (HT.out _).mono ?_
      rintro e w3 ⟨rfl, b3⟩
      have B3 := hide (HB2.out.trans (b3.mono HB2.out.size))
      have HO3 := hide (ownsRow_below (ownsRow_below HO.out (cbox_below (Below.refl wr.heap.size wr) (Nat.le_refl _) s a b)) b3)
      have hw3 := B3.out.size
      have HA3 : Hid (acc ++ [s] = cmdsL.take (k + 1)) := by show _ = _; rw [HA.out, List.take_add_one, HS.out]; rfl
      clear b3
      go_wp2_with (at_builtin; refine app_txt _ w.heap.size rfl _ _ rfl _ acc s rfl (HO3.out.alloc _) w3.heap.size rfl (heap_alloc_new w3 _) (by omega) (by simp; omega) ?_; intro g4 cap4 w4 ho4 hb4 hg4 hgg4 hgl4; have HO4 := hide ho4; have HB4 := hide ((B3.out.alloc hw3 _).trans hb4); clear ho4 hb4 hg4)
      go_roundw
      case rel => exact ⟨k + 1, acc ++ [s], by go_num, by omega, by rw [HA3.out, List.length_take]; omega, HA3, HO4, HB4⟩
      case measure => simp [intOf]; omega
    · have hlt' : decide ((k : Int) < 41) = false := by simp; omega
      have HA2 : Hid (acc = cmdsL) := by show _ = _; rw [HA.out, List.take_of_length_le (show cmdsL.length ≤ k by show 41 ≤ k; omega)]
      obtain ⟨a0, c0, e0⟩ := slice_form HO.out
      subst e0
      go_wp2
      go_ret
      exact ⟨_, rfl, by have := rowText_own HO.out; rw [HA2.out] at this ⊢; exact this, HB.out⟩
theorem nine_bytes (l : List UInt8) (h : l.length = 9) : ∃ a b c d e f g i j, l = [a, b, c, d, e, f, g, i, j] := by
  match l, h with
  | [a, b, c, d, e, f, g, i, j], _ => exact ⟨a, b, c, d, e, f, g, i, j, rfl⟩
theorem eq_one (d : Nat) (a b : UInt8) (w : World) : (Op.equalIn (d + 1) 5 (b8 a) (b8 b)).run Tryd.prog w = .ok (decide (a = b)) w := by
  unfold b8
  rw [run_equalIn_int (P := Tryd.prog) w d 5 .u8 .u8 _ _ Tryd.underlying5]
  congr 1
  by_cases h : a = b
  · subst h
    simp
  · rw [decide_eq_false h, beq_eq_false_iff_ne]
    intro e
    exact h (UInt8.toNat_inj.1 (by omega))
theorem eq_nine (d : Nat) (he : ∀ (a b : UInt8) (w : World), (Op.equalIn d 5 (b8 a) (b8 b)).run Tryd.prog w = .ok (decide (a = b)) w) (w : World) (a0 a1 a2 a3 a4 a5 a6 a7 a8 b0 b1 b2 b3 b4 b5 b6 b7 b9 : UInt8) :
    (Op.equalIn (d + 1) 41 (.agg #[b8 a0, b8 a1, b8 a2, b8 a3, b8 a4, b8 a5, b8 a6, b8 a7, b8 a8]) (.agg #[b8 b0, b8 b1, b8 b2, b8 b3, b8 b4, b8 b5, b8 b6, b8 b7, b8 b9])).run Tryd.prog w = .ok (decide ([a0, a1, a2, a3, a4, a5, a6, a7, a8] = [b0, b1, b2, b3, b4, b5, b6, b7, b9])) w := by
  have hs : (Tryd.prog.info? 5).map (·.size) = some 1 := Tryd.infoBy
  cases hq : Tryd.prog.info? 5 with
  | none => simp [hq] at hs
  | some i =>
    have hi : i.size = 1 := by simpa [hq] using hs
    have hp : ∀ (cs : Array Value) (k : Nat) (v : Value) (w : World), cs[k]? = some v → (part 5 cs k).run Tryd.prog w = .ok v w := by
      intro cs k v w h
      simp [part, isAgg, run_underlying Tryd.underlying5, h]
    have p0 : ∀ (x0 x1 x2 x3 x4 x5 x6 x7 x8 : Value) (w : World), (part 5 #[x0, x1, x2, x3, x4, x5, x6, x7, x8] 0).run Tryd.prog w = .ok x0 w := fun _ _ _ _ _ _ _ _ _ _ => hp _ _ _ _ rfl
    have p1 : ∀ (x0 x1 x2 x3 x4 x5 x6 x7 x8 : Value) (w : World), (part 5 #[x0, x1, x2, x3, x4, x5, x6, x7, x8] 1).run Tryd.prog w = .ok x1 w := fun _ _ _ _ _ _ _ _ _ _ => hp _ _ _ _ rfl
    have p2 : ∀ (x0 x1 x2 x3 x4 x5 x6 x7 x8 : Value) (w : World), (part 5 #[x0, x1, x2, x3, x4, x5, x6, x7, x8] 2).run Tryd.prog w = .ok x2 w := fun _ _ _ _ _ _ _ _ _ _ => hp _ _ _ _ rfl
    have p3 : ∀ (x0 x1 x2 x3 x4 x5 x6 x7 x8 : Value) (w : World), (part 5 #[x0, x1, x2, x3, x4, x5, x6, x7, x8] 3).run Tryd.prog w = .ok x3 w := fun _ _ _ _ _ _ _ _ _ _ => hp _ _ _ _ rfl
    have p4 : ∀ (x0 x1 x2 x3 x4 x5 x6 x7 x8 : Value) (w : World), (part 5 #[x0, x1, x2, x3, x4, x5, x6, x7, x8] 4).run Tryd.prog w = .ok x4 w := fun _ _ _ _ _ _ _ _ _ _ => hp _ _ _ _ rfl
    have p5 : ∀ (x0 x1 x2 x3 x4 x5 x6 x7 x8 : Value) (w : World), (part 5 #[x0, x1, x2, x3, x4, x5, x6, x7, x8] 5).run Tryd.prog w = .ok x5 w := fun _ _ _ _ _ _ _ _ _ _ => hp _ _ _ _ rfl
    have p6 : ∀ (x0 x1 x2 x3 x4 x5 x6 x7 x8 : Value) (w : World), (part 5 #[x0, x1, x2, x3, x4, x5, x6, x7, x8] 6).run Tryd.prog w = .ok x6 w := fun _ _ _ _ _ _ _ _ _ _ => hp _ _ _ _ rfl
    have p7 : ∀ (x0 x1 x2 x3 x4 x5 x6 x7 x8 : Value) (w : World), (part 5 #[x0, x1, x2, x3, x4, x5, x6, x7, x8] 7).run Tryd.prog w = .ok x7 w := fun _ _ _ _ _ _ _ _ _ _ => hp _ _ _ _ rfl
    have p8 : ∀ (x0 x1 x2 x3 x4 x5 x6 x7 x8 : Value) (w : World), (part 5 #[x0, x1, x2, x3, x4, x5, x6, x7, x8] 8).run Tryd.prog w = .ok x8 w := fun _ _ _ _ _ _ _ _ _ _ => hp _ _ _ _ rfl
    simp [Op.equalIn, run_underlying Tryd.underlying41, sizeOf, typeInfo, hq, hi]
    simp [List.range', Sem.run_bind, p0, p1, p2, p3, p4, p5, p6, p7, p8, he]
    by_cases h0 : a0 = b0
    · by_cases h1 : a1 = b1
      · by_cases h2 : a2 = b2
        · by_cases h3 : a3 = b3
          · by_cases h4 : a4 = b4
            · by_cases h5 : a5 = b5
              · by_cases h6 : a6 = b6
                · by_cases h7 : a7 = b7
                  · by_cases h8 : a8 = b9
                    · simp [h0, h1, h2, h3, h4, h5, h6, h7, h8]
                    · simp [h0, h1, h2, h3, h4, h5, h6, h7, h8]
                  · simp [h0, h1, h2, h3, h4, h5, h6, h7]
                · simp [h0, h1, h2, h3, h4, h5, h6]
              · simp [h0, h1, h2, h3, h4, h5]
            · simp [h0, h1, h2, h3, h4]
          · simp [h0, h1, h2, h3]
        · simp [h0, h1, h2]
      · simp [h0, h1]
    · simp [h0]
theorem eql_names (s t : ByteArray) (w : World) : (binOp .eql 41 (.agg (nmC s)) (.agg (nmC t))).run Tryd.prog w = .ok (.bool (decide (padN s = padN t))) w := by
  obtain ⟨a0, a1, a2, a3, a4, a5, a6, a7, a8, ha⟩ := nine_bytes _ (padN_length s)
  obtain ⟨b0, b1, b2, b3, b4, b5, b6, b7, b9, hb⟩ := nine_bytes _ (padN_length t)
  rw [run_eql_struct]
  unfold nmC
  rw [ha, hb]
  have := eq_nine 9999 (eq_one 9998) w a0 a1 a2 a3 a4 a5 a6 a7 a8 b0 b1 b2 b3 b4 b5 b6 b7 b9
  rw [show (10000 : Nat) = 9999 + 1 from rfl]
  simp only [List.map_cons, List.map_nil]
  rw [this]
  rfl
theorem names_same {s X : ByteArray} (hs : s ∈ cmdsL) (hX : nmT X = X) : decide (padN s = padN X) = decide (s = X) := by
  have h := nmC_eq hX hs
  by_cases e : s = X
  · rw [e]
    simp
  · rw [decide_eq_false e, decide_eq_false]
    intro h2
    exact e (h.1 (by unfold nmC; rw [h2]))
theorem specUpper_any (s : ByteArray) (w : World) (hz : s.size ≤ 1048576) : Calls Tryd.prog 11 #[.string s] w fun e w' => e = .returned (.string ⟨(s.data.toList.map upB).toArray⟩) ∧ Below w.heap.size w w' := by
  obtain ⟨W1, C1, hcv, hB1, hs1, hnew⟩ := bytesIs_made (P := Tryd.prog) w 9 25 5 s Tryd.underlying9 Tryd.underlying25 Tryd.underlying5
  have HN := hide hnew
  have HB := hide hB1
  have HS := hide hs1
  have hl : s.data.toList.length = s.size := Array.length_toList
  have HL := hide hl
  generalize s.data.toList = l at HN HL ⊢
  clear hnew hB1 hs1 hl
  go_enter Tryd.func11, Tryd.ntmps11
  go_wp2
  go_loopw [4] (fun i wr => ∃ k : Nat, k ≤ s.size ∧ i = .int .i64 k ∧ Hid (BytesIs wr w.heap.size (upTo l k)) ∧ Hid (Below w.heap.size w wr)) (fun i _ => s.size - (intOf i).toNat)
  case atStart => exact ⟨0, Nat.zero_le _, rfl, by rw [upTo_zero]; exact HN, HB⟩
  case round =>
    obtain ⟨k, hk, rfl, HR, HB2⟩ := hrel
    by_cases hlt : k < s.size
    · have hkl : k < l.length := by rw [HL.out]; exact hlt
      obtain ⟨c, hC, hc256, hcell, hfr⟩ : ∃ c : Nat, Hid (l[k].toNat = c) ∧ c < 256 ∧ wr.cell? ⟨w.heap.size, k, none⟩ = some (.int .u8 (c : Int)) ∧ wr.frozen? ⟨w.heap.size, k, none⟩ = false := by
        have h := HR.out k (by rw [upTo_length]; exact hkl)
        rw [upTo_get l k hkl] at h
        exact ⟨_, hide rfl, UInt8.toNat_lt _, h.1, h.2⟩
      have hi0 : (0 : Int) ≤ (k : Int) := by omega
      have hi1 : (k : Int) < (s.size : Int) := by omega
      by_cases h1 : 97 ≤ c ∧ c ≤ 122
      · obtain ⟨h1, h2⟩ := h1
        have h1' : decide (97 ≤ (c : Int)) = true := by simp; omega
        have h2' : decide ((c : Int) ≤ 122) = true := by simp; omega
        have hw : IntKind.u8.wrap ((c : Int) - 32) = ((c - 32 : Nat) : Int) := by simp [IntKind.wrap, IntKind.signed, IntKind.bits]; omega
        have HU := hide (bytesIs_put HR.out k (by rw [upTo_length]; exact hkl) (upB l[k]))
        rw [upTo_next l k hkl, upB_yes hC.out h1 h2] at HU
        have HB3 := hide (HB2.out.setCell (p := ⟨w.heap.size, k, none⟩) (Nat.le_refl _) (.int .u8 ((c - 32 : Nat) : Int)))
        go_wp2
        go_roundw
        case rel => exact ⟨k + 1, by omega, by go_num, HU, HB3⟩
        case measure => simp [intOf]; omega
      · have HU := HR
        rw [upTo_same l k hkl (by rw [hC.out]; exact h1)] at HU
        have h1' : (decide (97 ≤ (c : Int)) && decide ((c : Int) ≤ 122)) = false := by simp; omega
        by_cases h2 : 97 ≤ c
        · have h2' : decide (97 ≤ (c : Int)) = true := by simp; omega
          have h3' : decide ((c : Int) ≤ 122) = false := by simp; omega
          go_wp2
          go_roundw
          case rel => exact ⟨k + 1, by omega, by go_num, HU, HB2⟩
          case measure => simp [intOf]; omega
        · have h2' : decide (97 ≤ (c : Int)) = false := by simp; omega
          go_wp2
          go_roundw
          case rel => exact ⟨k + 1, by omega, by go_num, HU, HB2⟩
          case measure => simp [intOf]; omega
    · have hkk : k = s.size := by omega
      have HU := HR
      rw [hkk, ← HL.out, upTo_all] at HU
      have hback := bytesIs_back (P := Tryd.prog) wr 25 9 5 w.heap.size s.size C1 _ (by rw [List.length_map]; exact HL.out) Tryd.underlying25 Tryd.underlying5 Tryd.underlying9 HU.out
      go_wp2
      go_ret
      exact ⟨rfl, HB2.out⟩
theorem implUpper_any (s : ByteArray) (w : World) (hz : s.size ≤ 1048576) : Calls Tryd.prog 39 #[.string s] w fun e w' => e = .returned (.string ⟨(s.data.toList.map upB).toArray⟩) ∧ Below w.heap.size w w' := by
  obtain ⟨W1, C1, hcv, hB1, hs1, hnew⟩ := bytesIs_made (P := Tryd.prog) w 9 25 5 s Tryd.underlying9 Tryd.underlying25 Tryd.underlying5
  have HN := hide hnew
  have HB := hide hB1
  have HS := hide hs1
  have hl : s.data.toList.length = s.size := Array.length_toList
  have HL := hide hl
  generalize s.data.toList = l at HN HL ⊢
  clear hnew hB1 hs1 hl
  go_enter Tryd.func39, Tryd.ntmps39
  go_wp2
  go_loopw [10] (fun i wr => ∃ k : Nat, k ≤ s.size ∧ i = .int .i64 k ∧ Hid (BytesIs wr w.heap.size (upTo l k)) ∧ Hid (Below w.heap.size w wr)) (fun i _ => s.size - (intOf i).toNat)
  case atStart => exact ⟨0, Nat.zero_le _, rfl, by rw [upTo_zero]; exact HN, HB⟩
  case round =>
    obtain ⟨k, hk, rfl, HR, HB2⟩ := hrel
    by_cases hlt : k < s.size
    · have hkl : k < l.length := by rw [HL.out]; exact hlt
      obtain ⟨c, hC, hc256, hcell, hfr⟩ : ∃ c : Nat, Hid (l[k].toNat = c) ∧ c < 256 ∧ wr.cell? ⟨w.heap.size, k, none⟩ = some (.int .u8 (c : Int)) ∧ wr.frozen? ⟨w.heap.size, k, none⟩ = false := by
        have h := HR.out k (by rw [upTo_length]; exact hkl)
        rw [upTo_get l k hkl] at h
        exact ⟨_, hide rfl, UInt8.toNat_lt _, h.1, h.2⟩
      have hi0 : (0 : Int) ≤ (k : Int) := by omega
      have hi1 : (k : Int) < (s.size : Int) := by omega
      by_cases h1 : 97 ≤ c ∧ c ≤ 122
      · obtain ⟨h1, h2⟩ := h1
        have h1' : decide (97 ≤ (c : Int)) = true := by simp; omega
        have h2' : decide ((c : Int) ≤ 122) = true := by simp; omega
        have hw0 : IntKind.u8.wrap ((c : Int) - 97) = ((c : Int) - 97) := by simp [IntKind.wrap, IntKind.signed, IntKind.bits]; omega
        have hw : IntKind.u8.wrap ((c : Int) - 97 + 65) = ((c - 32 : Nat) : Int) := by simp [IntKind.wrap, IntKind.signed, IntKind.bits]; omega
        have HU := hide (bytesIs_put HR.out k (by rw [upTo_length]; exact hkl) (upB l[k]))
        rw [upTo_next l k hkl, upB_yes hC.out h1 h2] at HU
        have HB3 := hide (HB2.out.setCell (p := ⟨w.heap.size, k, none⟩) (Nat.le_refl _) (.int .u8 ((c - 32 : Nat) : Int)))
        go_wp2
        go_roundw
        case rel => exact ⟨k + 1, by omega, by go_num, HU, HB3⟩
        case measure => simp [intOf]; omega
      · have HU := HR
        rw [upTo_same l k hkl (by rw [hC.out]; exact h1)] at HU
        have h1' : (decide (97 ≤ (c : Int)) && decide ((c : Int) ≤ 122)) = false := by simp; omega
        by_cases h2 : 97 ≤ c
        · have h2' : decide (97 ≤ (c : Int)) = true := by simp; omega
          have h3' : decide ((c : Int) ≤ 122) = false := by simp; omega
          go_wp2
          go_roundw
          case rel => exact ⟨k + 1, by omega, by go_num, HU, HB2⟩
          case measure => simp [intOf]; omega
        · have h2' : decide (97 ≤ (c : Int)) = false := by simp; omega
          go_wp2
          go_roundw
          case rel => exact ⟨k + 1, by omega, by go_num, HU, HB2⟩
          case measure => simp [intOf]; omega
    · have hkk : k = s.size := by omega
      have HU := HR
      rw [hkk, ← HL.out, upTo_all] at HU
      have hback := bytesIs_back (P := Tryd.prog) wr 25 9 5 w.heap.size s.size C1 _ (by rw [List.length_map]; exact HL.out) Tryd.underlying25 Tryd.underlying5 Tryd.underlying9 HU.out
      go_wp2
      go_ret
      exact ⟨rfl, HB2.out⟩
def inB (ts : List ByteArray) (x : ByteArray) : Bool := ts.any fun t => decide (t = x)
theorem inB_iff (ts : List ByteArray) (x : ByteArray) : inB ts x = true ↔ x ∈ ts := by
  unfold inB
  rw [List.any_eq_true]
  constructor
  · rintro ⟨t, ht, he⟩
    exact of_decide_eq_true he ▸ ht
  · intro h
    exact ⟨x, h, decide_eq_true rfl⟩
theorem inB_here {ts : List ByteArray} {i : Nat} {x : ByteArray} (h : i < ts.length) (hx : ts[i] = x) : inB (ts.drop i) x = true := by
  rw [List.drop_eq_getElem_cons h]
  simp [inB, hx]
theorem inB_next {ts : List ByteArray} {i : Nat} {x : ByteArray} (h : i < ts.length) (hx : ts[i] ≠ x) : inB (ts.drop i) x = inB (ts.drop (i + 1)) x := by
  rw [List.drop_eq_getElem_cons h]
  unfold inB
  rw [List.any_cons, decide_eq_false hx, Bool.false_or]
theorem l13In_any (ts : List ByteArray) (x : ByteArray) (ao : Option Addr) (cap : Nat) (w : World) (hl : ts.length ≤ 1048576) (hts : TextsAt w ao ts) :
    Calls Tryd.prog 27 #[.slice ao ts.length cap, .string x] w fun e w' => e = .returned (.bool (inB ts x)) ∧ w' = w := by
  obtain ⟨R, HR⟩ : ∃ R, Hid (inB ts x = R) := ⟨_, rfl⟩
  rw [HR.out]
  have HT := hide hts
  clear hts
  have HR0 : Hid (inB (ts.drop 0) x = R) := by show _ = _; rw [List.drop_zero]; exact HR.out
  go_enter Tryd.func27, Tryd.ntmps27
  go_wp2_with fail
  go_loopw [5] (fun ii wr => ∃ i : Nat, ii = .int .i64 (i : Int) ∧ i ≤ ts.length ∧ Hid (inB (ts.drop i) x = R) ∧ wr = w) (fun ii _ => ts.length - (intOf ii).toNat)
  case atStart => exact ⟨0, rfl, Nat.zero_le _, HR0, rfl⟩
  case round =>
    obtain ⟨i, rfl, hi, HI, rfl⟩ := hrel
    by_cases hlt : i < ts.length
    · have hlt' : decide ((i : Int) < (ts.length : Int)) = true := by simp; omega
      obtain ⟨b, off, rfl, hb, hcell⟩ := HT.out i hlt
      have hi0 : (0 : Int) ≤ (i : Int) := by omega
      by_cases hx : ts[i] = x
      · have he := txt_eq hx
        have HY : Hid (true = R) := by show _ = _; rw [← HI.out]; exact (inB_here hlt hx).symm
        clear hx
        go_wp2
        go_ret
        exact ⟨by rw [← HY.out]; rfl, rfl⟩
      · have he := txt_ne hx
        have HY : Hid (inB (ts.drop (i + 1)) x = R) := by
          show _ = _
          rw [← HI.out]
          exact (inB_next hlt hx).symm
        clear hx
        go_wp2
        go_roundw
        case rel => exact ⟨i + 1, by go_num, by omega, HY, by trivial⟩
        case measure => simp [intOf]; omega
    · have hlt' : decide ((i : Int) < (ts.length : Int)) = false := by rw [decide_eq_false_iff_not]; omega
      have HY : Hid (false = R) := by
        show _ = _
        rw [← HI.out, List.drop_of_length_le (by omega)]
        rfl
      go_wp2
      go_ret
      exact ⟨by rw [← HY.out]; rfl, rfl⟩
theorem specCmds_row (w : World) : Calls Tryd.prog 28 #[] w fun e w' => ∃ v, e = .returned v ∧ RowText w' w.heap.size v cmdsL ∧ Below w.heap.size w w' := by
  refine (cmds_any w).mono ?_
  rintro e w' ⟨rfl, rfl⟩
  refine ⟨_, rfl, .inr ⟨w.heap.size, 41, _, rfl, Nat.le_refl _, heap_alloc_new w _, by simp, ?_⟩, (Below.refl _ _).alloc (Nat.le_refl _) _⟩
  intro j hj _
  simp [hj]
def upT (s : ByteArray) : ByteArray := ⟨(s.data.toList.map upB).toArray⟩
def takes0 : List ByteArray := [⟨#[80, 73, 78, 71]⟩, ⟨#[75, 69, 89, 83]⟩, ⟨#[68, 66, 83, 73, 90, 69]⟩, ⟨#[70, 76, 85, 83, 72, 65, 76, 76]⟩]
def takes2 : List ByteArray := [⟨#[83, 69, 84]⟩, ⟨#[83, 69, 84, 78, 88]⟩, ⟨#[71, 69, 84, 83, 69, 84]⟩, ⟨#[65, 80, 80, 69, 78, 68]⟩, ⟨#[73, 78, 67, 82, 66, 89]⟩, ⟨#[68, 69, 67, 82, 66, 89]⟩, ⟨#[69, 88, 80, 73, 82, 69]⟩, ⟨#[76, 73, 78, 68, 69, 88]⟩, ⟨#[72, 71, 69, 84]⟩, ⟨#[83, 73, 83, 77, 69, 77, 66, 69, 82]⟩]
def takes3 : List ByteArray := [⟨#[76, 82, 65, 78, 71, 69]⟩, ⟨#[72, 83, 69, 84]⟩]
def takes4 : List ByteArray := [⟨#[77, 71, 69, 84]⟩, ⟨#[68, 69, 76]⟩, ⟨#[69, 88, 73, 83, 84, 83]⟩]
def takes5 : List ByteArray := [⟨#[76, 80, 85, 83, 72]⟩, ⟨#[82, 80, 85, 83, 72]⟩, ⟨#[72, 68, 69, 76]⟩, ⟨#[83, 65, 68, 68]⟩, ⟨#[83, 82, 69, 77]⟩]
def msetT : ByteArray := ⟨#[77, 83, 69, 84]⟩
theorem mset_list : msetT.toList = [77, 83, 69, 84] := by rw [ByteArray.toList_eq]; rfl
def kindS (x : ByteArray) : Int := if inB takes0 x then 0 else if inB takes2 x then 2 else if inB takes3 x then 3 else if inB takes4 x then 4 else if inB takes5 x then 5 else if x = msetT then 6 else 1
def takesK (k : Int) (n : Int) : Bool := if k = 4 then decide (1 ≤ n) else if k = 5 then decide (2 ≤ n) else if k = 6 then (n == 2 || n == 4 || n == 6) else (n == k)
def knownS (ts : List ByteArray) : Bool := match ts with | [] => false | x :: _ => inB cmdsL (upT x)
def okS (ts : List ByteArray) : Bool := match ts with | [] => false | x :: r => inB cmdsL (upT x) && takesK (kindS (upT x)) (r.length : Int)
theorem kinds_alike : ∀ p ∈ cmdsL.zip cmdsK, kindS p.1 = p.2.1 := by decide +kernel
theorem textsAt_lit (W : World) (L : List ByteArray) : TextsAt (W.alloc (.cells (L.map Value.string).toArray 9)) (some ⟨W.heap.size, 0, none⟩) L := by
  refine textsAt_in (heap_alloc_new W _) ?_
  intro j hj _
  simp [hj]
theorem takesK_iff (x : ByteArray) (n : Int) : takesK (kindS x) n = if inB takes0 x then (n == 0) else if inB takes2 x then (n == 2) else if inB takes3 x then (n == 3) else if inB takes4 x then decide (1 ≤ n) else if inB takes5 x then decide (2 ≤ n) else if x = msetT then (n == 2 || n == 4 || n == 6) else (n == 1) := by
  unfold kindS
  repeat' split
  all_goals simp [takesK]
theorem specArity_nil (cap : Nat) (ao : Option Addr) (w : World) : Calls Tryd.prog 13 #[.slice ao 0 cap] w fun e w' => e = .returned (.bool false) ∧ Below w.heap.size w w' := by
  go_enter Tryd.func13, Tryd.ntmps13
  go_wp2_with fail
  go_quiet (fail)
  go_wp2
  go_ret
  exact ⟨rfl, drewN_below _ _⟩
def CmdsAt (W : World) (e : Ending) (w' : World) : Prop := ∃ (a1 : Option Addr) (c1 : Nat), e = .returned (.slice a1 cmdsL.length c1) ∧ TextsAt w' a1 cmdsL ∧ Below W.heap.size W w'
theorem cmds_at (W : World) : Calls Tryd.prog 28 #[] W (CmdsAt W) := by
  refine (specCmds_row W).mono ?_
  rintro e w' ⟨v, rfl, r, b⟩
  obtain ⟨a1, c1, rfl, t1⟩ := rowText_at r
  exact ⟨a1, c1, rfl, t1, b⟩
theorem specArity_cons (x : ByteArray) (r : List ByteArray) (ao : Option Addr) (cap : Nat) (w : World) (hl : r.length ≤ 1048575) (hts : TextsAt w ao (x :: r)) (hz : x.size ≤ 1048576) :
    Calls Tryd.prog 13 #[.slice ao (r.length + 1) cap] w fun e w' => e = .returned (.bool (okS (x :: r))) ∧ Below w.heap.size w w' := by
  obtain ⟨b, off, rfl, hb, hcell⟩ := hts 0 (by simp)
  rw [Nat.add_zero] at hcell
  have hcell : w.cell? ⟨b, off, none⟩ = some (.string x) := hcell
  have HC := hide hcell
  have KS : Hid (∀ W, Below w.heap.size w W → W.cell? ⟨b, off, none⟩ = some (.string x)) := fun W hW => (hW.cell (p := ⟨b, off, none⟩) hb).trans HC.out
  have SU := hide (fun W => specUpper_any x W hz)
  have SC := hide (fun W => cmds_at W)
  have h0 : (((r.length : Nat) : Int) + 1 == 0) = false := by rw [beq_eq_false_iff_ne]; omega
  have h1m : ((r.length : Nat) : Int) + 1 - 1 = (r.length : Int) := by omega
  obtain ⟨X, HX⟩ : ∃ X, Hid (upT x = X) := ⟨_, rfl⟩
  have e0 : (⟨(x.data.toList.map upB).toArray⟩ : ByteArray) = X := HX.out
  rw [e0] at SU
  have HOK : Hid (okS (x :: r) = (inB cmdsL X && takesK (kindS X) (r.length : Int))) := by
    show (inB cmdsL (upT x) && takesK (kindS (upT x)) (r.length : Int)) = _
    rw [HX.out]
  rw [takesK_iff] at HOK
  generalize okS (x :: r) = R at HOK ⊢
  clear hts e0
  go_enter Tryd.func13, Tryd.ntmps13
  go_wp2_with fail
  go_region_held3 (fun W => W.cell? ⟨b, off, none⟩ = some (.string x)) (first | (exact KS.out _ (Below.refl _ _)) | (exact KS.out _ (Below.refl _ _).drew) | (exact KS.out _ c2) | (exact KS.out _ c1) | fail) ((first | (go_at_call 28; refine (SC.out _).mono ?_; rintro e w1 ⟨a1, cc1, rfl, t1, b1⟩; have c1 : Below w.heap.size w w1 := (Below.refl _ _).drew.trans b1) | (go_at_call 11; refine (SU.out _).mono ?_; rintro e w2 ⟨rfl, b2⟩; have c2 : Below w.heap.size w w2 := c1.trans (b2.mono c1.size)) | (go_at_call 27; refine (l13In_any cmdsL X a1 cc1 _ (by decide) (textsAt_keep t1 b2)).mono ?_; rintro e w3 ⟨rfl, rfl⟩)))
  have B3 := hide c2
  clear c1 c2 b1 b2 t1
  cases hk : inB cmdsL X with
  | false =>
    rw [hk] at HOK
    go_wp2
    go_ret
    exact ⟨by rw [HOK.out]; rfl, B3.out⟩
  | true =>
    rw [hk, Bool.true_and] at HOK
    go_wp2_with fail
    refine (SU.out _).mono ?_
    rintro e w4 ⟨rfl, b4⟩
    have B4 := hide (B3.out.trans (b4.mono B3.out.size))
    clear b4
    have B5 := hide (B4.out.alloc B4.out.size (.cells (takes0.map Value.string).toArray 9))
    go_wp2_with fail
    refine (l13In_any takes0 X _ _ _ (by decide) (textsAt_lit _ takes0)).mono ?_
    rintro e w5 ⟨rfl, ew5⟩
    replace B5 : Hid (Below w.heap.size w w5) := by show Below _ _ _; rw [ew5]; exact B5.out
    clear ew5
    cases hq0 : inB takes0 X with
    | true =>
      rw [hq0] at HOK
      go_wp2
      go_ret
      exact ⟨by rw [HOK.out]; rfl, B5.out⟩
    | false =>
      rw [hq0] at HOK
      have B6 := hide (B5.out.alloc B5.out.size (.cells (takes2.map Value.string).toArray 9))
      go_wp2_with fail
      refine (l13In_any takes2 X _ _ _ (by decide) (textsAt_lit _ takes2)).mono ?_
      rintro e w6 ⟨rfl, ew6⟩
      replace B6 : Hid (Below w.heap.size w w6) := by show Below _ _ _; rw [ew6]; exact B6.out
      clear ew6
      cases hq1 : inB takes2 X with
      | true =>
        rw [hq1] at HOK
        go_wp2
        go_ret
        exact ⟨by rw [HOK.out]; rfl, B6.out⟩
      | false =>
        rw [hq1] at HOK
        have B7 := hide (B6.out.alloc B6.out.size (.cells (takes3.map Value.string).toArray 9))
        go_wp2_with fail
        refine (l13In_any takes3 X _ _ _ (by decide) (textsAt_lit _ takes3)).mono ?_
        rintro e w7 ⟨rfl, ew7⟩
        replace B7 : Hid (Below w.heap.size w w7) := by show Below _ _ _; rw [ew7]; exact B7.out
        clear ew7
        cases hq2 : inB takes3 X with
        | true =>
          rw [hq2] at HOK
          go_wp2
          go_ret
          exact ⟨by rw [HOK.out]; rfl, B7.out⟩
        | false =>
          rw [hq2] at HOK
          have B8 := hide (B7.out.alloc B7.out.size (.cells (takes4.map Value.string).toArray 9))
          go_wp2_with fail
          refine (l13In_any takes4 X _ _ _ (by decide) (textsAt_lit _ takes4)).mono ?_
          rintro e w8 ⟨rfl, ew8⟩
          replace B8 : Hid (Below w.heap.size w w8) := by show Below _ _ _; rw [ew8]; exact B8.out
          clear ew8
          cases hq3 : inB takes4 X with
          | true =>
            rw [hq3] at HOK
            go_wp2
            go_ret
            exact ⟨by rw [HOK.out]; rfl, B8.out⟩
          | false =>
            rw [hq3] at HOK
            have B9 := hide (B8.out.alloc B8.out.size (.cells (takes5.map Value.string).toArray 9))
            go_wp2_with fail
            refine (l13In_any takes5 X _ _ _ (by decide) (textsAt_lit _ takes5)).mono ?_
            rintro e w9 ⟨rfl, ew9⟩
            replace B9 : Hid (Below w.heap.size w w9) := by show Below _ _ _; rw [ew9]; exact B9.out
            clear ew9
            cases hq4 : inB takes5 X with
            | true =>
              rw [hq4] at HOK
              go_wp2
              go_ret
              exact ⟨by rw [HOK.out]; rfl, B9.out⟩
            | false =>
              rw [hq4] at HOK
              simp only [Bool.false_eq_true, if_false] at HOK
              by_cases hm : X = msetT
              · have hm' := txt_eq hm
                rw [if_pos hm] at HOK
                rw [mset_list] at hm'
                clear hm
                cases e2 : ((r.length : Int) == 2) <;> cases e4 : ((r.length : Int) == 4) <;> cases e6 : ((r.length : Int) == 6) <;> rw [e2, e4, e6] at HOK <;> (go_wp2; go_ret; exact ⟨by rw [HOK.out]; rfl, B9.out⟩)
              · have hm' := txt_ne hm
                rw [if_neg hm] at HOK
                rw [mset_list] at hm'
                clear hm
                go_wp2
                go_ret
                exact ⟨by rw [HOK.out]; rfl, B9.out⟩
def OwnsB (w : World) (B : Nat) (te : TypeId) (v : Value) (l : List UInt8) : Prop :=
  ∃ (g cap : Nat) (cur : Array Value) (fz : Nat × Nat), v = .slice (some ⟨g, 0, none⟩) l.length cap ∧ B ≤ g ∧ w.heap[g]? = some (.cells cur te fz) ∧ (fz = (0, 0) ∨ cur.size ≤ fz.1) ∧ l.length ≤ cap ∧ cap ≤ maxLen ∧ cur.size = cap ∧ cur.toList.take l.length = l.map bv
theorem ownsB_lt {w : World} {B : Nat} {te : TypeId} {v : Value} {l : List UInt8} (h : OwnsB w B te v l) : ∀ g, v.ownBlock = some g → B ≤ g ∧ g < w.heap.size := by
  obtain ⟨g, cap, cur, fz, rfl, hB, hC, _⟩ := h
  intro g' h
  obtain rfl : g = g' := by simpa [Value.ownBlock] using h
  exact ⟨hB, (Array.getElem?_eq_some_iff.1 hC).1⟩
theorem ownsB_cells {w : World} {B : Nat} {te : TypeId} {g n cap : Nat} {l : List UInt8} (h : OwnsB w B te (.slice (some ⟨g, 0, none⟩) n cap) l) : ∀ j u, (l.map bv)[j]? = some u → w.cell? ((⟨g, 0, none⟩ : Addr).add j) = some u := by
  obtain ⟨g', cap', cur, fz, e, _, hC, _, _, _, _, ht⟩ := h
  obtain ⟨rfl, -, -⟩ : g = g' ∧ n = l.length ∧ cap = cap' := by simpa using e
  intro j u hu
  have hadd : (⟨g, 0, none⟩ : Addr).add j = ⟨g, j, none⟩ := by cases j <;> simp [Addr.add]
  rw [hadd, cell_of_row w g j cur te fz hC]
  rw [← ht, List.getElem?_take] at hu
  split at hu
  · simpa using hu
  · cases hu
section
variable {P : Program}
theorem conv_made (w : World) (src dst e : TypeId) (s : ByteArray) (hs : P.underlying src = some .string) (hd : P.underlying dst = some (.slice e)) (he : P.underlying e = some (.int .u8)) (hz : s.size ≤ maxLen) :
    ∃ (W : World) (C : Nat), (convert src dst (.string s)).run P w = .ok (.slice (some ⟨w.heap.size, 0, none⟩) s.size C) W ∧ Below w.heap.size w W ∧ W.heap.size = w.heap.size + 1 ∧ OwnsB W w.heap.size e (.slice (some ⟨w.heap.size, 0, none⟩) s.size C) s.data.toList := by
  refine ⟨_, _, Lib.run_convert_string_bytes w src dst e s hs hd he, ⟨rfl, rfl, rfl, by rw [Lib.bytesWorld_size]; omega, fun k hk => Lib.bytesWorld_at_old w e _ k hk⟩, Lib.bytesWorld_size _ _ _, ?_⟩
  have hl : s.data.toList.length = s.size := Array.length_toList
  have hge := grownCap_ge w s.size 0 e
  have hsz : (Lib.bytesCells w e s).size = grownCap w s.size 0 e := by
    have h0 : s.data.size = s.size := rfl
    simp only [Lib.bytesCells, Array.size_append, Array.size_map, Array.size_replicate]
    omega
  refine ⟨w.heap.size, grownCap w s.size 0 e, Lib.bytesCells w e s, _, by rw [hl], Nat.le_refl _, Lib.bytesWorld_at_new w e s, .inr (Nat.le_refl _), by omega, grownCap_le_maxLen w _ _ e hz, hsz, ?_⟩
  rw [hl]
  have h0 : s.size = (s.data.map fun b => Value.int .u8 (b.toNat : Int)).toList.length := by simp
  simp only [Lib.bytesCells, Array.toList_append]
  conv => lhs; rw [h0]
  rw [List.take_left]
  simp [bv]
theorem store_behind (g o : Nat) (t : TypeId) (fz : Nat × Nat) : ∀ (vs : List Value) (i : Nat) (cur : Array Value) (w : World), w.heap[g]? = some (.cells cur t fz) → (fz = (0, 0) ∨ cur.size ≤ fz.1) → o + i + vs.length ≤ cur.size → (∀ v ∈ vs, v.oneCell' = true) →
    (storeCells ⟨g, o, none⟩ vs i).run P w = .ok () (w.setRow g (cur.toList.take (o + i) ++ vs ++ cur.toList.drop (o + i + vs.length)).toArray)
  | [], i, cur, w, hg, _, _, _ => by
    simp only [storeCells, List.append_nil, List.length_nil, Nat.add_zero, List.take_append_drop, Array.toArray_toList]
    rw [setRow_self w g cur t fz hg]
    rfl
  | v :: rest, i, cur, w, hg, hfz, hl, h1 => by
    have hlt : o + i < cur.size := by simp at hl; omega
    have ha : (⟨g, o, none⟩ : Addr).add i = ⟨g, o + i, none⟩ := by cases i <;> simp [Addr.add]
    have hf : w.frozen? ⟨g, o + i, none⟩ = false := by
      simp only [World.frozen?, hg]
      rcases hfz with rfl | hfz
      · simp
      · obtain ⟨lo, hi⟩ := fz
        have : ¬ lo ≤ o + i := by simp only at hfz; omega
        simp [this]
    have hc : w.cell? ⟨g, o + i, none⟩ = some cur[o + i] := by rw [cell_of_row w g _ cur t fz hg, Array.getElem?_eq_getElem hlt]
    have h2 : (store ((⟨g, o, none⟩ : Addr).add i) v).run P w = .ok () (w.setRow g (cur.setIfInBounds (o + i) v)) := by
      rw [ha, run_store P w _ v _ (h1 v (by simp)), hc]
      simp [hf, setCell_eq_setRow w g (o + i) cur t fz v hg]
    have h3 := store_behind g o t fz rest (i + 1) (cur.setIfInBounds (o + i) v) _ (setRow_heap w g cur (cur.setIfInBounds (o + i) v) t fz hg) (by simpa using hfz) (by simp at hl ⊢; omega) (fun x hx => h1 x (by simp [hx]))
    simp only [storeCells, Sem.run_bind, h2, Result.andThen_ok, h3, setRow_setRow]
    congr 3
    simpa [Array.toList_setIfInBounds, Nat.add_assoc] using list_seg_step cur.toList (o + i) v rest (by simp at hl ⊢; omega)
theorem conv_backB (w : World) (ts tx te : TypeId) (B : Nat) (v : Value) (l : List UInt8) (hts : P.underlying ts = some (.slice te)) (hte : P.underlying te = some (.int .u8)) (htx : P.underlying tx = some .string) (hown : OwnsB w B te v l) :
    (convert ts tx v).run P w = .ok (.string ⟨l.toArray⟩) w := by
  obtain ⟨g, cap, cur, fz, rfl, hB, hC, hfz, hnc, hcm, hcs, htk⟩ := hown
  refine run_convert_bytes_back w ts tx te ⟨g, 0, none⟩ cap l hts hte htx ?_
  intro j hj
  refine ownsB_cells ⟨g, cap, cur, fz, rfl, hB, hC, hfz, hnc, hcm, hcs, htk⟩ j _ ?_
  simp [bv, hj]
end
end Go.Proofs.YtpibnhodlojajaaDoor
