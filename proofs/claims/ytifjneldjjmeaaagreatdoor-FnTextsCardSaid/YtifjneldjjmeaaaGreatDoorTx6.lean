import Derived.OwnWalk
import Derived.Lib.SmallJoins
import Derived.OpenShut
import Derived.Deep.RegionHeld3
import Derived.BigQuiet
import Derived.Test.YtifjneldjjmeaaaGreatDoorTx5
import Derived.Test.YtifjneldjjmeaaaGreatDoorTx0
import Derived.Test.YtifjneldjjmeaaaGreatDoorTx4
import Derived.Test.YtifjneldjjmeaaaGreatDoorTx3
set_option maxRecDepth 100000
set_option maxHeartbeats 6400000
namespace Go.Proofs.YtifjneldjjmeaaaGreatDoor
open Go.RowKit
theorem flat_cut (m : Nat) : ∀ (L : List (Array Value)) (k : Nat) (h : k < L.length), (∀ v ∈ L, v.size = m) → ((L.map Array.toList).flatten.drop (k * m)).take m = (L[k]'h).toList
  | v :: L, 0, _, hv => by
    have := hv v List.mem_cons_self
    simp [this]
  | v :: L, k + 1, h, hv => by
    have h1 := hv v List.mem_cons_self
    have h2 := flat_cut m L k (by simpa using h) (fun x hx => hv x (List.mem_cons_of_mem _ hx))
    rw [List.map_cons, List.flatten_cons, List.drop_append, List.drop_of_length_le (by rw [Array.length_toList, h1, Nat.succ_mul]; omega), List.nil_append, Array.length_toList, h1, Nat.succ_mul, Nat.add_sub_cancel]
    simpa using h2
theorem allV_len : allV.length = 41 := by unfold allV; rw [List.length_map]; rfl
theorem allV_get (k : Nat) (h : k < 41) : ∃ (s : ByteArray) (a b : Int), cmdsL[k]? = some s ∧ cmdsK[k]? = some (a, b) ∧ allV[k]'(by rw [allV_len]; exact h) = cmdC s a b := by
  have h1 : k < cmdsL.length := h
  have h2 : k < cmdsK.length := h
  refine ⟨cmdsL[k], (cmdsK[k]).1, (cmdsK[k]).2, List.getElem?_eq_getElem h1, List.getElem?_eq_getElem h2, ?_⟩
  simp [allV]
  rfl
theorem all_index (k : Nat) (h : k < 41) (s : ByteArray) (a b : Int) (he : allV[k]'(by rw [allV_len]; exact h) = cmdC s a b) :
    ∀ W : World, (Instr.index 152 (.agg allC) (.int .i64 (k : Int))).run Tryz.prog W = .ok (.agg (cmdC s a b)) W := by
  intro W
  have hm : ∀ v ∈ allV, v.size = 11 := by
    intro v hv
    simp only [allV, List.mem_map] at hv
    obtain ⟨x, _, rfl⟩ := hv
    exact cmdC_size _ _ _
  have hc : allC.extract (k * 11) (k * 11 + 11) = cmdC s a b := by
    have h1 := flat_cut 11 allV k (by rw [allV_len]; exact h) hm
    rw [he] at h1
    apply Array.toList_inj.1
    rw [Array.toList_extract, ← h1]
    simp [allC, List.extract_eq_take_drop]
  have hs : (Tryz.prog.info? 129).map (·.size) = some 11 := Tryz.infoCmd
  cases hq : Tryz.prog.info? 129 with
  | none => simp [hq] at hs
  | some i =>
    have hi : i.size = 11 := by simpa [hq] using hs
    have hk : (0 : Int) ≤ (k : Int) ∧ (k : Int) < ((41 : Nat) : Int) := by omega
    simp [Instr.index, asIntOf, run_underlying Tryz.underlying152, run_underlying Tryz.underlying129, part, isAgg, sizeOf, typeInfo, hq, hi, hc]
    omega
theorem run_load_part {P : Program} (w : World) (g : Nat) (t ty : TypeId) (cs rest : Array Value) (fr : Nat × Nat) (d : TypeDesc) (hg : w.heap[g]? = some (.cells (cs ++ rest) t fr))
    (hu : P.underlying ty = some d) (hd : (match d with | .struct _ | .array _ _ => true | _ => false) = true) (hi : (P.info? ty).map (·.size) = some cs.size) :
    (loadVar ty ⟨g, 0, none⟩).run P w = .ok (.agg cs) w := by
  have hl : (loadCells ⟨g, 0, none⟩ cs.toList.length).run P w = .ok cs.toList.toArray w :=
    run_loadCells_list (P := P) w ⟨g, 0, none⟩ cs.toList (fun j v hv => by
      have hadd : (⟨g, 0, none⟩ : Addr).add j = ⟨g, j, none⟩ := by unfold Addr.add; split <;> simp_all
      rw [hadd, cell_of_row w g j (cs ++ rest) t fr hg]
      have hj : j < cs.size := by
        have := (List.getElem?_eq_some_iff.1 hv).1
        simpa using this
      rw [Array.getElem?_append_left hj]
      simpa using hv)
  cases hq : P.info? ty with
  | none => simp [hq] at hi
  | some i =>
    have hs : i.size = cs.size := by simpa [hq] using hi
    have hagg : (isAgg ty).run P w = .ok true w := by
      unfold isAgg
      rw [Sem.run_bind, run_underlying hu w]
      cases d <;> simp_all
    simp only [Array.length_toList, Array.toArray_toList] at hl
    simp [loadVar, Sem.run_bind, hagg, sizeOf, typeInfo, hq, hs, hl]
theorem wpList_load_part {P : Program} {ops : Array Oper} {rest : List Oper} {o : Oper} {a : Act} {w : World} {Q : Exit → Act → World → Prop} (hgd : o.guard = none) (ty : TypeId) (x : Operand) (ho : o.op = .load ty x)
    (g : Nat) (hx : a.eval x = .pointer (some ⟨g, 0, none⟩)) (t : TypeId) (cs rs : Array Value) (fr : Nat × Nat) (d : TypeDesc) (hg : w.heap[g]? = some (.cells (cs ++ rs) t fr))
    (hu : P.underlying ty = some d) (hd : (match d with | .struct _ | .array _ _ => true | _ => false) = true) (hi : (P.info? ty).map (·.size) = some cs.size)
    (h : wpList P ops Q rest (a.put o.dst (.agg cs)) w) : wpList P ops Q (o :: rest) a w := by
  refine wpList_plain hgd fun K hK => ?_
  unfold Oper.wp execOp
  simp only [ho, hx, Instr.loadAt, Instr.sureAddr, Sem.run_bind, Sem.run_pure, Result.andThen_ok, run_load_part w g t ty cs rs fr d hg hu hd hi]
  exact hK _ _ h
theorem cmd_name {s : ByteArray} {k : Nat} (h : cmdsL[k]? = some s) : s ∈ cmdsL := List.mem_of_getElem? h
def CBox (W : World) (g : Nat) (s : ByteArray) (a b : Int) : Prop := W.heap[g]? = some (.cells (nmC s ++ #[.int .i64 a, .int .i64 b]) 129 (0, 0))
def zeroC : Array Value := #[.int .u8 0, .int .u8 0, .int .u8 0, .int .u8 0, .int .u8 0, .int .u8 0, .int .u8 0, .int .u8 0, .int .u8 0, .int .i64 0, .int .i64 0]
theorem cbox_new (W : World) (s : ByteArray) (a b : Int) : CBox ((W.alloc (.cells zeroC 129)).setRow W.heap.size (cmdC s a b)) W.heap.size s a b := setRow_new _ _ _ _ _ (heap_alloc_new W _)
theorem cbox_below {B : Nat} {w W : World} (hb : Below B w W) (hB : B ≤ W.heap.size) (s : ByteArray) (a b : Int) : Below B w ((W.alloc (.cells zeroC 129)).setRow W.heap.size (cmdC s a b)) :=
  below_setRow (hb.alloc hB _) hB _
theorem specCmds_row (w : World) : Calls Tryz.prog 34 #[] w fun e w' => ∃ v, e = .returned v ∧ RowText w' w.heap.size v cmdsL ∧ Below w.heap.size w w' := by
  refine (cmds_any w).mono ?_
  rintro e w' ⟨rfl, rfl⟩
  refine ⟨_, rfl, .inr ⟨w.heap.size, 41, _, rfl, Nat.le_refl _, heap_alloc_new w _, by simp, ?_⟩, (Below.refl _ _).alloc (Nat.le_refl _) _⟩
  intro j hj _
  simp [hj]
def upT (s : ByteArray) : ByteArray := ⟨(s.data.toList.map upB).toArray⟩
def takes0 : List ByteArray := [⟨#[80, 73, 78, 71]⟩, ⟨#[75, 69, 89, 83]⟩, ⟨#[68, 66, 83, 73, 90, 69]⟩, ⟨#[70, 76, 85, 83, 72, 65, 76, 76]⟩]
def takes2 : List ByteArray := [⟨#[83, 69, 84]⟩, ⟨#[83, 69, 84, 78, 88]⟩, ⟨#[71, 69, 84, 83, 69, 84]⟩, ⟨#[65, 80, 80, 69, 78, 68]⟩, ⟨#[73, 78, 67, 82, 66, 89]⟩, ⟨#[68, 69, 67, 82, 66, 89]⟩, ⟨#[69, 88, 80, 73, 82, 69]⟩, ⟨#[76, 73, 78, 68, 69, 88]⟩, ⟨#[72, 71, 69, 84]⟩, ⟨#[83, 73, 83, 77, 69, 77, 66, 69, 82]⟩]
def takes3 : List ByteArray := [⟨#[76, 82, 65, 78, 71, 69]⟩, ⟨#[72, 83, 69, 84]⟩]
def takes4 : List ByteArray := [⟨#[77, 71, 69, 84]⟩, ⟨#[68, 69, 76]⟩, ⟨#[69, 88, 73, 83, 84, 83]⟩]
def takes5 : List ByteArray := [⟨#[76, 80, 85, 83, 72]⟩, ⟨#[82, 80, 85, 83, 72]⟩, ⟨#[72, 68, 69, 76]⟩, ⟨#[83, 65, 68, 68]⟩, ⟨#[83, 82, 69, 77]⟩]
def msetT : ByteArray := ⟨#[77, 83, 69, 84]⟩
def kindS (x : ByteArray) : Int := if inB takes0 x then 0 else if inB takes2 x then 2 else if inB takes3 x then 3 else if inB takes4 x then 4 else if inB takes5 x then 5 else if x = msetT then 6 else 1
def takesK (k : Int) (n : Int) : Bool := if k = 4 then decide (1 ≤ n) else if k = 5 then decide (2 ≤ n) else if k = 6 then (n == 2 || n == 4 || n == 6) else (n == k)
def knownS (ts : List ByteArray) : Bool := match ts with | [] => false | x :: _ => inB cmdsL (upT x)
def okS (ts : List ByteArray) : Bool := match ts with | [] => false | x :: r => inB cmdsL (upT x) && takesK (kindS (upT x)) (r.length : Int)
theorem kinds_alike : ∀ p ∈ cmdsL.zip cmdsK, kindS p.1 = p.2.1 := by decide +kernel
theorem textsAt_lit (W : World) (L : List ByteArray) : TextsAt (W.alloc (.cells (L.map Value.string).toArray 9)) (some ⟨W.heap.size, 0, none⟩) L := by
  refine textsAt_in (heap_alloc_new W _) ?_
  intro j hj _
  simp [hj]
theorem stN_call {w0 w wr w' : World} {g : Nat} {ao : Option Addr} {len cap : Nat} (h : StN w0 w wr g ao len cap) (hc : CurAt w0 w' g ao len cap) (hg : wr.grownBy w' (some g)) : StN w0 w w' g ao len cap := ⟨hc, h.2.trans hg⟩
theorem stN_below {w0 w wr w' : World} {g : Nat} {ao : Option Addr} {len cap : Nat} (h : StN w0 w wr g ao len cap) (hb : Below w.heap.size wr w') (hgw : g < w.heap.size) : StN w0 w w' g ao len cap := ⟨cur_keep h.1 hb hgw, grownBy_then h.2 hb⟩
theorem texts_at {w : World} {b off j : Nat} {ts : List ByteArray} (h : TextsAt w (some ⟨b, off, none⟩) ts) (hj : j < ts.length) : w.cell? ⟨b, off + j, none⟩ = some (.string ts[j]) := by
  obtain ⟨b', off', e, -, hc⟩ := h j hj
  cases e
  exact hc
theorem l14Args_any (w0 w : World) (g : Nat) (ao : Option Addr) (len cap : Nat) (hlen : len ≤ 1048576) (hcode : Code w0 ao len) (hc : CurAt w0 w g ao len cap) (B : Nat) (hgB : g < B) (lb lc : Nat) (hlist : RowText w B (.slice (some ⟨lb, 0, none⟩) cmdsL.length lc) cmdsL)
    (es : List EntD) (ta : Option Addr) (tc : Nat) (hrow : RowEnt w B (.slice ta es.length tc) es) (hl : es.length ≤ 1000) :
    Calls Tryz.prog 33 #[.pointer (some ⟨g, 0, none⟩), .slice (some ⟨lb, 0, none⟩) cmdsL.length lc, .slice ta es.length tc] w fun e w' => (∃ a n c, e = .returned (.slice a n c)) ∧ StN w0 w w' g ao len cap := by
  have hgw := cur_lt hc
  have HA := hide (fun W (h : CurAt w0 W g ao len cap) => l11Args_any w0 W g ao len cap hlen hcode h)
  have HON := hide (fun W (h : CurAt w0 W g ao len cap) => once_any w0 W g ao len cap 4 hlen (by decide) hcode h)
  have HBE := hide (fun W (n : Int) (hn : n ≤ 4611686018427387904) (h : CurAt w0 W g ao len cap) => below_any w0 W g ao len cap n hlen hn hcode h)
  have HL := hide (fun W (h : w.grownBy W (some g)) => rowText_rows (rowText_grown hlist h (fun k hk e => by have := (rowText_lt hlist k hk).1; cases e; omega)))
  have HT := hide (fun W (h : w.grownBy W (some g)) => (rowEnt_rows (rowEnt_keep hrow (fun b hb1 hb2 => h.block b hb2 (by simp; omega)))).2)
  have H0 : Hid (StN w0 w w g ao len cap) := ⟨hc, grownBy_below (some g) (Below.refl w.heap.size w)⟩
  have hcl : cmdsL.length = 41 := rfl
  clear hc hlist hrow
  go_enter Tryz.func33, Tryz.ntmps33
  go_wp2
  go_loopg [7] 40 (fun gg ii wr => ∃ k : Nat, k + gg = 40 ∧ ii = .int .i64 (k : Int) ∧ k ≤ 40 ∧ Hid (StN w0 w wr g ao len cap))
  case atStart => exact ⟨0, rfl, rfl, by decide, H0⟩
  case round =>
    obtain ⟨k, hgk, rfl, hk, HS⟩ := hrel
    by_cases hlt : k < 40
    · have hlt' : decide ((k : Int) < 40) = true := by simp; omega
      go_wp2_with fail
      refine (HA.out _ HS.out.1).mono ?_
      rintro e w1 ⟨ka, ca, ts, rfl, h8, hz, st⟩
      have S1 := hide (stN_call HS.out st.1 st.2.1)
      have HW := hide st.2.2.2
      have hka : w.heap.size ≤ ka := Nat.le_trans HS.out.2.size (st.2.2.2.lt ka rfl).1
      clear st
      by_cases h0 : ts.length = 0
      · have h0' : ((ts.length : Int) == 0) = true := by rw [beq_iff_eq]; omega
        go_wp2
        go_roundg (gk - 1)
        case measure => omega
        case rel => exact ⟨k + 1, by omega, by go_num, by omega, S1⟩
      · have h0' : ((ts.length : Int) == 0) = false := by rw [beq_eq_false_iff_ne]; omega
        have hN0 : 0 < ts.length := by omega
        have hNi : (0 : Int) < (ts.length : Int) := by omega
        have TX := hide (rowText_rows (rowText_own HW.out))
        have hc0 := texts_at TX.out hN0
        rw [Nat.add_zero] at hc0
        have HUP := hide (fun W => specUpper_any ts[0] W (by have := hz _ (List.getElem_mem hN0); omega))
        go_wp2_with fail
        refine (HUP.out _).mono ?_
        rintro e w2 ⟨rfl, b2⟩
        have S2 := hide (stN_below S1.out (b2.mono S1.out.2.size) hgw)
        have hb2 := hide b2
        clear b2
        generalize (⟨(ts[0].data.toList.map upB).toArray⟩ : ByteArray) = up
        have HIN := hide (l13In_any cmdsL up (some ⟨lb, 0, none⟩) lc w2 (by decide) (HL.out _ S2.out.2))
        generalize inB cmdsL up = R at HIN
        go_wp2_with fail
        refine HIN.out.mono ?_
        rintro e w3 ⟨rfl, rfl⟩
        cases R with
        | false =>
          go_wp2
          go_roundg (gk - 1)
          case measure => omega
          case rel => exact ⟨k + 1, by omega, by go_num, by omega, S2⟩
        | true =>
          clear HIN
          by_cases h1 : 1 < ts.length
          · have h1' : decide (1 < (ts.length : Int)) = true := by simp; omega
            by_cases h2 : 0 < es.length
            · have h2' : decide (0 < (es.length : Int)) = true := by simp; omega
              go_wp2_with fail
              refine (HON.out _ S2.out.1).mono ?_
              rintro e w4 ⟨q, rfl, c4, g4⟩
              have S4 := hide (stN_call S2.out c4 g4)
              cases q with
              | true =>
                go_wp2
                go_ret
                exact ⟨⟨_, _, _, rfl⟩, S4.out⟩
              | false =>
                go_wp2_with fail
                refine (HBE.out _ _ (by omega) S4.out.1).mono ?_
                rintro e w5 ⟨y, rfl, hy, -, c5, g5⟩
                have S5 := hide (stN_call S4.out c5 g5)
                have hyl : y < es.length := by have := hy (by omega); omega
                have hyi : (y : Int) < (es.length : Int) := by omega
                have hy0 : (0 : Int) ≤ (y : Int) := by omega
                obtain ⟨bt, ot, rfl, hbt, ht0, -⟩ := HT.out _ S5.out.2 y hyl
                have hka1 : g < ka := by omega
                have HW5 := hide (row_keep (row_keep (ownsRow_below HW.out hb2.out) g4 (Nat.lt_of_lt_of_le hgw HS.out.2.size)) g5 (Nat.lt_of_lt_of_le hgw HS.out.2.size))
                have hc1 := texts_at (rowText_rows (rowText_own HW5.out)) h1
                rw [Nat.zero_add] at hc1
                have hf1 := HW5.out.frozenAt 1
                have hN1 : (1 : Int) < (ts.length : Int) := by omega
                clear c5 g5 hy
                go_wp2
                go_ret
                exact ⟨⟨_, _, _, rfl⟩, stN_below S5.out ((Below.refl _ w5).setCell (p := ⟨ka, 1, none⟩) hka _) hgw⟩
            · have h2' : decide (0 < (es.length : Int)) = false := decide_eq_false (by omega)
              go_wp2
              go_ret
              exact ⟨⟨_, _, _, rfl⟩, S2.out⟩
          · have h1' : decide (1 < (ts.length : Int)) = false := decide_eq_false (by omega)
            go_wp2
            go_ret
            exact ⟨⟨_, _, _, rfl⟩, S2.out⟩
    · have hlt' : decide ((k : Int) < 40) = false := by simp; omega
      have HRE := hide (fun W (nm : ByteArray) (h : CurAt w0 W g ao len cap) => l11Rest_any w0 W g ao len cap nm hlen hcode h)
      have HKY := hide (fun W (h : CurAt w0 W g ao len cap) => key_any w0 W g ao len cap hlen hcode h)
      go_wp2_with fail
      refine (HBE.out _ 41 (by decide) HS.out.1).mono ?_
      rintro e w1 ⟨x, rfl, hx, -, c1, g1⟩
      have S1 := hide (stN_call HS.out c1 g1)
      have hxl : x < cmdsL.length := by have := hx (by decide); omega
      have hxi : (x : Int) < 41 := hx (by decide)
      have hx0 : (0 : Int) ≤ (x : Int) := by omega
      have hcx := texts_at (HL.out _ S1.out.2) hxl
      rw [Nat.zero_add] at hcx
      obtain ⟨nm, HNM⟩ : ∃ nm, Hid (cmdsL[x] = nm) := ⟨_, hide rfl⟩
      rw [HNM.out] at hcx
      have hs1 : w.heap.size ≤ w1.heap.size := S1.out.2.size
      have SO : Hid (StO w0 w (w1.alloc (.cells #[.string nm] 9)) g ao len cap (.slice (some ⟨w1.heap.size, 0, none⟩) 1 1) [nm]) :=
        ⟨(stN_below S1.out ((Below.refl w.heap.size w1).alloc hs1 _) hgw).1, (stN_below S1.out ((Below.refl w.heap.size w1).alloc hs1 _) hgw).2, hgw, own_of [nm] (heap_alloc_new w1 _) rfl rfl hs1 (by omega)⟩
      clear c1 g1 hx
      go_wp2_with fail
      refine (HKY.out _ SO.out.1).mono ?_
      rintro e w2 ⟨z, rfl, -, c2, g2⟩
      have S2 := hide (stO_call SO.out c2 g2)
      clear c2 g2 hcx SO
      by_cases h2 : 0 < es.length
      · have h2' : decide (0 < (es.length : Int)) = true := by simp; omega
        go_wp2_with fail
        refine (HON.out _ S2.out.1).mono ?_
        rintro e w3 ⟨q, rfl, c3, g3⟩
        have S3 := hide (stO_call S2.out c3 g3)
        clear c3 g3
        cases q with
        | true =>
          have HI2 := hide (l13In_any [⟨#[80, 73, 78, 71]⟩, ⟨#[75, 69, 89, 83]⟩, ⟨#[68, 66, 83, 73, 90, 69]⟩, ⟨#[70, 76, 85, 83, 72, 65, 76, 76]⟩] nm (some ⟨w3.heap.size, 0, none⟩) 4 (w3.alloc (.cells #[.string ⟨#[80, 73, 78, 71]⟩, .string ⟨#[75, 69, 89, 83]⟩, .string ⟨#[68, 66, 83, 73, 90, 69]⟩, .string ⟨#[70, 76, 85, 83, 72, 65, 76, 76]⟩] 9)) (by decide) (textsAt_lit w3 [⟨#[80, 73, 78, 71]⟩, ⟨#[75, 69, 89, 83]⟩, ⟨#[68, 66, 83, 73, 90, 69]⟩, ⟨#[70, 76, 85, 83, 72, 65, 76, 76]⟩]))
          generalize inB [⟨#[80, 73, 78, 71]⟩, ⟨#[75, 69, 89, 83]⟩, ⟨#[68, 66, 83, 73, 90, 69]⟩, ⟨#[70, 76, 85, 83, 72, 65, 76, 76]⟩] nm = R2 at HI2
          have hsx : w.heap.size ≤ w3.heap.size := S3.out.2.1.size
          go_wp2_with fail
          refine HI2.out.mono ?_
          rintro e wy ⟨rfl, ey⟩
          have SY := hide (show StO w0 w wy g ao len cap (.slice (some ⟨w1.heap.size, 0, none⟩) 1 1) [nm] from by rw [ey]; exact stO_below S3.out ((Below.refl _ w3).alloc (Nat.le_refl _) _))
          clear ey HI2
          cases R2 with
          | true =>
            go_wp2_with fail
            refine (HRE.out _ nm SY.out.1).mono ?_
            rintro e w10 ⟨kr, cr, tr, rfl, h3, -, st3⟩
            have S10 := hide (stO_call SY.out st3.1 st3.2.1)
            have SR := hide st3
            have hs10 : w.heap.size ≤ w10.heap.size := S10.out.2.1.size
            clear st3
            rcases Bool.eq_false_or_eq_true (nm.toList == [77, 83, 69, 84]) with hm | hm
            · go_wp2_with (first | (at_builtin; refine app_rest _ w.heap.size (by rfl) _ _ (by rfl) w1.heap.size 1 _ [nm] tr (by rfl) (by rfl) S10.out.2.2.2 kr cr tr.length _ (by rfl) (by rfl) SR.out.2.2.2 (by omega) hs10 ?_; intro g11 cap11 w11 ho11 hb11; have S11 := hide (stO_row S10.out hb11 ho11); have hs11 : w.heap.size ≤ w11.heap.size := S11.out.2.1.size; clear ho11 hb11) | (at_builtin; go_loud (refine app_rest _ w.heap.size (by rfl) _ _ (by rfl) g11 cap11 _ ([nm] ++ tr) [⟨#[118]⟩] (by rfl) (by simp <;> omega) (S11.out.2.2.2.alloc _) w11.heap.size 1 1 0 (by simp [Act.eval]) (by rfl) (own_new w11 0 1 _ [⟨#[118]⟩] rfl rfl (Nat.zero_le _) (by omega)) (by omega) (by simp; omega) ?_; intro g12 cap12 w12 ho12 hb12; have S12 := hide (stO_row S11.out (((Below.refl _ w11).alloc hs11 _).trans hb12) ho12); clear ho12 hb12)))
              go_ret
              exact ⟨⟨_, _, _, rfl⟩, S12.out.1, S12.out.2.1⟩
            · go_wp2_with (at_builtin; go_loud (refine app_rest _ w.heap.size (by rfl) _ _ (by rfl) w1.heap.size 1 _ [nm] tr (by rfl) (by rfl) S10.out.2.2.2 kr cr tr.length _ (by rfl) (by rfl) SR.out.2.2.2 (by omega) hs10 ?_; intro g11 cap11 w11 ho11 hb11; have S11 := hide (stO_row S10.out hb11 ho11); clear ho11 hb11))
              go_ret
              exact ⟨⟨_, _, _, rfl⟩, S11.out.1, S11.out.2.1⟩
          | false =>
            have hsy : w.heap.size ≤ wy.heap.size := SY.out.2.1.size
            go_wp2_with (at_builtin; go_loud (refine app_rest _ w.heap.size (by rfl) _ _ (by rfl) w1.heap.size 1 1 [nm] [z] (by rfl) (by rfl) (SY.out.2.2.2.alloc _) wy.heap.size 1 1 0 (by simp [Act.eval]) (by rfl) (own_new wy 0 1 _ [z] rfl rfl (Nat.zero_le _) (by omega)) (by omega) (by simp; omega) ?_; intro g9 cap9 w9 ho9 hb9; have S9 := hide (stO_row SY.out (((Below.refl _ wy).alloc hsy _).trans hb9) ho9); clear ho9 hb9))
            go_wp2_with fail
            refine (HRE.out _ nm S9.out.1).mono ?_
            rintro e w10 ⟨kr, cr, tr, rfl, h3, -, st3⟩
            have S10 := hide (stO_call S9.out st3.1 st3.2.1)
            have SR := hide st3
            have hs10 : w.heap.size ≤ w10.heap.size := S10.out.2.1.size
            clear st3
            rcases Bool.eq_false_or_eq_true (nm.toList == [77, 83, 69, 84]) with hm | hm
            · go_wp2_with (first | (at_builtin; refine app_rest _ w.heap.size (by rfl) _ _ (by rfl) g9 cap9 _ ([nm] ++ [z]) tr (by rfl) (by rfl) S10.out.2.2.2 kr cr tr.length _ (by rfl) (by rfl) SR.out.2.2.2 (by omega) hs10 ?_; intro g11 cap11 w11 ho11 hb11; have S11 := hide (stO_row S10.out hb11 ho11); have hs11 : w.heap.size ≤ w11.heap.size := S11.out.2.1.size; clear ho11 hb11) | (at_builtin; go_loud (refine app_rest _ w.heap.size (by rfl) _ _ (by rfl) g11 cap11 _ (([nm] ++ [z]) ++ tr) [⟨#[118]⟩] (by rfl) (by simp <;> omega) (S11.out.2.2.2.alloc _) w11.heap.size 1 1 0 (by simp [Act.eval]) (by rfl) (own_new w11 0 1 _ [⟨#[118]⟩] rfl rfl (Nat.zero_le _) (by omega)) (by omega) (by simp; omega) ?_; intro g12 cap12 w12 ho12 hb12; have S12 := hide (stO_row S11.out (((Below.refl _ w11).alloc hs11 _).trans hb12) ho12); clear ho12 hb12)))
              go_ret
              exact ⟨⟨_, _, _, rfl⟩, S12.out.1, S12.out.2.1⟩
            · go_wp2_with (at_builtin; go_loud (refine app_rest _ w.heap.size (by rfl) _ _ (by rfl) g9 cap9 _ ([nm] ++ [z]) tr (by rfl) (by rfl) S10.out.2.2.2 kr cr tr.length _ (by rfl) (by rfl) SR.out.2.2.2 (by omega) hs10 ?_; intro g11 cap11 w11 ho11 hb11; have S11 := hide (stO_row S10.out hb11 ho11); clear ho11 hb11))
              go_ret
              exact ⟨⟨_, _, _, rfl⟩, S11.out.1, S11.out.2.1⟩
        | false =>
          go_wp2_with fail
          refine (HBE.out _ _ (by omega) S3.out.1).mono ?_
          rintro e w5 ⟨y, rfl, hy, -, c5, g5⟩
          have S5 := hide (stO_call S3.out c5 g5)
          have hyl : y < es.length := by have := hy (by omega); omega
          have hyi : (y : Int) < (es.length : Int) := by omega
          have hy0 : (0 : Int) ≤ (y : Int) := by omega
          obtain ⟨bt, ot, rfl, hbt, ht0, -⟩ := HT.out _ S5.out.2.1 y hyl
          generalize es[y].key = z2 at ht0
          clear c5 g5 hy
          go_upto_region 14 with fail
          have HI2 := hide (l13In_any [⟨#[80, 73, 78, 71]⟩, ⟨#[75, 69, 89, 83]⟩, ⟨#[68, 66, 83, 73, 90, 69]⟩, ⟨#[70, 76, 85, 83, 72, 65, 76, 76]⟩] nm (some ⟨w5.heap.size, 0, none⟩) 4 (w5.alloc (.cells #[.string ⟨#[80, 73, 78, 71]⟩, .string ⟨#[75, 69, 89, 83]⟩, .string ⟨#[68, 66, 83, 73, 90, 69]⟩, .string ⟨#[70, 76, 85, 83, 72, 65, 76, 76]⟩] 9)) (by decide) (textsAt_lit w5 [⟨#[80, 73, 78, 71]⟩, ⟨#[75, 69, 89, 83]⟩, ⟨#[68, 66, 83, 73, 90, 69]⟩, ⟨#[70, 76, 85, 83, 72, 65, 76, 76]⟩]))
          generalize inB [⟨#[80, 73, 78, 71]⟩, ⟨#[75, 69, 89, 83]⟩, ⟨#[68, 66, 83, 73, 90, 69]⟩, ⟨#[70, 76, 85, 83, 72, 65, 76, 76]⟩] nm = R2 at HI2
          have hsx : w.heap.size ≤ w5.heap.size := S5.out.2.1.size
          go_wp2_with fail
          refine HI2.out.mono ?_
          rintro e wy ⟨rfl, ey⟩
          have SY := hide (show StO w0 w wy g ao len cap (.slice (some ⟨w1.heap.size, 0, none⟩) 1 1) [nm] from by rw [ey]; exact stO_below S5.out ((Below.refl _ w5).alloc (Nat.le_refl _) _))
          clear ey HI2
          cases R2 with
          | true =>
            go_wp2_with fail
            refine (HRE.out _ nm SY.out.1).mono ?_
            rintro e w10 ⟨kr, cr, tr, rfl, h3, -, st3⟩
            have S10 := hide (stO_call SY.out st3.1 st3.2.1)
            have SR := hide st3
            have hs10 : w.heap.size ≤ w10.heap.size := S10.out.2.1.size
            clear st3
            rcases Bool.eq_false_or_eq_true (nm.toList == [77, 83, 69, 84]) with hm | hm
            · go_wp2_with (first | (at_builtin; refine app_rest _ w.heap.size (by rfl) _ _ (by rfl) w1.heap.size 1 _ [nm] tr (by rfl) (by rfl) S10.out.2.2.2 kr cr tr.length _ (by rfl) (by rfl) SR.out.2.2.2 (by omega) hs10 ?_; intro g11 cap11 w11 ho11 hb11; have S11 := hide (stO_row S10.out hb11 ho11); have hs11 : w.heap.size ≤ w11.heap.size := S11.out.2.1.size; clear ho11 hb11) | (at_builtin; go_loud (refine app_rest _ w.heap.size (by rfl) _ _ (by rfl) g11 cap11 _ ([nm] ++ tr) [⟨#[118]⟩] (by rfl) (by simp <;> omega) (S11.out.2.2.2.alloc _) w11.heap.size 1 1 0 (by simp [Act.eval]) (by rfl) (own_new w11 0 1 _ [⟨#[118]⟩] rfl rfl (Nat.zero_le _) (by omega)) (by omega) (by simp; omega) ?_; intro g12 cap12 w12 ho12 hb12; have S12 := hide (stO_row S11.out (((Below.refl _ w11).alloc hs11 _).trans hb12) ho12); clear ho12 hb12)))
              go_ret
              exact ⟨⟨_, _, _, rfl⟩, S12.out.1, S12.out.2.1⟩
            · go_wp2_with (at_builtin; go_loud (refine app_rest _ w.heap.size (by rfl) _ _ (by rfl) w1.heap.size 1 _ [nm] tr (by rfl) (by rfl) S10.out.2.2.2 kr cr tr.length _ (by rfl) (by rfl) SR.out.2.2.2 (by omega) hs10 ?_; intro g11 cap11 w11 ho11 hb11; have S11 := hide (stO_row S10.out hb11 ho11); clear ho11 hb11))
              go_ret
              exact ⟨⟨_, _, _, rfl⟩, S11.out.1, S11.out.2.1⟩
          | false =>
            have hsy : w.heap.size ≤ wy.heap.size := SY.out.2.1.size
            go_wp2_with (at_builtin; go_loud (refine app_rest _ w.heap.size (by rfl) _ _ (by rfl) w1.heap.size 1 1 [nm] [z2] (by rfl) (by rfl) (SY.out.2.2.2.alloc _) wy.heap.size 1 1 0 (by simp [Act.eval]) (by rfl) (own_new wy 0 1 _ [z2] rfl rfl (Nat.zero_le _) (by omega)) (by omega) (by simp; omega) ?_; intro g9 cap9 w9 ho9 hb9; have S9 := hide (stO_row SY.out (((Below.refl _ wy).alloc hsy _).trans hb9) ho9); clear ho9 hb9))
            go_wp2_with fail
            refine (HRE.out _ nm S9.out.1).mono ?_
            rintro e w10 ⟨kr, cr, tr, rfl, h3, -, st3⟩
            have S10 := hide (stO_call S9.out st3.1 st3.2.1)
            have SR := hide st3
            have hs10 : w.heap.size ≤ w10.heap.size := S10.out.2.1.size
            clear st3
            rcases Bool.eq_false_or_eq_true (nm.toList == [77, 83, 69, 84]) with hm | hm
            · go_wp2_with (first | (at_builtin; refine app_rest _ w.heap.size (by rfl) _ _ (by rfl) g9 cap9 _ ([nm] ++ [z2]) tr (by rfl) (by rfl) S10.out.2.2.2 kr cr tr.length _ (by rfl) (by rfl) SR.out.2.2.2 (by omega) hs10 ?_; intro g11 cap11 w11 ho11 hb11; have S11 := hide (stO_row S10.out hb11 ho11); have hs11 : w.heap.size ≤ w11.heap.size := S11.out.2.1.size; clear ho11 hb11) | (at_builtin; go_loud (refine app_rest _ w.heap.size (by rfl) _ _ (by rfl) g11 cap11 _ (([nm] ++ [z2]) ++ tr) [⟨#[118]⟩] (by rfl) (by simp <;> omega) (S11.out.2.2.2.alloc _) w11.heap.size 1 1 0 (by simp [Act.eval]) (by rfl) (own_new w11 0 1 _ [⟨#[118]⟩] rfl rfl (Nat.zero_le _) (by omega)) (by omega) (by simp; omega) ?_; intro g12 cap12 w12 ho12 hb12; have S12 := hide (stO_row S11.out (((Below.refl _ w11).alloc hs11 _).trans hb12) ho12); clear ho12 hb12)))
              go_ret
              exact ⟨⟨_, _, _, rfl⟩, S12.out.1, S12.out.2.1⟩
            · go_wp2_with (at_builtin; go_loud (refine app_rest _ w.heap.size (by rfl) _ _ (by rfl) g9 cap9 _ ([nm] ++ [z2]) tr (by rfl) (by rfl) S10.out.2.2.2 kr cr tr.length _ (by rfl) (by rfl) SR.out.2.2.2 (by omega) hs10 ?_; intro g11 cap11 w11 ho11 hb11; have S11 := hide (stO_row S10.out hb11 ho11); clear ho11 hb11))
              go_ret
              exact ⟨⟨_, _, _, rfl⟩, S11.out.1, S11.out.2.1⟩
      · have h2' : decide (0 < (es.length : Int)) = false := decide_eq_false (by omega)
        have HI2 := hide (l13In_any [⟨#[80, 73, 78, 71]⟩, ⟨#[75, 69, 89, 83]⟩, ⟨#[68, 66, 83, 73, 90, 69]⟩, ⟨#[70, 76, 85, 83, 72, 65, 76, 76]⟩] nm (some ⟨w2.heap.size, 0, none⟩) 4 (w2.alloc (.cells #[.string ⟨#[80, 73, 78, 71]⟩, .string ⟨#[75, 69, 89, 83]⟩, .string ⟨#[68, 66, 83, 73, 90, 69]⟩, .string ⟨#[70, 76, 85, 83, 72, 65, 76, 76]⟩] 9)) (by decide) (textsAt_lit w2 [⟨#[80, 73, 78, 71]⟩, ⟨#[75, 69, 89, 83]⟩, ⟨#[68, 66, 83, 73, 90, 69]⟩, ⟨#[70, 76, 85, 83, 72, 65, 76, 76]⟩]))
        generalize inB [⟨#[80, 73, 78, 71]⟩, ⟨#[75, 69, 89, 83]⟩, ⟨#[68, 66, 83, 73, 90, 69]⟩, ⟨#[70, 76, 85, 83, 72, 65, 76, 76]⟩] nm = R2 at HI2
        have hsx : w.heap.size ≤ w2.heap.size := S2.out.2.1.size
        go_wp2_with fail
        refine HI2.out.mono ?_
        rintro e wy ⟨rfl, ey⟩
        have SY := hide (show StO w0 w wy g ao len cap (.slice (some ⟨w1.heap.size, 0, none⟩) 1 1) [nm] from by rw [ey]; exact stO_below S2.out ((Below.refl _ w2).alloc (Nat.le_refl _) _))
        clear ey HI2
        cases R2 with
        | true =>
          go_wp2_with fail
          refine (HRE.out _ nm SY.out.1).mono ?_
          rintro e w10 ⟨kr, cr, tr, rfl, h3, -, st3⟩
          have S10 := hide (stO_call SY.out st3.1 st3.2.1)
          have SR := hide st3
          have hs10 : w.heap.size ≤ w10.heap.size := S10.out.2.1.size
          clear st3
          rcases Bool.eq_false_or_eq_true (nm.toList == [77, 83, 69, 84]) with hm | hm
          · go_wp2_with (first | (at_builtin; refine app_rest _ w.heap.size (by rfl) _ _ (by rfl) w1.heap.size 1 _ [nm] tr (by rfl) (by rfl) S10.out.2.2.2 kr cr tr.length _ (by rfl) (by rfl) SR.out.2.2.2 (by omega) hs10 ?_; intro g11 cap11 w11 ho11 hb11; have S11 := hide (stO_row S10.out hb11 ho11); have hs11 : w.heap.size ≤ w11.heap.size := S11.out.2.1.size; clear ho11 hb11) | (at_builtin; go_loud (refine app_rest _ w.heap.size (by rfl) _ _ (by rfl) g11 cap11 _ ([nm] ++ tr) [⟨#[118]⟩] (by rfl) (by simp <;> omega) (S11.out.2.2.2.alloc _) w11.heap.size 1 1 0 (by simp [Act.eval]) (by rfl) (own_new w11 0 1 _ [⟨#[118]⟩] rfl rfl (Nat.zero_le _) (by omega)) (by omega) (by simp; omega) ?_; intro g12 cap12 w12 ho12 hb12; have S12 := hide (stO_row S11.out (((Below.refl _ w11).alloc hs11 _).trans hb12) ho12); clear ho12 hb12)))
            go_ret
            exact ⟨⟨_, _, _, rfl⟩, S12.out.1, S12.out.2.1⟩
          · go_wp2_with (at_builtin; go_loud (refine app_rest _ w.heap.size (by rfl) _ _ (by rfl) w1.heap.size 1 _ [nm] tr (by rfl) (by rfl) S10.out.2.2.2 kr cr tr.length _ (by rfl) (by rfl) SR.out.2.2.2 (by omega) hs10 ?_; intro g11 cap11 w11 ho11 hb11; have S11 := hide (stO_row S10.out hb11 ho11); clear ho11 hb11))
            go_ret
            exact ⟨⟨_, _, _, rfl⟩, S11.out.1, S11.out.2.1⟩
        | false =>
          have hsy : w.heap.size ≤ wy.heap.size := SY.out.2.1.size
          go_wp2_with (at_builtin; go_loud (refine app_rest _ w.heap.size (by rfl) _ _ (by rfl) w1.heap.size 1 1 [nm] [z] (by rfl) (by rfl) (SY.out.2.2.2.alloc _) wy.heap.size 1 1 0 (by simp [Act.eval]) (by rfl) (own_new wy 0 1 _ [z] rfl rfl (Nat.zero_le _) (by omega)) (by omega) (by simp; omega) ?_; intro g9 cap9 w9 ho9 hb9; have S9 := hide (stO_row SY.out (((Below.refl _ wy).alloc hsy _).trans hb9) ho9); clear ho9 hb9))
          go_wp2_with fail
          refine (HRE.out _ nm S9.out.1).mono ?_
          rintro e w10 ⟨kr, cr, tr, rfl, h3, -, st3⟩
          have S10 := hide (stO_call S9.out st3.1 st3.2.1)
          have SR := hide st3
          have hs10 : w.heap.size ≤ w10.heap.size := S10.out.2.1.size
          clear st3
          rcases Bool.eq_false_or_eq_true (nm.toList == [77, 83, 69, 84]) with hm | hm
          · go_wp2_with (first | (at_builtin; refine app_rest _ w.heap.size (by rfl) _ _ (by rfl) g9 cap9 _ ([nm] ++ [z]) tr (by rfl) (by rfl) S10.out.2.2.2 kr cr tr.length _ (by rfl) (by rfl) SR.out.2.2.2 (by omega) hs10 ?_; intro g11 cap11 w11 ho11 hb11; have S11 := hide (stO_row S10.out hb11 ho11); have hs11 : w.heap.size ≤ w11.heap.size := S11.out.2.1.size; clear ho11 hb11) | (at_builtin; go_loud (refine app_rest _ w.heap.size (by rfl) _ _ (by rfl) g11 cap11 _ (([nm] ++ [z]) ++ tr) [⟨#[118]⟩] (by rfl) (by simp <;> omega) (S11.out.2.2.2.alloc _) w11.heap.size 1 1 0 (by simp [Act.eval]) (by rfl) (own_new w11 0 1 _ [⟨#[118]⟩] rfl rfl (Nat.zero_le _) (by omega)) (by omega) (by simp; omega) ?_; intro g12 cap12 w12 ho12 hb12; have S12 := hide (stO_row S11.out (((Below.refl _ w11).alloc hs11 _).trans hb12) ho12); clear ho12 hb12)))
            go_ret
            exact ⟨⟨_, _, _, rfl⟩, S12.out.1, S12.out.2.1⟩
          · go_wp2_with (at_builtin; go_loud (refine app_rest _ w.heap.size (by rfl) _ _ (by rfl) g9 cap9 _ ([nm] ++ [z]) tr (by rfl) (by rfl) S10.out.2.2.2 kr cr tr.length _ (by rfl) (by rfl) SR.out.2.2.2 (by omega) hs10 ?_; intro g11 cap11 w11 ho11 hb11; have S11 := hide (stO_row S10.out hb11 ho11); clear ho11 hb11))
            go_ret
            exact ⟨⟨_, _, _, rfl⟩, S11.out.1, S11.out.2.1⟩
theorem cellsEnt_len : ∀ (T : List EntD) (vs : List Value), vs.length = T.length → (cellsEnt T vs).length = T.length * 5
  | [], [], _ => rfl
  | [], _ :: _, h => absurd h (by simp)
  | _ :: _, [], h => absurd h (by simp)
  | a :: r, y :: s, h => by
    simp only [cellsEnt, List.length_cons]
    rw [cellsEnt_len r s (by simpa using h)]
    omega
theorem cellsEnt_drop : ∀ (T : List EntD) (vs : List Value) (j : Nat), vs.length = T.length → cellsEnt (T.drop j) (vs.drop j) = (cellsEnt T vs).drop (j * 5)
  | T, vs, 0, _ => by simp
  | [], [], j + 1, _ => by simp [cellsEnt]
  | [], _ :: _, _ + 1, h => absurd h (by simp)
  | _ :: _, [], _ + 1, h => absurd h (by simp)
  | a :: r, y :: s, j + 1, h => by
    rw [List.drop_succ_cons, List.drop_succ_cons, cellsEnt_drop r s j (by simpa using h), show (j + 1) * 5 = j * 5 + 5 by omega]
    simp only [cellsEnt]
    rw [Nat.add_comm (j * 5) 5, ← List.drop_drop]
    rfl
theorem cellsEnt_two : ∀ (a b : List EntD) (s t : List Value), s.length = a.length → cellsEnt (a ++ b) (s ++ t) = cellsEnt a s ++ cellsEnt b t
  | [], b, [], t, _ => rfl
  | [], _, _ :: _, _, h => absurd h (by simp)
  | _ :: _, _, [], _, h => absurd h (by simp)
  | A :: r, b, y :: s, t, h => by simp only [List.cons_append, cellsEnt]; rw [cellsEnt_two r b s t (by simpa using h)]
theorem cellsEnt_take (T : List EntD) (vs : List Value) (i : Nat) (h : vs.length = T.length) (hi : i ≤ T.length) : cellsEnt (T.take i) (vs.take i) = (cellsEnt T vs).take (i * 5) := by
  have e := cellsEnt_two (T.take i) (T.drop i) (vs.take i) (vs.drop i) (by simp [h])
  rw [List.take_append_drop, List.take_append_drop] at e
  have hl : (cellsEnt (T.take i) (vs.take i)).length = i * 5 := by
    rw [cellsEnt_len _ _ (by simp [h]), List.length_take, Nat.min_eq_left hi]
  rw [e, List.take_append_of_le_length (by omega)]
  exact (List.take_of_length_le (by omega)).symm
theorem cellsEnt_mix (T : List EntD) (vs : List Value) (F : EntD) (x : Value) (i j : Nat) (h : vs.length = T.length) (hi : i ≤ T.length) :
    cellsEnt (T.take i ++ F :: T.drop j) (vs.take i ++ x :: vs.drop j) = (cellsEnt T vs).take (i * 5) ++ (cells1E F x ++ (cellsEnt T vs).drop (j * 5)) := by
  rw [cellsEnt_two _ _ _ _ (by simp [h]), cellsEnt_take T vs i h hi]
  congr 1
  rw [← cellsEnt_drop T vs j h]
  rfl
theorem mix_get {α : Type} {L : List α} {i j k : Nat} {x y : α} (h : (L.take i ++ x :: L.drop j)[k]? = some y) (hi : i ≤ L.length) : (k = i ∧ y = x) ∨ (k < i ∧ L[k]? = some y) ∨ (i < k ∧ L[k - i - 1 + j]? = some y) := by
  rcases Nat.lt_trichotomy k i with hk | hk | hk
  · rw [List.getElem?_append_left (by simp; omega), List.getElem?_take, if_pos hk] at h
    exact .inr (.inl ⟨hk, h⟩)
  · subst hk
    rw [List.getElem?_append_right (by simp; omega), List.length_take, Nat.min_eq_left hi, Nat.sub_self] at h
    exact .inl ⟨rfl, (Option.some.inj h).symm⟩
  · rw [List.getElem?_append_right (by simp; omega), List.length_take, Nat.min_eq_left hi] at h
    obtain ⟨m, hm⟩ : ∃ m, k - i = m + 1 := ⟨k - i - 1, by omega⟩
    rw [hm, List.getElem?_cons_succ, List.getElem?_drop] at h
    exact .inr (.inr ⟨hk, by rw [← h]; congr 1; omega⟩)
theorem buildE_mix {W w' : World} {B g cap : Nat} {cur : Array Value} {T : List EntD} {F : EntD} {x : Value} {vs : List Value} {i j : Nat} (hij : i ≤ j) (hj : j ≤ T.length)
    (h1 : vs.length = T.length) (h3 : ∀ (j : Nat) (x : Value) (b : EntD), vs[j]? = some x → T[j]? = some b → RowText W B x b.val.items)
    (h4 : ∀ (i j : Nat) (x y : Value) (h : Nat), i ≠ j → vs[i]? = some x → vs[j]? = some y → x.ownBlock = some h → y.ownBlock ≠ some h)
    (hx : RowText W B x F.val.items) (hnew : ∀ h, x.ownBlock = some h → ∀ y ∈ vs, y.ownBlock ≠ some h)
    (hk : ∀ (b : Nat) (C : Array Value), W.heap[b]? = some (Obj.cells C 9 (0, 0)) → w'.heap[b]? = W.heap[b]?)
    (hg : w'.heap[g]? = some (.cells cur 40 (0, 0))) (hB : B ≤ g) {n : Nat} (hn : n = T.length - j + i + 1) (hnc : n ≤ cap) (hc : cap ≤ maxLen) (hs : cur.size = cap * 5)
    (ht : cur.toList.take (n * 5) = (cellsEnt T vs).take (i * 5) ++ (cells1E F x ++ (cellsEnt T vs).drop (j * 5))) : BuildE w' B (.slice (some ⟨g, 0, none⟩) n cap) (T.take i ++ F :: T.drop j) := by
  have hl : (T.take i ++ F :: T.drop j).length = n := by simp; omega
  have keep : ∀ {y : Value} {ts : List ByteArray}, RowText W B y ts → RowText w' B y ts := fun hy => rowText_keep hy (fun b hb => by
    obtain ⟨C, hC⟩ := text_block hy hb
    exact hk b C hC)
  refine ⟨vs.take i ++ x :: vs.drop j, by simp [h1], ⟨?_, .inr ⟨g, cap, cur, by rw [hl], hB, hg, by omega, hc, hs, ?_⟩⟩, ?_, ?_⟩
  · rw [cellsEnt_mix T vs F x i j h1 (by omega), ← ht, List.length_take]
    simp only [Array.length_toList]
    rw [hl]
    have : n * 5 ≤ cap * 5 := Nat.mul_le_mul_right 5 hnc
    omega
  · rw [hl, ht, cellsEnt_mix T vs F x i j h1 (by omega)]
  · intro k y b hy hb
    rcases mix_get hy (by omega) with ⟨e, rfl⟩ | ⟨e, hy⟩ | ⟨e, hy⟩
    · rcases mix_get hb (by omega) with ⟨-, rfl⟩ | ⟨e2, -⟩ | ⟨e2, -⟩
      · exact keep hx
      · omega
      · omega
    · rcases mix_get hb (by omega) with ⟨e2, -⟩ | ⟨-, hb⟩ | ⟨e2, -⟩
      · omega
      · exact keep (h3 _ _ _ hy hb)
      · omega
    · rcases mix_get hb (by omega) with ⟨e2, -⟩ | ⟨e2, -⟩ | ⟨-, hb⟩
      · omega
      · omega
      · exact keep (h3 _ _ _ hy hb)
  · intro k m y z h hkm hy hz hh
    rcases mix_get hy (by omega) with ⟨e, ey⟩ | ⟨e, hy2⟩ | ⟨e, hy2⟩
    · rw [ey] at hh
      rcases mix_get hz (by omega) with ⟨e2, -⟩ | ⟨-, hz2⟩ | ⟨-, hz2⟩
      · omega
      · exact hnew h hh z (List.mem_of_getElem? hz2)
      · exact hnew h hh z (List.mem_of_getElem? hz2)
    · rcases mix_get hz (by omega) with ⟨e2, ez⟩ | ⟨e2, hz2⟩ | ⟨e2, hz2⟩
      · rw [ez]
        exact fun h5 => hnew h h5 y (List.mem_of_getElem? hy2) hh
      · exact h4 _ _ _ _ h hkm hy2 hz2 hh
      · exact h4 _ _ _ _ h (by omega) hy2 hz2 hh
    · rcases mix_get hz (by omega) with ⟨e2, ez⟩ | ⟨e2, hz2⟩ | ⟨e2, hz2⟩
      · rw [ez]
        exact fun h5 => hnew h h5 y (List.mem_of_getElem? hy2) hh
      · exact h4 _ _ _ _ h (by omega) hy2 hz2 hh
      · exact h4 _ _ _ _ h (by omega) hy2 hz2 hh
end Go.Proofs.YtifjneldjjmeaaaGreatDoor
