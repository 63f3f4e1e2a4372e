import Derived.LaidEql
import Derived.Test.YtifjneldjjmeaaaGreatDoorTx14
import Derived.Test.YtifjneldjjmeaaaGreatDoorTx13
set_option maxRecDepth 100000
set_option maxHeartbeats 4000000
namespace Go.Proofs.YtifjneldjjmeaaaGreatDoor
open Go.RowKit
theorem Tryz.guardNm : Tryz.prog.eqGuardType Tryz.prog.depth 125 = false := by kernel_rfl
theorem Tryz.cmdRes : (Tryz.f105).results = #[.cell 2 129, .tmp 3] := rfl
def cmdR (ts : List ByteArray) : Array Value := match ts with | [] => zeroC | x :: _ => if inB cmdsL (upT x) then cmdC (upT x) (kindS (upT x)) (effS (upT x)) else zeroC
theorem zeroC_one : zeroC.all (·.oneCell') = true := by
  rw [Array.all_eq_true_iff_forall_mem]
  intro v hv
  simp [zeroC] at hv
  rcases hv with rfl | rfl <;> rfl
theorem cmd_results (tmps : Array Value) (w : World) (g : Nat) (cs : Array Value) (v : Value) (hp : tmps.getD 2 undef = .pointer (some ⟨g, 0, none⟩)) (hg : w.heap[g]? = some (.cells cs 129 (0, 0))) (hcs : cs.size = 11) (hv : tmps.getD 3 undef = v) :
    (results Tryz.f105 tmps).run Tryz.prog w = .ok (.tuple #[.agg cs, v]) w := by
  rw [results_cell_tmp Tryz.cmdRes, hp, hv]
  have := run_loadVar_row (P := Tryz.prog) w g 129 129 cs (0, 0) _ hg Tryz.underlying129 rfl (Tryz.infoCmd.trans (by rw [hcs]))
  simp [asAddr, this]
def RBox (w W : World) (cs : Array Value) : Prop := W.heap[w.heap.size]? = some (.cells cs 129 (0, 0)) ∧ Below w.heap.size w W
theorem rbox_new (w : World) : RBox w (w.alloc (.cells zeroC 129)) zeroC := ⟨heap_alloc_new w _, (Below.refl _ _).alloc (Nat.le_refl _) _⟩
theorem rbox_on {w W W' : World} {cs : Array Value} (h : RBox w W cs) (b : Below W.heap.size W W') : RBox w W' cs :=
  ⟨(b.block _ (Array.getElem?_eq_some_iff.1 h.1).1).trans h.1, h.2.trans (b.mono h.2.size)⟩
theorem rbox_put {w W : World} {cs : Array Value} (h : RBox w W cs) (cs2 : Array Value) : RBox w (W.setRow w.heap.size cs2) cs2 :=
  ⟨setRow_new _ _ _ _ _ h.1, below_setRow h.2 (Nat.le_refl _) _⟩
theorem not_in {X : ByteArray} (h : ∀ j, j < 41 → cmdsL[j]? ≠ some X) : inB cmdsL X = false := by
  cases hb : inB cmdsL X with
  | false => rfl
  | true =>
    obtain ⟨j, hj, e⟩ := List.mem_iff_getElem.1 ((inB_iff _ _).1 hb)
    exact absurd ((List.getElem?_eq_getElem hj).trans (congrArg some e)) (h j hj)
theorem not_told {X : ByteArray} (h : nmT X ≠ X) : inB cmdsL X = false := by
  cases hb : inB cmdsL X with
  | false => rfl
  | true => exact absurd (cmds_told X ((inB_iff _ _).1 hb)) h
theorem pair_of {k : Nat} {s : ByteArray} {a b : Int} (h1 : cmdsL[k]? = some s) (h2 : cmdsK[k]? = some (a, b)) : (s, (a, b)) ∈ cmdsL.zip cmdsK := by
  refine List.mem_of_getElem? (i := k) ?_
  rw [List.getElem?_zip_eq_some]
  exact ⟨h1, h2⟩
def PBox (w W : World) (n : Nat) (X : ByteArray) : Prop := RBox w W zeroC ∧ W.heap[n]? = some (.cells (nmC X) 125 (0, 0)) ∧ w.heap.size ≤ n
theorem pbox_on {w W W' : World} {n : Nat} {X : ByteArray} (h : PBox w W n X) (b : Below W.heap.size W W') : PBox w W' n X :=
  ⟨rbox_on h.1 b, (b.block _ (Array.getElem?_eq_some_iff.1 h.2.1).1).trans h.2.1, h.2.2⟩
def zero9 : Array Value := #[.int .u8 0, .int .u8 0, .int .u8 0, .int .u8 0, .int .u8 0, .int .u8 0, .int .u8 0, .int .u8 0, .int .u8 0]
theorem pbox_new {w W : World} (X : ByteArray) (h : RBox w W zeroC) : PBox w ((W.alloc (.cells zero9 125)).setRow W.heap.size (nmC X)) W.heap.size X := by
  have hb : Below W.heap.size W ((W.alloc (.cells zero9 125)).setRow W.heap.size (nmC X)) := below_setRow ((Below.refl _ _).alloc (Nat.le_refl _) _) (Nat.le_refl _) _
  exact ⟨rbox_on h hb, setRow_new _ _ _ _ _ (heap_alloc_new W _), h.2.size⟩
theorem commandOf_nil (cap : Nat) (ao : Option Addr) (w : World) : Calls Tryz.prog 105 #[.slice ao 0 cap] w fun e w' => e = .returned (.tuple #[.agg zeroC, .bool false]) ∧ Below w.heap.size w w' := by
  have RB := hide (rbox_new w)
  go_enter Tryz.func105, Tryz.ntmps105
  go_wp2_with (refine wpList_store_row rfl 129 _ _ rfl w.heap.size zeroC rfl rfl 129 _ RB.out.1 Tryz.infoCmd rfl zeroC_one ?_)
  exact bodyPost_ret (v := .tuple #[.agg zeroC, .bool false]) (cmd_results _ _ w.heap.size zeroC _ rfl (rbox_put RB.out zeroC).1 rfl rfl) rfl ⟨rfl, (rbox_put RB.out zeroC).2⟩
theorem commandOf_cons (x : ByteArray) (r : List ByteArray) (ao : Option Addr) (cap : Nat) (w : World) (hl : r.length ≤ 1048575) (hts : TextsAt w ao (x :: r)) (hz : x.size ≤ 1048576) :
    Calls Tryz.prog 105 #[.slice ao (r.length + 1) cap] w fun e w' => e = .returned (.tuple #[.agg (cmdR (x :: r)), .bool (knownS (x :: r))]) ∧ Below w.heap.size w w' := by
  obtain ⟨b, off, rfl, hb, hcell⟩ := hts 0 (by simp)
  rw [Nat.add_zero] at hcell
  have hcell : w.cell? ⟨b, off, none⟩ = some (.string x) := hcell
  have HC := hide hcell
  have KS : Hid (∀ W, Below w.heap.size w W → W.cell? ⟨b, off, none⟩ = some (.string x)) := fun W hW => (hW.cell (p := ⟨b, off, none⟩) hb).trans HC.out
  have SU := hide (fun W => implUpper_any x W hz)
  have h0 : (((r.length : Nat) : Int) + 1 == 0) = false := by rw [beq_eq_false_iff_ne]; omega
  obtain ⟨X, HX⟩ : ∃ X, Hid (upT x = X) := ⟨_, rfl⟩
  have e0 : (⟨(x.data.toList.map upB).toArray⟩ : ByteArray) = X := HX.out
  rw [e0] at SU
  have HR : Hid (cmdR (x :: r) = if inB cmdsL X then cmdC X (kindS X) (effS X) else zeroC) := by
    show (if inB cmdsL (upT x) then cmdC (upT x) (kindS (upT x)) (effS (upT x)) else zeroC) = _
    rw [HX.out]
  have HK : Hid (knownS (x :: r) = inB cmdsL X) := by
    show inB cmdsL (upT x) = _
    rw [HX.out]
  generalize cmdR (x :: r) = R at HR ⊢
  generalize knownS (x :: r) = K at HK ⊢
  have RB := hide (rbox_new w)
  have hc1 := fun o => KS.out _ ((Below.refl _ _).alloc (Nat.le_refl _) o)
  clear hts e0
  go_enter Tryz.func105, Tryz.ntmps105
  go_wp2_with fail
  refine (SU.out _).mono ?_
  rintro e w1 ⟨rfl, b1⟩
  have RB1 := hide (rbox_on RB.out b1)
  clear b1 RB SU
  go_wp2_with fail
  refine (nmOf_any X _).mono ?_
  rintro e w2 ⟨rfl, b2⟩
  have RB2 := hide (rbox_on RB1.out b2)
  have PB := hide (pbox_new X RB2.out)
  clear b2 RB1
  go_wp2_with (first | refine wpList_store_row rfl 125 _ _ rfl w2.heap.size (nmC X) rfl rfl 125 _ (heap_alloc_new w2 (.cells zero9 125)) (Tryz.infoNm.trans (by rw [nmC_size])) (by rw [nmC_size]; rfl) (nmC_one X) ?_ | refine wpList_load_row rfl 125 _ rfl w2.heap.size rfl 125 _ (0, 0) _ PB.out.2.1 Tryz.underlying125 rfl (Tryz.infoNm.trans (by rw [nmC_size])) ?_)
  refine (nmText_any X _).mono ?_
  rintro e w3 ⟨rfl, b3⟩
  have P3 := hide (pbox_on PB.out b3)
  clear b3 PB RB2
  by_cases hT : nmT X = X
  · have hTn : (!((nmT X).toList == X.toList)) = false := by rw [txt_eq hT]; rfl
    have hTn2 := txt_eq hT
    have HT := hide hT
    clear hT
    go_wp2_with fail
    refine (allCmds_any _).mono ?_
    rintro e w4 ⟨rfl, b4⟩
    have P4 := hide (pbox_on P3.out b4)
    clear b4 P3
    go_wp2_with fail
    go_loopw [24] (fun ii wr => ∃ k : Nat, ii = .int .i64 (k : Int) ∧ k ≤ 41 ∧ Hid (∀ j, j < k → cmdsL[j]? ≠ some X) ∧ Hid (PBox w wr w2.heap.size X)) (fun ii _ => 41 - (intOf ii).toNat)
    case atStart => exact ⟨0, rfl, by omega, fun j hj => by omega, P4.out⟩
    case round =>
      obtain ⟨k, rfl, hk, HN, HP⟩ := hrel
      by_cases hlt : k < 41
      · have hlt' : decide ((k : Int) < 41) = true := by simp; omega
        obtain ⟨s, a, b', hs, hp, he⟩ := allV_get k hlt
        have hidx := all_index k hlt s a b' he
        have HBX := hide (cbox_new wr s a b')
        have hbw : Below wr.heap.size wr ((wr.alloc (.cells zeroC 129)).setRow wr.heap.size (cmdC s a b')) := cbox_below (Below.refl _ _) (Nat.le_refl _) s a b'
        have HP2 := hide (pbox_on HP.out hbw)
        have heq := fun W => eql_names s X W
        have hguard := Tryz.guardNm
        rw [names_same (cmd_name hs) HT.out] at heq
        by_cases hsX : s = X
        · rw [decide_eq_true hsX] at heq
          have HRR : Hid (R = cmdC s a b' ∧ K = true) := by
            have h1 := kinds_alike _ (pair_of hs hp)
            have h2 := effs_alike _ (pair_of hs hp)
            have h3 : inB cmdsL X = true := (inB_iff _ _).2 (hsX ▸ cmd_name hs)
            refine ⟨?_, ?_⟩
            · rw [HR.out, h3, if_pos rfl, ← hsX, show kindS s = a from h1, show effS s = b' from h2]
            · rw [HK.out, h3]
          clear hs hp he hsX hbw
          go_wp2_with (first | refine wpList_store_row rfl 129 _ _ rfl wr.heap.size _ rfl rfl 129 _ (heap_alloc_new wr (.cells zeroC 129)) (Tryz.infoCmd.trans (by rw [cmdC_size])) (by rw [cmdC_size]; rfl) (cmdC_one s a b') ?_ | refine wpList_load_part rfl 125 _ rfl wr.heap.size rfl 129 (nmC s) _ (0, 0) _ HBX.out Tryz.underlying125 rfl (Tryz.infoNm.trans (by rw [nmC_size])) ?_ | refine wpList_load_row rfl 125 _ rfl w2.heap.size rfl 125 _ (0, 0) _ HP2.out.2.1 Tryz.underlying125 rfl (Tryz.infoNm.trans (by rw [nmC_size])) ?_ | refine wpList_load_row rfl 129 _ rfl wr.heap.size rfl 129 (cmdC s a b') (0, 0) _ HBX.out Tryz.underlying129 rfl (Tryz.infoCmd.trans (by rw [cmdC_size])) ?_ | refine wpList_store_row rfl 129 _ _ rfl w.heap.size _ rfl rfl 129 _ HP2.out.1.1 (Tryz.infoCmd.trans (by rw [cmdC_size])) (by rw [cmdC_size]; rfl) (cmdC_one s a b') ?_)
          rw [HRR.out.1, HRR.out.2]
          exact bodyPost_ret (v := .tuple #[.agg (cmdC s a b'), .bool true]) (cmd_results _ _ w.heap.size (cmdC s a b') _ rfl (rbox_put HP2.out.1 _).1 (cmdC_size _ _ _) rfl) rfl ⟨rfl, (rbox_put HP2.out.1 _).2⟩
        · rw [decide_eq_false hsX] at heq
          have HN2 : Hid (∀ j, j < k + 1 → cmdsL[j]? ≠ some X) := by
            intro j hj
            by_cases hjk : j = k
            · subst hjk
              rw [hs]
              intro e
              exact hsX (Option.some.inj e)
            · exact HN.out j (by omega)
          clear hs hp he hsX hbw
          go_wp2_with (first | refine wpList_store_row rfl 129 _ _ rfl wr.heap.size _ rfl rfl 129 _ (heap_alloc_new wr (.cells zeroC 129)) (Tryz.infoCmd.trans (by rw [cmdC_size])) (by rw [cmdC_size]; rfl) (cmdC_one s a b') ?_ | refine wpList_load_part rfl 125 _ rfl wr.heap.size rfl 129 (nmC s) _ (0, 0) _ HBX.out Tryz.underlying125 rfl (Tryz.infoNm.trans (by rw [nmC_size])) ?_ | refine wpList_load_row rfl 125 _ rfl w2.heap.size rfl 125 _ (0, 0) _ HP2.out.2.1 Tryz.underlying125 rfl (Tryz.infoNm.trans (by rw [nmC_size])) ?_)
          go_roundw
          case rel => exact ⟨k + 1, by go_num, by omega, HN2, HP2⟩
          case measure => simp [intOf]; omega
      · have hlt' : decide ((k : Int) < 41) = false := by simp; omega
        have HRR : Hid (R = zeroC ∧ K = false) := by
          have h3 := not_in (X := X) (fun j hj => HN.out j (by omega))
          refine ⟨?_, ?_⟩
          · rw [HR.out, h3]
            rfl
          · rw [HK.out, h3]
        go_wp2_with (refine wpList_store_row rfl 129 _ _ rfl w.heap.size zeroC rfl rfl 129 _ HP.out.1.1 Tryz.infoCmd rfl zeroC_one ?_)
        rw [HRR.out.1, HRR.out.2]
        exact bodyPost_ret (v := .tuple #[.agg zeroC, .bool false]) (cmd_results _ _ w.heap.size zeroC _ rfl (rbox_put HP.out.1 zeroC).1 rfl rfl) rfl ⟨rfl, (rbox_put HP.out.1 zeroC).2⟩
  · have hTn : (!((nmT X).toList == X.toList)) = true := by rw [txt_ne hT]; rfl
    have hTn2 := txt_ne hT
    have HRR : Hid (R = zeroC ∧ K = false) := by
      have h3 := not_told hT
      refine ⟨?_, ?_⟩
      · rw [HR.out, h3]
        rfl
      · rw [HK.out, h3]
    clear hT
    go_wp2_with (refine wpList_store_row rfl 129 _ _ rfl w.heap.size zeroC rfl rfl 129 _ P3.out.1.1 Tryz.infoCmd rfl zeroC_one ?_)
    rw [HRR.out.1, HRR.out.2]
    exact bodyPost_ret (v := .tuple #[.agg zeroC, .bool false]) (cmd_results _ _ w.heap.size zeroC _ rfl (rbox_put P3.out.1 zeroC).1 rfl rfl) rfl ⟨rfl, (rbox_put P3.out.1 zeroC).2⟩
theorem kindS_range (x : ByteArray) : 0 ≤ kindS x ∧ kindS x ≤ 6 := by
  unfold kindS
  repeat' split
  all_goals omega
def CmdPost (ts : List ByteArray) (w : World) (e : Ending) (w' : World) : Prop :=
  ((knownS ts = false ∧ okS ts = false ∧ writesS ts = false ∧ e = .returned (.tuple #[.agg zeroC, .bool false])) ∨
    (knownS ts = true ∧ 0 < ts.length ∧ ∃ X k ef, e = .returned (.tuple #[.agg (cmdC X k ef), .bool true]) ∧ okS ts = takesK k ((ts.length : Int) - 1) ∧ (0 ≤ k ∧ k ≤ 6) ∧ writesS ts = (ef == 1))) ∧ Below w.heap.size w w'
theorem commandOf_any (ts : List ByteArray) (ao : Option Addr) (cap : Nat) (w : World) (hl : ts.length ≤ 1048576) (hts : TextsAt w ao ts) (hz : ∀ x ∈ ts, x.size ≤ 1048576) :
    Calls Tryz.prog 105 #[.slice ao ts.length cap] w (CmdPost ts w) := by
  cases ts with
  | nil =>
    refine (commandOf_nil cap ao w).mono ?_
    rintro e w' ⟨rfl, b⟩
    exact ⟨.inl ⟨rfl, rfl, rfl, rfl⟩, b⟩
  | cons x r =>
    refine (commandOf_cons x r ao cap w (by simpa using hl) hts (hz x List.mem_cons_self)).mono ?_
    rintro e w' ⟨rfl, b⟩
    refine ⟨?_, b⟩
    cases hk : inB cmdsL (upT x) with
    | false =>
      have h1 : knownS (x :: r) = false := hk
      have h2 : okS (x :: r) = false := by show (inB cmdsL (upT x) && _) = false; rw [hk]; rfl
      have h3 : writesS (x :: r) = false := by show (inB cmdsL (upT x) && _) = false; rw [hk]; rfl
      have h4 : cmdR (x :: r) = zeroC := by show (if inB cmdsL (upT x) then _ else _) = _; rw [hk]; rfl
      exact .inl ⟨h1, h2, h3, by rw [h1, h4]⟩
    | true =>
      have h1 : knownS (x :: r) = true := hk
      have h2 : okS (x :: r) = takesK (kindS (upT x)) (((x :: r).length : Int) - 1) := by
        show (inB cmdsL (upT x) && takesK (kindS (upT x)) (r.length : Int)) = _
        rw [hk, Bool.true_and, List.length_cons]
        congr 1
        omega
      have h3 : writesS (x :: r) = (effS (upT x) == 1) := by
        show (inB cmdsL (upT x) && !inB readsL (upT x)) = _
        rw [hk, Bool.true_and]
        unfold effS
        cases inB readsL (upT x) <;> rfl
      have h4 : cmdR (x :: r) = cmdC (upT x) (kindS (upT x)) (effS (upT x)) := by show (if inB cmdsL (upT x) then _ else _) = _; rw [hk]; rfl
      exact .inr ⟨h1, by simp, _, _, _, by rw [h1, h4], h2, kindS_range _, h3⟩
theorem takesK_6 (n : Int) (hn : 0 ≤ n) : takesK 6 n = (decide (n % 2 = 0) && decide (2 ≤ n) && decide (n ≤ 6)) := by
  have : takesK 6 n = (n == 2 || n == 4 || n == 6) := rfl
  rw [this, Bool.eq_iff_iff]
  simp
  omega
theorem takes_any (k n : Int) (w : World) (hk : 0 ≤ k ∧ k ≤ 6) (hn : 0 ≤ n) (hn2 : n ≤ 1048576) : Calls Tryz.prog 106 #[.int .i64 k, .int .i64 n] w fun e w' => e = .returned (.bool (takesK k n)) ∧ Below w.heap.size w w' := by
  have hc : k = 0 ∨ k = 1 ∨ k = 2 ∨ k = 3 ∨ k = 4 ∨ k = 5 ∨ k = 6 := by omega
  rcases hc with rfl | rfl | rfl | rfl | rfl | rfl | rfl
  all_goals clear hk
  case inr.inr.inr.inr.inr.inr =>
    go_enter Tryz.func106, Tryz.ntmps106
    go_wp2
    all_goals
      go_ret
      refine ⟨?_, Below.refl _ _⟩
      rw [takesK_6 n hn]
      first | (simp [*]; done) | (simp [*]; omega)
  all_goals
    go_enter Tryz.func106, Tryz.ntmps106
    go_wp2
    go_ret
    exact ⟨by simp [takesK], Below.refl _ _⟩
theorem implArityOk_any (ts : List ByteArray) (ao : Option Addr) (cap : Nat) (w : World) (hl : ts.length ≤ 1048576) (hts : TextsAt w ao ts) (hz : ∀ x ∈ ts, x.size ≤ 1048576) :
    Calls Tryz.prog 64 #[.slice ao ts.length cap] w fun e w' => e = .returned (.bool (okS ts)) ∧ Below w.heap.size w w' := by
  have CO := hide (commandOf_any ts ao cap w hl hts hz)
  clear hts hz
  go_enter Tryz.func64, Tryz.ntmps64
  go_wp2_with fail
  refine CO.out.mono ?_
  rintro e w1 ⟨⟨hk, hok, hw, rfl⟩ | ⟨hk, hpos, X, k, ef, rfl, hok, hkr, hw⟩, b1⟩
  · have B1 := hide b1
    have B2 := hide (below_setRow (b1.alloc b1.size (.cells zeroC 129)) b1.size zeroC)
    have HK := hide hk
    have HOK := hide hok
    have HW := hide hw
    clear b1 hk hok hw
    go_wp2_with (refine wpList_store_row rfl 129 _ _ rfl w1.heap.size zeroC rfl rfl 129 _ (heap_alloc_new w1 (.cells zeroC 129)) Tryz.infoCmd rfl zeroC_one ?_)
    go_ret
    exact ⟨by rw [HOK.out]; rfl, B2.out⟩
  · have B1 := hide b1
    have B2 := hide (below_setRow (b1.alloc b1.size (.cells zeroC 129)) b1.size (cmdC X k ef))
    have HBX := hide (cbox_new w1 X k ef)
    have hc9 : ((w1.alloc (.cells zeroC 129)).setRow w1.heap.size (cmdC X k ef)).cell? ⟨w1.heap.size, 9, none⟩ = some (.int .i64 k) := by
      rw [cell_of_row _ _ 9 _ _ (0, 0) HBX.out, Array.getElem?_append_right (Nat.le_of_eq (nmC_size _)), nmC_size]
      rfl
    have hc10 : ((w1.alloc (.cells zeroC 129)).setRow w1.heap.size (cmdC X k ef)).cell? ⟨w1.heap.size, 10, none⟩ = some (.int .i64 ef) := by
      rw [cell_of_row _ _ 10 _ _ (0, 0) HBX.out, Array.getElem?_append_right (by rw [nmC_size]; omega), nmC_size]
      rfl
    have HK := hide hk
    have HOK := hide hok
    have HW := hide hw
    clear b1 hk hok hw
    unfold zeroC at hc9 hc10
    have TK := hide (fun W => takes_any k ((ts.length : Int) - 1) W hkr (by omega) (by omega))
    go_wp2_with (refine wpList_store_row rfl 129 _ _ rfl w1.heap.size (cmdC X k ef) rfl rfl 129 _ (heap_alloc_new w1 (.cells zeroC 129)) (Tryz.infoCmd.trans (by rw [cmdC_size])) (by rw [cmdC_size]; rfl) (cmdC_one X k ef) ?_)
    refine (TK.out _).mono ?_
    rintro e w2 ⟨rfl, b2⟩
    go_wp2
    go_ret
    exact ⟨by rw [HOK.out]; rfl, B2.out.trans (b2.mono B2.out.size)⟩
theorem buildE_le {w : World} {B B' : Nat} {v : Value} {T : List EntD} (h : BuildE w B v T) (hB : B' ≤ B) : BuildE w B' v T := by
  obtain ⟨vs, h1, h2, h3, h4⟩ := h
  refine ⟨vs, h1, ⟨h2.1, ?_⟩, fun j x b hx hj => rowText_le (h3 j x b hx hj) hB, h4⟩
  rcases h2.2 with h | ⟨g, cap, cur, e, hg, r⟩
  · exact .inl h
  · exact .inr ⟨g, cap, cur, e, by omega, r⟩
def outT (T : List EntD) (r : ByteArray) (er : Option ByteArray) (T2 : List EntD) : List EntD × ByteArray := match er with | none => (T2, r) | some s => (T, lineB ⟨#[45]⟩ s)
def OthV (w : World) (x : Value) : Prop := (∃ a, x = .iface 209 (.pointer (some a))) ∧ w.cell? ⟨0, 0, none⟩ = some x ∧ 0 < w.heap.size
theorem infoErrP : (Tryz.prog.info? 209).map (fun i => i.comparable) = some true := by kernel_rfl
theorem infoErr : (Tryz.prog.info? 211).map (fun i => i.size) = some 1 := by kernel_rfl
theorem ptr_errs : ∃ i, Tryz.prog.info? 209 = some i ∧ i.comparable = true := by
  cases h : Tryz.prog.info? 209 with
  | none => have := infoErrP; rw [h] at this; cases this
  | some i => exact ⟨i, rfl, by have := infoErrP; rw [h] at this; simpa using this⟩
theorem err_info : ∃ i, Tryz.prog.info? 211 = some i := by
  cases h : Tryz.prog.info? 211 with
  | none => have := infoErr; rw [h] at this; cases this
  | some i => exact ⟨i, rfl⟩
theorem run_eql_types {P : Program} (w : World) {ti : TypeId} {ms : Array (String × TypeId)} (tx ty : TypeId) (vx vy : Value) (hi : P.underlying ti = some (.interface ms)) (hne : tx ≠ ty) :
    (binOp .eql ti (.iface tx vx) (.iface ty vy)).run P w = .ok (.bool false) w := by
  have h : ∀ d : Nat, (Op.equalIn (d + 1) ti (.iface tx vx) (.iface ty vy)).run P w = .ok false w := fun d => by simp [Op.equalIn, run_underlying hi, hne]
  simp only [binOp]
  simp [Op.equal, Op.maxDepth, h 9999]
theorem faultError_any (s : ByteArray) (w : World) : Calls Tryz.prog 214 #[.string s] w fun e w' => e = .returned (.string s) ∧ w' = w := by
  go_enter Tryz.func214, Tryz.ntmps214
  go_wp2
  go_ret
  exact ⟨rfl, rfl⟩
theorem workS_first {tb : TypeId} {w : World} {B bx : Nat} {v0 v : Value} {E : List Value} {T : List EntD} (hbx : w.heap[bx]? = some (.cells ⟨v0 :: E⟩ tb (0, 0))) (hB : B ≤ bx) (hv : BuildE w B v T) (htb : (tb == 40) = false) (htb9 : (tb == 9) = false) :
    WorkS tb (w.setCell ⟨bx, 0, none⟩ v) B bx T := by
  refine ⟨hB, v, E, (heap_setCell_same w bx 0 _ tb _ hbx).trans rfl, buildE_box hv (fun g C t hg ht => Below.heap_setCell _ _ _ _ (fun e => ?_))⟩
  simp only at e
  rw [e, hbx] at hg
  simp at hg
  rcases ht with ht | ht
  · rw [hg.2, ht] at htb; simp at htb
  · rw [hg.2, ht] at htb9; simp at htb9
theorem textCommand_any (T : List EntD) (ts : List ByteArray) (ao : Option Addr) (cap : Nat) (b0 off c0 : Nat) (w0 w : World) (bx : Nat) (v0 : Value) (E : List Value) (x : Value) (r : ByteArray) (er : Option ByteArray) (T2 : List EntD)
    (h0 : Below w0.heap.size w0 w) (hBx : w0.heap.size ≤ bx) (hbx : w.heap[bx]? = some (.cells ⟨v0 :: E⟩ 61 (0, 0)))
    (hT : TabR T) (hes : EntriesAt w0 ao T) (hts : TextsAt w0 (some ⟨b0, off, none⟩) ts) (hz : ∀ y ∈ ts, y.size ≤ 1000000) (hl : 2 ≤ ts.length) (hl2 : ts.length ≤ 1048576) (hc : ts.length ≤ c0) (hok : okS ts = true) (hx : OthV w0 x) (her : ∀ s, er = some s → s.size ≤ 1048576)
    (hdo : ∀ w1, WorkS 61 w1 w0.heap.size bx T → Below w0.heap.size w0 w1 → Calls Tryz.prog 37 #[.pointer (some ⟨bx, 0, none⟩), .string (upT (ts[0]'(by omega))), .slice (some ⟨b0, off + 1, none⟩) (ts.length - 1) (c0 - 1)] w1 (DoP 61 w0.heap.size bx w1 r er T2)) :
    Calls Tryz.prog 36 #[.pointer (some ⟨bx, 0, none⟩), .slice ao T.length cap, .slice (some ⟨b0, off, none⟩) ts.length c0, .func (.func 37) #[.pointer (some ⟨bx, 0, none⟩)] #[]] w fun e w' => (∃ v, e = .returned (.tuple #[v, .string (outT T r er T2).2, .bool true]) ∧ BuildE w' w0.heap.size v (outT T r er T2).1) ∧ Below w0.heap.size w0 w' := by
  have hT20 := hT.1
  have hb0 := h0.size
  have hbw := obj_lt hbx
  have HTO := hide (implTableOk_any T ao cap w true (by simp [hT]) (by omega) (entriesAt_keep hes h0) (tab_ents hT))
  have HAR := hide (fun W (h : Below w0.heap.size w0 W) => implArityOk_any ts (some ⟨b0, off, none⟩) c0 W hl2 (textsAt_keep hts h) (fun y hy => by have := hz y hy; omega))
  rw [hok] at HAR
  have HOT := hide (fun W (h : Below w0.heap.size w0 W) => ownTable_any T ao cap W (by omega) (entriesAt_keep hes h) (tab_ents hT))
  have HU := hide (fun W => implUpper_any (ts[0]'(by omega)) W (by have := hz _ (List.getElem_mem (show 0 < ts.length by omega)); omega))
  have HDO := hide hdo
  have HX := hide hx
  have KC := hide (fun X (hX : Below w0.heap.size w0 X) => textsAt_keep hts hX 0 (by omega))
  have H0 := hide h0
  have HBX := hide hbx
  have HER := hide (fun W s (h : er = some s) => implFault_any s W (her s h))
  clear hT hes hts hz hok hx her hdo h0 hbx
  go_enter Tryz.func36, Tryz.ntmps36
  go_wp2_with fail
  refine HTO.out.mono ?_
  rintro e w1 ⟨rfl, b1⟩
  have B1 := hide (H0.out.trans (b1.mono hb0))
  have P1 := hide ((b1.block bx hbw).trans HBX.out)
  clear b1
  go_wp2_with fail
  refine (HAR.out _ B1.out).mono ?_
  rintro e w2 ⟨rfl, b2⟩
  have B2 := hide (B1.out.trans (b2.mono B1.out.size))
  have P2 := hide ((b2.block bx (obj_lt P1.out)).trans P1.out)
  clear b2
  go_wp2_with fail
  refine (HOT.out _ B2.out).mono ?_
  rintro e w3 ⟨⟨v3, rfl, hb3⟩, b3⟩
  have B3 := hide (B2.out.trans (b3.mono B2.out.size))
  have P3 := hide ((b3.block bx (obj_lt P2.out)).trans P2.out)
  obtain ⟨a3, c3, e3⟩ := buildE_form hb3
  subst e3
  have HB3 := hide (buildE_le hb3 B2.out.size)
  clear b3 hb3
  obtain ⟨x3, f3⟩ := box1w P3.out
  obtain ⟨wB, hwB⟩ : ∃ wB, wB = w3.setCell ⟨bx, 0, none⟩ (.slice a3 T.length c3) := ⟨_, rfl⟩
  have B4 : Hid (Below w0.heap.size w0 wB) := by rw [hwB]; exact B3.out.setCell (p := ⟨bx, 0, none⟩) hBx _
  have WK : Hid (WorkS 61 wB w0.heap.size bx T) := by
    rw [hwB]
    exact workS_first P3.out hBx HB3.out (by decide) (by decide)
  have hb4 := B4.out.size
  have KB := hide (fun X (hX : Below wB.heap.size wB X) => KC.out X (B4.out.trans (hX.mono hb4)))
  obtain ⟨b0', off', e0, hbw0, hc0⟩ := KB.out _ (Below.refl _ wB)
  cases e0
  rw [Nat.add_zero] at hc0
  have hN0 : 0 < ts.length := by omega
  have hN1 : (1 : Int) ≤ (ts.length : Int) := by omega
  have hc1 : ¬ (c0 = 1) := by omega
  have hc63 : ts.length ≤ 9223372036854775807 := by omega
  go_upto_region 4 with fail
  rw [← hwB]
  clear hwB x3 f3
  go_region_law (first | (go_simp; go_at_call 66; go_loud (refine (HU.out _).mono ?_; rintro e w5 ⟨rfl, b5⟩; have E5 : Hid (Below wB.heap.size wB w5) := (Below.refl _ wB).drew.trans b5; clear b5)) | (go_simp; go_at_call 37; go_loud (refine (HDO.out _ (workS_below WK.out E5.out) (B4.out.trans (E5.out.mono hb4))).mono ?_; rintro e w6 ⟨rfl, s6, b6⟩; have S6 := hide s6; have B6 := hide ((B4.out.trans (E5.out.mono hb4)).trans b6); clear s6 b6)))
  all_goals
    have HX6 := hide ((B6.out.cell (p := ⟨0, 0, none⟩) HX.out.2.2).trans HX.out.2.1)
    obtain ⟨⟨ax, hxx⟩, -⟩ := HX.out
    have hx6 := HX6.out
    rw [hxx] at hx6
    obtain ⟨hb6, v6, E6, hv6, hw6⟩ := S6.out
    obtain ⟨a6, c6, e6⟩ := buildE_form hw6
    subst e6
    obtain ⟨x6, -⟩ := box1w hv6
    have HW6 := hide hw6
    clear hw6 hv6 HX6 hxx
    cases er with
    | none =>
      simp only [errV]
      have hq := run_eql_iface_nil_left (P := Tryz.prog) w6 209 (.pointer (some ax)) Tryz.underlying100
      go_wp2_with (simp only [hq])
      refine bodyPost_ret (v := .tuple #[.slice a6 T2.length c6, .string r, .bool true]) (by simp [results, Tryz.results36, go_sem]) rfl ?_
      exact ⟨⟨_, rfl, HW6.out⟩, B6.out⟩
    | some s =>
      have HOT6 := hide (HOT.out w6 B6.out)
      have HF6 := hide (fun W => HER.out W s rfl)
      simp only [errV]
      have hq := run_eql_types (P := Tryz.prog) w6 143 209 (.string s) (.pointer (some ax)) Tryz.underlying100 (by decide)
      go_wp2_with (simp only [hq])
      refine HOT6.out.mono ?_
      rintro e w7 ⟨⟨v7, rfl, hb7⟩, b7⟩
      have B7 := hide (B6.out.trans (b7.mono B6.out.size))
      obtain ⟨a7, c7, e7⟩ := buildE_form hb7
      subst e7
      have HB7 := hide (buildE_le hb7 B6.out.size)
      clear b7 hb7 hq
      go_wp2_with fail
      refine (faultError_any s _).mono ?_
      rintro e w8 ⟨rfl, rfl⟩
      go_wp2_with fail
      refine (HF6.out _).mono ?_
      rintro e w9 ⟨rfl, b9⟩
      have HB9 := hide (buildE_below HB7.out b9)
      have B9 := hide (B7.out.trans (b9.mono B7.out.size))
      clear b9
      go_wp2
      refine bodyPost_ret (v := .tuple #[.slice a7 T.length c7, .string (lineB ⟨#[45]⟩ s), .bool true]) (by simp [results, Tryz.results36, go_sem]) rfl ?_
      exact ⟨⟨_, rfl, HB9.out⟩, B9.out⟩
theorem textCommand_other (T : List EntD) (ts : List ByteArray) (ao : Option Addr) (cap : Nat) (b0 off c0 : Nat) (w0 w : World) (bx : Nat) (v0 : Value) (E : List Value) (x : Value)
    (h0 : Below w0.heap.size w0 w) (hBx : w0.heap.size ≤ bx) (hbx : w.heap[bx]? = some (.cells ⟨v0 :: E⟩ 61 (0, 0)))
    (hT : TabR T) (hes : EntriesAt w0 ao T) (hts : TextsAt w0 (some ⟨b0, off, none⟩) ts) (hz : ∀ y ∈ ts, y.size ≤ 1000000) (hl : 2 ≤ ts.length) (hl2 : ts.length ≤ 1048576) (hc : ts.length ≤ c0) (hok : okS ts = true) (hx : OthV w0 x)
    (hdo : ∀ w1 sv, Below w0.heap.size w0 w1 → Calls Tryz.prog 37 #[.pointer (some ⟨bx, 0, none⟩), .string (upT (ts[0]'(by omega))), sv] w1 fun e w' => e = .returned (.tuple #[.string ⟨#[]⟩, x]) ∧ Below w1.heap.size w1 w') :
    Calls Tryz.prog 36 #[.pointer (some ⟨bx, 0, none⟩), .slice ao T.length cap, .slice (some ⟨b0, off, none⟩) ts.length c0, .func (.func 37) #[.pointer (some ⟨bx, 0, none⟩)] #[]] w fun e w' => e = .returned (.tuple #[.slice none 0 0, .string ⟨#[]⟩, .bool false]) ∧ Below w0.heap.size w0 w' := by
  have hT20 := hT.1
  have hb0 := h0.size
  have hbw := obj_lt hbx
  have HTO := hide (implTableOk_any T ao cap w true (by simp [hT]) (by omega) (entriesAt_keep hes h0) (tab_ents hT))
  have HAR := hide (fun W (h : Below w0.heap.size w0 W) => implArityOk_any ts (some ⟨b0, off, none⟩) c0 W hl2 (textsAt_keep hts h) (fun y hy => by have := hz y hy; omega))
  rw [hok] at HAR
  have HOT := hide (fun W (h : Below w0.heap.size w0 W) => ownTable_any T ao cap W (by omega) (entriesAt_keep hes h) (tab_ents hT))
  have HU := hide (fun W => implUpper_any (ts[0]'(by omega)) W (by have := hz _ (List.getElem_mem (show 0 < ts.length by omega)); omega))
  have HDO := hide hdo
  have HX := hide hx
  have KC := hide (fun X (hX : Below w0.heap.size w0 X) => textsAt_keep hts hX 0 (by omega))
  have H0 := hide h0
  have HBX := hide hbx
  clear hT hes hts hz hok hx hdo h0 hbx
  go_enter Tryz.func36, Tryz.ntmps36
  go_wp2_with fail
  refine HTO.out.mono ?_
  rintro e w1 ⟨rfl, b1⟩
  have B1 := hide (H0.out.trans (b1.mono hb0))
  have P1 := hide ((b1.block bx hbw).trans HBX.out)
  clear b1
  go_wp2_with fail
  refine (HAR.out _ B1.out).mono ?_
  rintro e w2 ⟨rfl, b2⟩
  have B2 := hide (B1.out.trans (b2.mono B1.out.size))
  have P2 := hide ((b2.block bx (obj_lt P1.out)).trans P1.out)
  clear b2
  go_wp2_with fail
  refine (HOT.out _ B2.out).mono ?_
  rintro e w3 ⟨⟨v3, rfl, hb3⟩, b3⟩
  have B3 := hide (B2.out.trans (b3.mono B2.out.size))
  have P3 := hide ((b3.block bx (obj_lt P2.out)).trans P2.out)
  obtain ⟨a3, c3, e3⟩ := buildE_form hb3
  subst e3
  have HB3 := hide (buildE_le hb3 B2.out.size)
  clear b3 hb3
  obtain ⟨x3, f3⟩ := box1w P3.out
  obtain ⟨wB, hwB⟩ : ∃ wB, wB = w3.setCell ⟨bx, 0, none⟩ (.slice a3 T.length c3) := ⟨_, rfl⟩
  have B4 : Hid (Below w0.heap.size w0 wB) := by rw [hwB]; exact B3.out.setCell (p := ⟨bx, 0, none⟩) hBx _
  have WK : Hid (WorkS 61 wB w0.heap.size bx T) := by
    rw [hwB]
    exact workS_first P3.out hBx HB3.out (by decide) (by decide)
  have hb4 := B4.out.size
  have KB := hide (fun X (hX : Below wB.heap.size wB X) => KC.out X (B4.out.trans (hX.mono hb4)))
  obtain ⟨b0', off', e0, hbw0, hc0⟩ := KB.out _ (Below.refl _ wB)
  cases e0
  rw [Nat.add_zero] at hc0
  have hN0 : 0 < ts.length := by omega
  have hN1 : (1 : Int) ≤ (ts.length : Int) := by omega
  have hc1 : ¬ (c0 = 1) := by omega
  have hc63 : ts.length ≤ 9223372036854775807 := by omega
  go_upto_region 4 with fail
  rw [← hwB]
  clear hwB x3 f3
  go_region_law (first | (go_simp; go_at_call 66; go_loud (refine (HU.out _).mono ?_; rintro e w5 ⟨rfl, b5⟩; have E5 : Hid (Below wB.heap.size wB w5) := (Below.refl _ wB).drew.trans b5; clear b5)) | (go_simp; go_at_call 37; go_loud (refine (HDO.out _ _ (B4.out.trans (E5.out.mono hb4))).mono ?_; rintro e w6 ⟨rfl, b6⟩; have B6 := hide ((B4.out.trans (E5.out.mono hb4)).trans (b6.mono (B4.out.trans (E5.out.mono hb4)).size)); clear b6)))
  all_goals
    have HX6 := hide ((B6.out.cell (p := ⟨0, 0, none⟩) HX.out.2.2).trans HX.out.2.1)
    obtain ⟨⟨ax, hxx⟩, -⟩ := HX.out
    have hx6 := HX6.out
    rw [hxx] at hx6 ⊢
    clear HX6
    obtain ⟨ip, hip, hic⟩ := ptr_errs
    obtain ⟨je, hje⟩ := err_info
    have hq := run_eql_iface_ptr_same (P := Tryz.prog) w6 ax Tryz.underlying100 Tryz.underlying209 hip hic hje
    go_wp2_with (simp only [hq])
    refine bodyPost_ret (v := .tuple #[.slice none 0 0, .string ⟨#[]⟩, .bool false]) (by simp [results, Tryz.results36, go_sem]) rfl ?_
    exact ⟨rfl, B6.out⟩
theorem onTexts_any (T : List EntD) (ts : List ByteArray) (ao : Option Addr) (cap : Nat) (b0 off c0 : Nat) (w : World) (x : Value) (r : ByteArray) (er : Option ByteArray) (T2 : List EntD)
    (hT : TabR T) (hes : EntriesAt w ao T) (hts : TextsAt w (some ⟨b0, off, none⟩) ts) (hz : ∀ y ∈ ts, y.size ≤ 1000000) (hl : 2 ≤ ts.length) (hl2 : ts.length ≤ 1048576) (hc : ts.length ≤ c0) (hok : okS ts = true) (hx : OthV w x) (her : ∀ s, er = some s → s.size ≤ 1048576)
    (hdo : ∀ w1 b, WorkS 61 w1 w.heap.size b T → Below w.heap.size w w1 → Calls Tryz.prog 37 #[.pointer (some ⟨b, 0, none⟩), .string (upT (ts[0]'(by omega))), .slice (some ⟨b0, off + 1, none⟩) (ts.length - 1) (c0 - 1)] w1 (DoP 61 w.heap.size b w1 r er T2)) :
    Calls Tryz.prog 10 #[.slice ao T.length cap, .slice (some ⟨b0, off, none⟩) ts.length c0] w fun e w' => (∃ v, e = .returned (.tuple #[v, .string (outT T r er T2).2, .bool true]) ∧ BuildE w' w.heap.size v (outT T r er T2).1) ∧ Below w.heap.size w w' := by
  obtain ⟨wA, hwA⟩ : ∃ wA, wA = w.alloc (.cells #[.slice none 0 0] 61) := ⟨_, rfl⟩
  have BA : Hid (Below w.heap.size w wA) := by rw [hwA]; exact (Below.refl _ w).alloc (Nat.le_refl _) _
  have PA : Hid (wA.heap[w.heap.size]? = some (.cells ⟨[.slice none 0 0]⟩ 61 (0, 0))) := by rw [hwA]; exact heap_alloc_new _ _
  have hmf : ∀ (fn : Fn) (first cap : Array Value) (w : World), (Instr.makeFunc fn first cap).run Tryz.prog w = .ok (.func fn first cap) w := fun _ _ _ _ => rfl
  have HC := hide (textCommand_any T ts ao cap b0 off c0 w wA w.heap.size _ _ x r er T2 BA.out (Nat.le_refl _) PA.out hT hes hts hz hl hl2 hc hok hx her (fun w1 h1 h2 => hdo w1 w.heap.size h1 h2))
  clear hT hes hts hz hok hx her hdo BA PA
  go_enter Tryz.func10, Tryz.ntmps10
  go_upto_region 2 with fail
  rw [← hwA]
  clear hwA
  go_wp2_with fail
  refine HC.out.mono ?_
  rintro e w1 ⟨⟨v, rfl, hb⟩, b1⟩
  have HB := hide hb
  have B1 := hide b1
  clear hb b1
  go_wp2
  refine bodyPost_ret (v := .tuple #[v, .string (outT T r er T2).2, .bool true]) (by simp [results, Tryz.results10, go_sem]) rfl ?_
  exact ⟨⟨v, rfl, HB.out⟩, B1.out⟩
theorem onTexts_other (T : List EntD) (ts : List ByteArray) (ao : Option Addr) (cap : Nat) (b0 off c0 : Nat) (w : World) (x : Value)
    (hT : TabR T) (hes : EntriesAt w ao T) (hts : TextsAt w (some ⟨b0, off, none⟩) ts) (hz : ∀ y ∈ ts, y.size ≤ 1000000) (hl : 2 ≤ ts.length) (hl2 : ts.length ≤ 1048576) (hc : ts.length ≤ c0) (hok : okS ts = true) (hx : OthV w x)
    (hdo : ∀ w1 b sv, Below w.heap.size w w1 → Calls Tryz.prog 37 #[.pointer (some ⟨b, 0, none⟩), .string (upT (ts[0]'(by omega))), sv] w1 fun e w' => e = .returned (.tuple #[.string ⟨#[]⟩, x]) ∧ Below w1.heap.size w1 w') :
    Calls Tryz.prog 10 #[.slice ao T.length cap, .slice (some ⟨b0, off, none⟩) ts.length c0] w fun e w' => e = .returned (.tuple #[.slice none 0 0, .string ⟨#[]⟩, .bool false]) ∧ Below w.heap.size w w' := by
  obtain ⟨wA, hwA⟩ : ∃ wA, wA = w.alloc (.cells #[.slice none 0 0] 61) := ⟨_, rfl⟩
  have BA : Hid (Below w.heap.size w wA) := by rw [hwA]; exact (Below.refl _ w).alloc (Nat.le_refl _) _
  have PA : Hid (wA.heap[w.heap.size]? = some (.cells ⟨[.slice none 0 0]⟩ 61 (0, 0))) := by rw [hwA]; exact heap_alloc_new _ _
  have hmf : ∀ (fn : Fn) (first cap : Array Value) (w : World), (Instr.makeFunc fn first cap).run Tryz.prog w = .ok (.func fn first cap) w := fun _ _ _ _ => rfl
  have HC := hide (textCommand_other T ts ao cap b0 off c0 w wA w.heap.size _ _ x BA.out (Nat.le_refl _) PA.out hT hes hts hz hl hl2 hc hok hx (fun w1 sv h2 => hdo w1 w.heap.size sv h2))
  clear hT hes hts hz hok hx hdo BA PA
  go_enter Tryz.func10, Tryz.ntmps10
  go_upto_region 2 with fail
  rw [← hwA]
  clear hwA
  go_wp2_with fail
  refine HC.out.mono ?_
  rintro e w1 ⟨rfl, b1⟩
  have B1 := hide b1
  clear b1
  go_wp2
  refine bodyPost_ret (v := .tuple #[.slice none 0 0, .string ⟨#[]⟩, .bool false]) (by simp [results, Tryz.results10, go_sem]) rfl ?_
  exact ⟨rfl, B1.out⟩
end Go.Proofs.YtifjneldjjmeaaaGreatDoor
