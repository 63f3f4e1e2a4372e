/- The program's commandOf. -/
import Derived.Test.YteidjnmfjkpolaaDoorNmE
import Derived.Test.YteidjnmfjkpolaaDoorL13B
namespace Go.Proofs.YteidjnmfjkpolaaDoor
open Go.RowKit

theorem Tryd.guardNm : Tryd.prog.eqGuardType Tryd.prog.depth 31 = false := by kernel_rfl
theorem Tryd.cmdRes : (Tryd.f25).results = #[.cell 2 35, .tmp 3] := rfl
/-- What commandOf tells: the command's cells. -/
def cmdR (ts : List ByteArray) : Array Value := match ts with | [] => zeroC | x :: _ => if inB cmdsL (upT x) then cmdC (upT x) (kindS (upT x)) (effS (upT x)) else zeroC
theorem cmdR_size (ts : List ByteArray) : (cmdR ts).size = 11 := by
  unfold cmdR
  split
  · rfl
  · split
    · exact cmdC_size _ _ _
    · rfl
theorem zeroC_one : zeroC.all (·.oneCell') = true := by
  rw [Array.all_eq_true_iff_forall_mem]
  intro v hv
  simp [zeroC] at hv
  rcases hv with rfl | rfl <;> rfl
theorem cmd_results (tmps : Array Value) (w : World) (g : Nat) (cs : Array Value) (v : Value) (hp : tmps.getD 2 undef = .pointer (some ⟨g, 0, none⟩)) (hg : w.heap[g]? = some (.cells cs 35 (0, 0))) (hcs : cs.size = 11) (hv : tmps.getD 3 undef = v) :
    (results Tryd.f25 tmps).run Tryd.prog w = .ok (.tuple #[.agg cs, v]) w := by
  rw [results_cell_tmp Tryd.cmdRes, hp, hv]
  have := run_loadVar_row (P := Tryd.prog) w g 35 35 cs (0, 0) _ hg Tryd.underlying35 rfl (Tryd.infoCmd.trans (by rw [hcs]))
  simp [asAddr, this]
/-- The box of the result, and all below. -/
def RBox (w W : World) (cs : Array Value) : Prop := W.heap[w.heap.size]? = some (.cells cs 35 (0, 0)) ∧ Below w.heap.size w W
theorem rbox_new (w : World) : RBox w (w.alloc (.cells zeroC 35)) zeroC := ⟨heap_alloc_new w _, (Below.refl _ _).alloc (Nat.le_refl _) _⟩
theorem rbox_on {w W W' : World} {cs : Array Value} (h : RBox w W cs) (b : Below W.heap.size W W') : RBox w W' cs :=
  ⟨(b.block _ (Array.getElem?_eq_some_iff.1 h.1).1).trans h.1, h.2.trans (b.mono h.2.size)⟩
theorem rbox_put {w W : World} {cs : Array Value} (h : RBox w W cs) (cs2 : Array Value) : RBox w (W.setRow w.heap.size cs2) cs2 :=
  ⟨setRow_new _ _ _ _ _ h.1, below_setRow h.2 (Nat.le_refl _) _⟩

theorem not_in {X : ByteArray} (h : ∀ j, j < 41 → cmdsL[j]? ≠ some X) : inB cmdsL X = false := by
  cases hb : inB cmdsL X with
  | false => rfl
  | true =>
    obtain ⟨j, hj, e⟩ := List.mem_iff_getElem.1 ((inB_iff _ _).1 hb)
    exact absurd ((List.getElem?_eq_getElem hj).trans (congrArg some e)) (h j hj)
theorem not_told {X : ByteArray} (h : nmT X ≠ X) : inB cmdsL X = false := by
  cases hb : inB cmdsL X with
  | false => rfl
  | true => exact absurd (cmds_told X ((inB_iff _ _).1 hb)) h
theorem pair_of {k : Nat} {s : ByteArray} {a b : Int} (h1 : cmdsL[k]? = some s) (h2 : cmdsK[k]? = some (a, b)) : (s, (a, b)) ∈ cmdsL.zip cmdsK := by
  refine List.mem_of_getElem? (i := k) ?_
  rw [List.getElem?_zip_eq_some]
  exact ⟨h1, h2⟩
/-- The name's box, and the result's. -/
def PBox (w W : World) (n : Nat) (X : ByteArray) : Prop := RBox w W zeroC ∧ W.heap[n]? = some (.cells (nmC X) 31 (0, 0)) ∧ w.heap.size ≤ n
theorem pbox_on {w W W' : World} {n : Nat} {X : ByteArray} (h : PBox w W n X) (b : Below W.heap.size W W') : PBox w W' n X :=
  ⟨rbox_on h.1 b, (b.block _ (Array.getElem?_eq_some_iff.1 h.2.1).1).trans h.2.1, h.2.2⟩
def zero9 : Array Value := #[.int .u8 0, .int .u8 0, .int .u8 0, .int .u8 0, .int .u8 0, .int .u8 0, .int .u8 0, .int .u8 0, .int .u8 0]
theorem pbox_new {w W : World} (X : ByteArray) (h : RBox w W zeroC) : PBox w ((W.alloc (.cells zero9 31)).setRow W.heap.size (nmC X)) W.heap.size X := by
  have hb : Below W.heap.size W ((W.alloc (.cells zero9 31)).setRow W.heap.size (nmC X)) := below_setRow ((Below.refl _ _).alloc (Nat.le_refl _) _) (Nat.le_refl _) _
  exact ⟨rbox_on h hb, setRow_new _ _ _ _ _ (heap_alloc_new W _), h.2.size⟩

set_option maxRecDepth 100000 in
set_option maxHeartbeats 2000000 in
theorem commandOf_nil (cap : Nat) (ao : Option Addr) (w : World) : Calls Tryd.prog 25 #[.slice ao 0 cap] w fun e w' => e = .returned (.tuple #[.agg zeroC, .bool false]) ∧ Below w.heap.size w w' := by
  have RB := hide (rbox_new w)
  go_enter Tryd.func25, Tryd.ntmps25
  go_wp2_with (refine wpList_store_row rfl 35 _ _ rfl w.heap.size zeroC rfl rfl 35 _ RB.out.1 Tryd.infoCmd rfl zeroC_one ?_)
  exact bodyPost_ret (v := .tuple #[.agg zeroC, .bool false]) (cmd_results _ _ w.heap.size zeroC _ rfl (rbox_put RB.out zeroC).1 rfl rfl) rfl ⟨rfl, (rbox_put RB.out zeroC).2⟩

set_option maxRecDepth 100000 in
set_option maxHeartbeats 4000000 in
theorem commandOf_cons (x : ByteArray) (r : List ByteArray) (ao : Option Addr) (cap : Nat) (w : World) (hl : r.length ≤ 1048575) (hts : TextsAt w ao (x :: r)) (hz : x.size ≤ 1048576) :
    Calls Tryd.prog 25 #[.slice ao (r.length + 1) cap] w fun e w' => e = .returned (.tuple #[.agg (cmdR (x :: r)), .bool (knownS (x :: r))]) ∧ Below w.heap.size w w' := by
  obtain ⟨b, off, rfl, hb, hcell⟩ := hts 0 (by simp)
  rw [Nat.add_zero] at hcell
  have hcell : w.cell? ⟨b, off, none⟩ = some (.string x) := hcell
  have HC := hide hcell
  have KS : Hid (∀ W, Below w.heap.size w W → W.cell? ⟨b, off, none⟩ = some (.string x)) := fun W hW => (hW.cell (p := ⟨b, off, none⟩) hb).trans HC.out
  have SU := hide (fun W => implUpper_any x W hz)
  have h0 : (((r.length : Nat) : Int) + 1 == 0) = false := by rw [beq_eq_false_iff_ne]; omega
  obtain ⟨X, HX⟩ : ∃ X, Hid (upT x = X) := ⟨_, rfl⟩
  have e0 : (⟨(x.data.toList.map upB).toArray⟩ : ByteArray) = X := HX.out
  rw [e0] at SU
  have HR : Hid (cmdR (x :: r) = if inB cmdsL X then cmdC X (kindS X) (effS X) else zeroC) := by
    show (if inB cmdsL (upT x) then cmdC (upT x) (kindS (upT x)) (effS (upT x)) else zeroC) = _
    rw [HX.out]
  have HK : Hid (knownS (x :: r) = inB cmdsL X) := by
    show inB cmdsL (upT x) = _
    rw [HX.out]
  generalize cmdR (x :: r) = R at HR ⊢
  generalize knownS (x :: r) = K at HK ⊢
  have RB := hide (rbox_new w)
  have hc1 := fun o => KS.out _ ((Below.refl _ _).alloc (Nat.le_refl _) o)
  clear hts e0
  go_enter Tryd.func25, Tryd.ntmps25
  go_wp2_with fail
  refine (SU.out _).mono ?_
  rintro e w1 ⟨rfl, b1⟩
  have RB1 := hide (rbox_on RB.out b1)
  clear b1 RB SU
  go_wp2_with fail
  refine (named_any X _).mono ?_
  rintro e w2 ⟨rfl, b2⟩
  have RB2 := hide (rbox_on RB1.out b2)
  have PB := hide (pbox_new X RB2.out)
  clear b2 RB1
  go_wp2_with (first | refine wpList_store_row rfl 31 _ _ rfl w2.heap.size (nmC X) rfl rfl 31 _ (heap_alloc_new w2 (.cells zero9 31)) (Tryd.infoNm.trans (by rw [nmC_size])) (by rw [nmC_size]; rfl) (nmC_one X) ?_ | refine wpList_load_row rfl 31 _ rfl w2.heap.size rfl 31 _ (0, 0) _ PB.out.2.1 Tryd.underlying31 rfl (Tryd.infoNm.trans (by rw [nmC_size])) ?_)
  refine (nmText_any X _).mono ?_
  rintro e w3 ⟨rfl, b3⟩
  have P3 := hide (pbox_on PB.out b3)
  clear b3 PB RB2
  by_cases hT : nmT X = X
  · have hTn : (!((nmT X).toList == X.toList)) = false := by rw [txt_eq hT]; rfl
    have hTn2 := txt_eq hT
    have HT := hide hT
    clear hT
    go_wp2_with fail
    refine (allCmds_any _).mono ?_
    rintro e w4 ⟨rfl, b4⟩
    have P4 := hide (pbox_on P3.out b4)
    clear b4 P3
    go_wp2_with fail
    go_loopw [24] (fun ii wr => ∃ k : Nat, ii = .int .i64 (k : Int) ∧ k ≤ 41 ∧ Hid (∀ j, j < k → cmdsL[j]? ≠ some X) ∧ Hid (PBox w wr w2.heap.size X)) (fun ii _ => 41 - (intOf ii).toNat)
    case atStart => exact ⟨0, rfl, by omega, fun j hj => by omega, P4.out⟩
    case round =>
      obtain ⟨k, rfl, hk, HN, HP⟩ := hrel
      by_cases hlt : k < 41
      · have hlt' : decide ((k : Int) < 41) = true := by simp; omega
        obtain ⟨s, a, b', hs, hp, he⟩ := allV_get k hlt
        have hidx := all_index k hlt s a b' he
        have HBX := hide (cbox_new wr s a b')
        have hbw : Below wr.heap.size wr ((wr.alloc (.cells zeroC 35)).setRow wr.heap.size (cmdC s a b')) := cbox_below (Below.refl _ _) (Nat.le_refl _) s a b'
        have HP2 := hide (pbox_on HP.out hbw)
        have heq := fun W => eql_names s X W
        have hguard := Tryd.guardNm
        rw [names_same (cmd_name hs) HT.out] at heq
        by_cases hsX : s = X
        · rw [decide_eq_true hsX] at heq
          have HRR : Hid (R = cmdC s a b' ∧ K = true) := by
            have h1 := kinds_alike _ (pair_of hs hp)
            have h2 := effs_alike _ (pair_of hs hp)
            have h3 : inB cmdsL X = true := (inB_iff _ _).2 (hsX ▸ cmd_name hs)
            refine ⟨?_, ?_⟩
            · rw [HR.out, h3, if_pos rfl, ← hsX, show kindS s = a from h1, show effS s = b' from h2]
            · rw [HK.out, h3]
          clear hs hp he hsX hbw
          go_wp2_with (first | refine wpList_store_row rfl 35 _ _ rfl wr.heap.size _ rfl rfl 35 _ (heap_alloc_new wr (.cells zeroC 35)) (Tryd.infoCmd.trans (by rw [cmdC_size])) (by rw [cmdC_size]; rfl) (cmdC_one s a b') ?_ | refine wpList_load_part rfl 31 _ rfl wr.heap.size rfl 35 (nmC s) _ (0, 0) _ HBX.out Tryd.underlying31 rfl (Tryd.infoNm.trans (by rw [nmC_size])) ?_ | refine wpList_load_row rfl 31 _ rfl w2.heap.size rfl 31 _ (0, 0) _ HP2.out.2.1 Tryd.underlying31 rfl (Tryd.infoNm.trans (by rw [nmC_size])) ?_ | refine wpList_load_row rfl 35 _ rfl wr.heap.size rfl 35 (cmdC s a b') (0, 0) _ HBX.out Tryd.underlying35 rfl (Tryd.infoCmd.trans (by rw [cmdC_size])) ?_ | refine wpList_store_row rfl 35 _ _ rfl w.heap.size _ rfl rfl 35 _ HP2.out.1.1 (Tryd.infoCmd.trans (by rw [cmdC_size])) (by rw [cmdC_size]; rfl) (cmdC_one s a b') ?_)
          rw [HRR.out.1, HRR.out.2]
          exact bodyPost_ret (v := .tuple #[.agg (cmdC s a b'), .bool true]) (cmd_results _ _ w.heap.size (cmdC s a b') _ rfl (rbox_put HP2.out.1 _).1 (cmdC_size _ _ _) rfl) rfl ⟨rfl, (rbox_put HP2.out.1 _).2⟩
        · rw [decide_eq_false hsX] at heq
          have HN2 : Hid (∀ j, j < k + 1 → cmdsL[j]? ≠ some X) := by
            intro j hj
            by_cases hjk : j = k
            · subst hjk
              rw [hs]
              intro e
              exact hsX (Option.some.inj e)
            · exact HN.out j (by omega)
          clear hs hp he hsX hbw
          go_wp2_with (first | refine wpList_store_row rfl 35 _ _ rfl wr.heap.size _ rfl rfl 35 _ (heap_alloc_new wr (.cells zeroC 35)) (Tryd.infoCmd.trans (by rw [cmdC_size])) (by rw [cmdC_size]; rfl) (cmdC_one s a b') ?_ | refine wpList_load_part rfl 31 _ rfl wr.heap.size rfl 35 (nmC s) _ (0, 0) _ HBX.out Tryd.underlying31 rfl (Tryd.infoNm.trans (by rw [nmC_size])) ?_ | refine wpList_load_row rfl 31 _ rfl w2.heap.size rfl 31 _ (0, 0) _ HP2.out.2.1 Tryd.underlying31 rfl (Tryd.infoNm.trans (by rw [nmC_size])) ?_)
          go_roundw
          case rel => exact ⟨k + 1, by go_num, by omega, HN2, HP2⟩
          case measure => simp [intOf]; omega
      · have hlt' : decide ((k : Int) < 41) = false := by simp; omega
        have HRR : Hid (R = zeroC ∧ K = false) := by
          have h3 := not_in (X := X) (fun j hj => HN.out j (by omega))
          refine ⟨?_, ?_⟩
          · rw [HR.out, h3]
            rfl
          · rw [HK.out, h3]
        go_wp2_with (refine wpList_store_row rfl 35 _ _ rfl w.heap.size zeroC rfl rfl 35 _ HP.out.1.1 Tryd.infoCmd rfl zeroC_one ?_)
        rw [HRR.out.1, HRR.out.2]
        exact bodyPost_ret (v := .tuple #[.agg zeroC, .bool false]) (cmd_results _ _ w.heap.size zeroC _ rfl (rbox_put HP.out.1 zeroC).1 rfl rfl) rfl ⟨rfl, (rbox_put HP.out.1 zeroC).2⟩
  · have hTn : (!((nmT X).toList == X.toList)) = true := by rw [txt_ne hT]; rfl
    have hTn2 := txt_ne hT
    have HRR : Hid (R = zeroC ∧ K = false) := by
      have h3 := not_told hT
      refine ⟨?_, ?_⟩
      · rw [HR.out, h3]
        rfl
      · rw [HK.out, h3]
    clear hT
    go_wp2_with (refine wpList_store_row rfl 35 _ _ rfl w.heap.size zeroC rfl rfl 35 _ P3.out.1.1 Tryd.infoCmd rfl zeroC_one ?_)
    rw [HRR.out.1, HRR.out.2]
    exact bodyPost_ret (v := .tuple #[.agg zeroC, .bool false]) (cmd_results _ _ w.heap.size zeroC _ rfl (rbox_put P3.out.1 zeroC).1 rfl rfl) rfl ⟨rfl, (rbox_put P3.out.1 zeroC).2⟩
end Go.Proofs.YteidjnmfjkpolaaDoor
