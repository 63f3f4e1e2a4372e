/- Rows of batches as the laws hold them: held against each other, marked, and held against their marks. -/
import Derived.Test.YtijmlgdeeodehakDoorBatchRow
namespace Go.Proofs.YtijmlgdeeodehakDoor
open Go.RowKit

set_option maxRecDepth 100000 in
set_option maxHeartbeats 1600000 in
theorem eqBatchS_same (bs : List BatchD) (ao ao2 : Option Addr) (cap cap2 : Nat) (w : World) (hl : bs.length ≤ 1048576) (hk : ∀ b ∈ bs, b.chs.length ≤ 1048576) (h1 : BatchesAt w ao bs) (h2 : BatchesAt w ao2 bs) :
    Calls Tryd.prog 12 #[.slice ao bs.length cap, .slice ao2 bs.length cap2] w fun e w' => e = .returned (.bool true) ∧ Below w.heap.size w w' := by
  have H1 := hide h1
  have H2 := hide h2
  have HK := hide hk
  clear h1 h2 hk
  have hne : (!((bs.length : Int) == (bs.length : Int))) = false := by simp
  go_enter Tryd.func12, Tryd.ntmps12
  go_wp2
  go_loopw [5] (fun ii wr => ∃ (k : Nat), ii = .int .i64 k ∧ k ≤ bs.length ∧ Hid (Below w.heap.size w wr)) (fun ii _ => bs.length - (intOf ii).toNat)
  case atStart => exact ⟨0, rfl, Nat.zero_le _, Below.refl _ _⟩
  case round =>
    obtain ⟨k, rfl, hk, HB⟩ := hrel
    by_cases hlt : k < bs.length
    · have hlt' : decide ((k : Int) < (bs.length : Int)) = true := by simp; omega
      obtain ⟨b, off, rfl, hbw, hc0, a1, c1, hc1, ha1⟩ := batchesAt_keep H1.out HB.out k hlt
      obtain ⟨b', off', rfl, hbw', hd0, a2, c2, hd1, ha2⟩ := batchesAt_keep H2.out HB.out k hlt
      have hsm := HK.out bs[k] (List.getElem_mem hlt)
      generalize bs[k] = F at hc0 hc1 hd0 hd1 ha1 ha2 hsm
      have hi0 : (0 : Int) ≤ (k : Int) := by omega
      have hi1 : (k : Int) < (bs.length : Int) := by omega
      have HQ : Hid (∀ W, Below wr.heap.size wr W → Calls Tryd.prog 27 #[.agg #[.int .i64 F.seq, .slice a1 F.chs.length c1], .agg #[.int .i64 F.seq, .slice a2 F.chs.length c2]] W fun e w' => e = .returned (.bool true) ∧ Below W.heap.size W w') := fun W hW => eqBatch_same F.seq F.chs a1 a2 c1 c2 W (by unfold maxLen; omega) (changesAt_keep ha1 hW) (changesAt_keep ha2 hW)
      have HBw := hide hbw
      have HBw' := hide hbw'
      clear hbw hbw' ha1 ha2
      go_wp2_with fail
      go_region_held3 (fun w' => w'.cell? ⟨b, off + k * 2, none⟩ = some (.int .i64 F.seq) ∧ w'.cell? ⟨b, off + k * 2 + 1, none⟩ = some (.slice a1 F.chs.length c1) ∧ w'.cell? ⟨b', off' + k * 2, none⟩ = some (.int .i64 F.seq) ∧ w'.cell? ⟨b', off' + k * 2 + 1, none⟩ = some (.slice a2 F.chs.length c2)) (first | go_keep | (exact ⟨(b1.cell (p := ⟨b, off + k * 2, none⟩) HBw.out).trans hc0, (b1.cell (p := ⟨b, off + k * 2 + 1, none⟩) HBw.out).trans hc1, (b1.cell (p := ⟨b', off' + k * 2, none⟩) HBw'.out).trans hd0, (b1.cell (p := ⟨b', off' + k * 2 + 1, none⟩) HBw'.out).trans hd1⟩)) ((go_at_call 27; refine (HQ.out _ (by first | exact Below.refl _ _ | exact (Below.refl _ _).drew)).mono ?_; rintro e w1 ⟨rfl, b1⟩))
      go_wp2
      go_roundw
      case rel => exact ⟨k + 1, by go_num, by omega, HB.out.trans (((Below.refl _ _).drew.trans b1).mono HB.out.size)⟩
      case measure => simp [intOf]; omega
    · have hlt' : decide ((k : Int) < (bs.length : Int)) = false := by simp; omega
      go_wp2
      go_ret
      exact ⟨rfl, HB.out⟩

/-- The number behind the marks of batches. -/
def markBEnd : Nat → List BatchD → Nat
  | k, [] => k
  | k, b :: r => markBEnd (k + 1 + 3 * b.chs.length) r
/-- The batches marked from k on. -/
def markBatchDs : Nat → List BatchD → List BatchD
  | _, [] => []
  | k, b :: r => ⟨(k : Int), markChangeDs (k + 1) b.chs.length⟩ :: markBatchDs (k + 1 + 3 * b.chs.length) r
theorem markBatchDs_length : ∀ (bs : List BatchD) (k : Nat), (markBatchDs k bs).length = bs.length
  | [], _ => rfl
  | b :: r, k => by simp [markBatchDs, markBatchDs_length r]
theorem markBEnd_snoc : ∀ (bs : List BatchD) (k : Nat) (b : BatchD), markBEnd k (bs ++ [b]) = markBEnd k bs + 1 + 3 * b.chs.length
  | [], _, _ => rfl
  | _ :: r, _, b => markBEnd_snoc r _ b
theorem markBatchDs_snoc : ∀ (bs : List BatchD) (k : Nat) (b : BatchD), markBatchDs k (bs ++ [b]) = markBatchDs k bs ++ [⟨(markBEnd k bs : Nat), markChangeDs (markBEnd k bs + 1) b.chs.length⟩]
  | [], _, _ => rfl
  | c :: r, k, b => by
    show _ :: markBatchDs _ (r ++ [b]) = _ :: (_ ++ _)
    rw [markBatchDs_snoc r _ b]
    rfl
theorem markBEnd_le : ∀ (bs : List BatchD) (k : Nat), (∀ b ∈ bs, b.chs.length ≤ 40) → k ≤ markBEnd k bs ∧ markBEnd k bs ≤ k + 121 * bs.length
  | [], _, _ => by simp [markBEnd]
  | b :: r, k, h => by
    have h1 := h b (List.mem_cons_self ..)
    have h2 := markBEnd_le r (k + 1 + 3 * b.chs.length) (fun c hc => h c (List.mem_cons_of_mem _ hc))
    simp only [markBEnd, List.length_cons]
    omega
theorem markBatchDs_get (bs : List BatchD) (k j : Nat) (h : j < bs.length) : (markBatchDs k bs)[j]? = some ⟨(markBEnd k (bs.take j) : Nat), markChangeDs (markBEnd k (bs.take j) + 1) bs[j].chs.length⟩ := by
  induction bs generalizing k j with
  | nil => simp at h
  | cons b r ih =>
    cases j with
    | zero => rfl
    | succ j =>
      have := ih (k + 1 + 3 * b.chs.length) j (by simpa using h)
      simpa [markBatchDs, markBEnd] using this
/-- The first i are marked, the others as they were. -/
def mixB (k : Nat) (bs : List BatchD) (i : Nat) : List BatchD := markBatchDs k (bs.take i) ++ bs.drop i
theorem mixB_length (k : Nat) (bs : List BatchD) (i : Nat) : (mixB k bs i).length = bs.length := by
  unfold mixB
  rw [List.length_append, markBatchDs_length, ← List.length_append, List.take_append_drop]
theorem mixB_here (k : Nat) (bs : List BatchD) (i : Nat) (h : i < bs.length) : (mixB k bs i)[i]? = some bs[i] := by
  unfold mixB
  rw [List.getElem?_append_right (by rw [markBatchDs_length, List.length_take]; omega), markBatchDs_length, List.length_take, Nat.min_eq_left (by omega), Nat.sub_self, List.getElem?_drop]
  simp [h]
theorem mixB_next (k : Nat) (bs : List BatchD) (i : Nat) (h : i < bs.length) : mixB k bs (i + 1) = (mixB k bs i).set i ⟨(markBEnd k (bs.take i) : Nat), markChangeDs (markBEnd k (bs.take i) + 1) bs[i].chs.length⟩ := by
  unfold mixB
  have hd : bs.drop i = bs[i] :: bs.drop (i + 1) := List.drop_eq_getElem_cons h
  rw [List.take_succ_eq_append_getElem h, markBatchDs_snoc, hd]
  have hl : (markBatchDs k (bs.take i)).length = i := by rw [markBatchDs_length, List.length_take]; omega
  rw [List.set_append_right _ _ (by omega), hl, Nat.sub_self, List.set_cons_zero, List.append_assoc]
  rfl
theorem mixB_end (k : Nat) (bs : List BatchD) : mixB k bs bs.length = markBatchDs k bs := by
  unfold mixB
  rw [List.take_length, List.drop_length, List.append_nil]

/-- A row of changes, marked: nil or not. -/
theorem markKid (x : Value) (fs : List ChangeD) (B k : Nat) (w : World) (hn : fs.length ≤ 1048576) (hk0 : 0 < k) (hk : k ≤ 10000000) (h : RowChange w B x fs) :
    Calls Tryd.prog 28 #[x, .int .i64 (k : Int)] w fun e w' => e = .returned (.int .i64 ((k + 3 * fs.length : Nat) : Int)) ∧ RowChange w' B x (markChangeDs k fs.length) ∧ w.grownBy w' x.ownBlock := by
  rcases h with ⟨rfl, rfl⟩ | ⟨g, cap, C, rfl, hB, hC, hs, hI⟩
  · refine (markChangeS_nil (k : Int) w).mono ?_
    rintro e w' ⟨rfl, rfl⟩
    exact ⟨rfl, .inl ⟨rfl, rfl⟩, World.grownBy.refl _ _⟩
  · refine (markChangeS_row g cap fs.length C k w hn hk0 hk hC hs).mono ?_
    rintro e w' ⟨rfl, ⟨C1, hC1, hCs, hI1⟩, hg⟩
    have hl := markChangeDs_length k fs.length
    exact ⟨rfl, .inr ⟨g, cap, C1, by rw [hl], hB, hC1, by omega, by rw [hl]; exact hI1⟩, hg⟩

/-- One batch of a row gets another number and other changes. -/
theorem kidsIn_set {w w1 w2 : World} {B g i : Nat} {C : Array Value} {L : List BatchD} {x : Value} {q : Int} {fs : List ChangeD} (hI : KidsIn w B g C L) (hi : i < L.length) (hx : C[i * 2 + 1]? = some x) (hs : L.length * 2 ≤ C.size)
    (h1 : ∀ k, k ≠ g → w1.heap[k]? = w.heap[k]?) (hsz : w1.heap.size = w.heap.size) (h2 : w1.grownBy w2 x.ownBlock) (hr : RowChange w2 B x fs) : KidsIn w2 B g (C.setIfInBounds (i * 2) (.int .i64 q)) (L.set i ⟨q, fs⟩) := by
  have odd : ∀ j, (C.setIfInBounds (i * 2) (.int .i64 q))[j * 2 + 1]? = C[j * 2 + 1]? := fun j => Array.getElem?_setIfInBounds_ne (by omega)
  refine ⟨fun j hj => ?_, ?_⟩
  · have hj2 : j < L.length := by rw [List.length_set] at hj; exact hj
    by_cases hji : j = i
    · subst hji
      obtain ⟨-, x', k2, k3, k4⟩ := hI.1 j hj2
      rw [hx] at k2
      obtain rfl := Option.some.inj k2
      refine ⟨?_, x, by rw [odd]; exact hx, ?_, k4⟩
      · rw [Array.getElem?_setIfInBounds_self_of_lt (by omega)]
        simp
      · simpa using hr
    · obtain ⟨k1, y, k2, k3, k4⟩ := hI.1 j hj2
      refine ⟨?_, y, by rw [odd]; exact k2, ?_, k4⟩
      · rw [Array.getElem?_setIfInBounds_ne (by omega), List.getElem_set_ne (by omega)]
        exact k1
      · rw [List.getElem_set_ne (by omega)]
        refine rowChange_keep k3 (fun k hk => ?_)
        have hlt := (rowChange_lt k3 k hk).2
        rw [h2.block k (by omega) (fun e => hI.2 j i y x k hji hj2 hi k2 hx hk e.symm), h1 k (fun e => k4 (by rw [hk, e]))]
  · intro a b y z h hab ha hb hy hz
    rw [List.length_set] at ha hb
    rw [odd] at hy hz
    exact hI.2 a b y z h hab ha hb hy hz

set_option maxRecDepth 100000 in
set_option maxHeartbeats 1600000 in
theorem markBatchS_row (v : Value) (bs : List BatchD) (B k : Nat) (w : World) (hn : bs.length ≤ 20001) (hc : ∀ b ∈ bs, b.chs.length ≤ 40) (hk0 : 0 < k) (hk : k ≤ 10) (h : RowBatch w B v bs) :
    Calls Tryd.prog 13 #[v, .int .i64 (k : Int)] w fun e w' => e = .returned (.int .i64 ((markBEnd k bs : Nat) : Int)) ∧ RowBatch w' B v (markBatchDs k bs) ∧ Below B w w' := by
  rcases h with ⟨rfl, rfl⟩ | ⟨g, cap, C0, rfl, hB, hC, hs, hI⟩
  · go_enter Tryd.func13, Tryd.ntmps13
    go_wp2
    go_loop [1, 5] (fun kk ii => kk = .int .i64 k ∧ ii = .int .i64 0) (fun _ _ => 0)
    case atStart => exact ⟨rfl, rfl⟩
    case round =>
      obtain ⟨rfl, rfl⟩ := hrel
      go_wp2
      go_ret
      exact ⟨rfl, .inl ⟨rfl, rfl⟩, Below.refl _ _⟩
  · have HC0 := hide hC
    have HI0 := hide hI
    have HCH := hide hc
    have hsz0 : B ≤ w.heap.size := by have := (Array.getElem?_eq_some_iff.1 hC).1; omega
    clear hC hI hc
    go_enter Tryd.func13, Tryd.ntmps13
    go_wp2
    go_loopw [1, 5] (fun kk ii wr => ∃ (j : Nat) (C : Array Value), kk = .int .i64 ((markBEnd k (bs.take j) : Nat) : Int) ∧ ii = .int .i64 j ∧ j ≤ bs.length ∧ Hid (wr.heap[g]? = some (.cells C 45 (0, 0))) ∧ C.size = C0.size ∧ Hid (KidsIn wr B g C (mixB k bs j)) ∧ Hid (Below B w wr)) (fun _ ii _ => bs.length - (intOf ii).toNat)
    case atStart => exact ⟨0, C0, rfl, rfl, Nat.zero_le _, HC0, rfl, HI0, Below.refl _ _⟩
    case round =>
      obtain ⟨j, C, rfl, rfl, hj, HC, hCs, HI, HB⟩ := hrel
      by_cases hlt : j < bs.length
      · have hlt' : decide ((j : Int) < (bs.length : Int)) = true := by simp; omega
        have hi0 : (0 : Int) ≤ (j : Int) := by omega
        have hi1 : (j : Int) < (bs.length : Int) := by omega
        have hgw : g < wr.heap.size := (Array.getElem?_eq_some_iff.1 HC.out).1
        obtain ⟨K, HK⟩ : ∃ K : Nat, Hid (K = markBEnd k (bs.take j)) := ⟨_, hide rfl⟩
        have hKb : 0 < K ∧ K ≤ 5000000 := by
          have h1 := markBEnd_le (bs.take j) k (fun b hb => HCH.out b (List.mem_of_mem_take hb))
          have h2 : (bs.take j).length ≤ bs.length := by rw [List.length_take]; omega
          have := HK.out
          omega
        have hml := mixB_length k bs j
        obtain ⟨-, x, hx1, hx2, hx3⟩ := HI.out.1 j (by omega)
        have hhere := mixB_here k bs j hlt
        have hhe : (mixB k bs j)[j]'(by omega) = bs[j] := by rw [List.getElem?_eq_getElem (by omega)] at hhere; exact Option.some.inj hhere
        rw [hhe] at hx2
        obtain ⟨F, HF⟩ : ∃ F, Hid (bs[j] = F) := ⟨bs[j], hide rfl⟩
        have hFl := HCH.out bs[j] (List.getElem_mem hlt)
        rw [HF.out] at hx2 hFl
        have HX2 := hide hx2
        have HX3 := hide hx3
        obtain ⟨a1, c1, hxe, -⟩ := rowChange_at hx2
        have hq0 := cell_of_row wr g (j * 2) _ _ (0, 0) HC.out
        have hf0 := frozen_of_row wr g (j * 2) _ _ HC.out
        have hq1 : wr.cell? ⟨g, j * 2 + 1, none⟩ = some x := (cell_of_row wr g (j * 2 + 1) _ _ (0, 0) HC.out).trans hx1
        rw [Array.getElem?_eq_getElem (by omega)] at hq0
        obtain ⟨w1, hw1⟩ : ∃ w1, w1 = wr.setCell ⟨g, j * 2, none⟩ (.int .i64 (K : Int)) := ⟨_, rfl⟩
        have HC1 : Hid (w1.heap[g]? = some (.cells (C.setIfInBounds (j * 2) (.int .i64 (K : Int))) 45 (0, 0))) := by rw [hw1]; exact heap_setCell_same _ g _ _ _ _ HC.out
        have HO1 : Hid (∀ k, k ≠ g → w1.heap[k]? = wr.heap[k]?) := by rw [hw1]; exact fun k hk => Below.heap_setCell _ _ _ _ (by simpa using hk)
        have hz1 : w1.heap.size = wr.heap.size := by rw [hw1]; simp [World.setCell]
        have hq2 : w1.cell? ⟨g, j * 2 + 1, none⟩ = some x := (cell_of_row w1 g (j * 2 + 1) _ _ (0, 0) HC1.out).trans ((Array.getElem?_setIfInBounds_ne (by omega)).trans hx1)
        have HB1 : Hid (Below B w w1) := by rw [hw1]; exact HB.out.setCell (p := ⟨g, j * 2, none⟩) hB _
        have HX1 : Hid (RowChange w1 B x F.chs) := rowChange_keep HX2.out (fun h hh => HO1.out h (fun e => HX3.out (by rw [hh, e])))
        have HZ1 := hide hz1
        have HXC := hide hx1
        have HH := hide hhe
        have HM : Hid (Calls Tryd.prog 28 #[x, .int .i64 ((K : Int) + 1)] w1 fun e w' => e = .returned (.int .i64 ((K + 1 + 3 * F.chs.length : Nat) : Int)) ∧ RowChange w' B x (markChangeDs (K + 1) F.chs.length) ∧ w1.grownBy w' x.ownBlock) := by
          have := markKid x F.chs B (K + 1) w1 (by omega) (by omega) (by omega) HX1.out
          rw [show (((K + 1 : Nat)) : Int) = (K : Int) + 1 from by omega] at this
          exact this
        obtain ⟨M, HMM⟩ : ∃ M : Int, Hid (((K + 1 + 3 * F.chs.length : Nat) : Int) = M) := ⟨_, hide rfl⟩
        rw [HMM.out] at HM
        rw [← HK.out]
        clear hx1 hx2 hx3 hhere hhe hz1
        subst hxe
        go_wp2_with fail
        rw [← hw1]
        refine HM.out.mono ?_
        rintro e w2 ⟨rfl, r2, g2⟩
        have R2 := hide r2
        have G2 := hide g2
        clear r2 g2 hq0 hq1 hq2 hf0 hw1
        go_wp2_with fail
        go_roundw
        case rel =>
          refine ⟨j + 1, C.setIfInBounds (j * 2) (.int .i64 (K : Int)), ?_, by go_num, by omega, (G2.out.block g (by have := HZ1.out; omega) (fun e => HX3.out e.symm)).trans HC1.out, by simpa using hCs, ?_, HB1.out.grown G2.out (Nat.le_trans hsz0 HB1.out.size) (fun k hk => (rowChange_lt HX1.out k hk).1)⟩
          · rw [← HMM.out, List.take_succ_eq_append_getElem hlt, markBEnd_snoc, ← HK.out, HF.out]
          · show KidsIn _ _ _ _ _
            rw [mixB_next k bs j hlt, ← HK.out, HF.out]
            exact kidsIn_set HI.out (by omega) HXC.out (by omega) HO1.out HZ1.out G2.out R2.out
        case measure => simp [intOf]; omega
      · have hlt' : decide ((j : Int) < (bs.length : Int)) = false := by simp; omega
        have hje : j = bs.length := by omega
        subst hje
        obtain ⟨K, HK⟩ : ∃ K : Nat, Hid (K = markBEnd k (bs.take bs.length)) := ⟨_, hide rfl⟩
        rw [← HK.out]
        go_wp2
        go_ret
        have e := HK.out
        rw [List.take_length] at e
        have hl := markBatchDs_length bs k
        refine ⟨by rw [e]; rfl, .inr ⟨g, cap, C, by rw [hl], hB, HC.out, by omega, ?_⟩, HB.out⟩
        rw [← mixB_end]
        exact HI.out
set_option maxRecDepth 100000 in
set_option maxHeartbeats 1600000 in
theorem heldBatchS_any (ao : Option Addr) (cap : Nat) (bs : List BatchD) (k : Nat) (w : World) (hn : bs.length ≤ 20001) (hc : ∀ b ∈ bs, b.chs.length ≤ 40) (hk0 : 0 < k) (hk : k ≤ 10) (h : BatchesAt w ao (markBatchDs k bs)) :
    Calls Tryd.prog 14 #[.slice ao bs.length cap, .int .i64 (k : Int)] w fun e w' => e = .returned (.int .i64 ((markBEnd k bs : Nat) : Int)) ∧ Below w.heap.size w w' := by
  have HF := hide h
  have HCH := hide hc
  clear h hc
  go_enter Tryd.func14, Tryd.ntmps14
  go_wp2
  go_loopw [1, 5] (fun kk ii wr => ∃ (j : Nat), kk = .int .i64 ((markBEnd k (bs.take j) : Nat) : Int) ∧ ii = .int .i64 j ∧ j ≤ bs.length ∧ Hid (Below w.heap.size w wr)) (fun _ ii _ => bs.length - (intOf ii).toNat)
  case atStart => exact ⟨0, rfl, rfl, Nat.zero_le _, Below.refl _ _⟩
  case round =>
    obtain ⟨j, rfl, rfl, hj, HB⟩ := hrel
    by_cases hlt : j < bs.length
    · have hlt' : decide ((j : Int) < (bs.length : Int)) = true := by simp; omega
      have hi0 : (0 : Int) ≤ (j : Int) := by omega
      have hi1 : (j : Int) < (bs.length : Int) := by omega
      obtain ⟨b, off, rfl, hbw, hc0, a1, c1, hc1, ha1⟩ := batchesAt_keep HF.out HB.out j (by rw [markBatchDs_length]; exact hlt)
      have hget := markBatchDs_get bs k j hlt
      rw [List.getElem?_eq_getElem (by rw [markBatchDs_length]; exact hlt)] at hget
      have hge := Option.some.inj hget
      rw [hge] at hc0 hc1 ha1
      simp only [markChangeDs_length] at hc0 hc1 ha1
      clear hget hge
      obtain ⟨K, HK⟩ : ∃ K : Nat, Hid (K = markBEnd k (bs.take j)) := ⟨_, hide rfl⟩
      have hKb : 0 < K ∧ K ≤ 5000000 := by
        have h1 := markBEnd_le (bs.take j) k (fun b hb => HCH.out b (List.mem_of_mem_take hb))
        have h2 : (bs.take j).length ≤ bs.length := by rw [List.length_take]; omega
        have := HK.out
        omega
      have hFl := HCH.out bs[j] (List.getElem_mem hlt)
      obtain ⟨F, HFF⟩ : ∃ F, Hid (bs[j] = F) := ⟨bs[j], hide rfl⟩
      rw [HFF.out] at hc1 ha1 hFl
      rw [← HK.out] at hc0 ha1 ⊢
      obtain ⟨M, HMM⟩ : ∃ M : Int, Hid (((K + 1 + 3 * F.chs.length : Nat) : Int) = M) := ⟨_, hide rfl⟩
      have hM : decide (M < 0) = false := by have := HMM.out; simp; omega
      have HH : Hid (∀ W, Below wr.heap.size wr W → Calls Tryd.prog 29 #[.slice a1 F.chs.length c1, .int .i64 ((K : Int) + 1)] W fun e w' => e = .returned (.int .i64 M) ∧ Below W.heap.size W w') := by
        intro W hW
        have := heldChangeS_any a1 c1 F.chs.length (K + 1) W (by omega) (by omega) (by omega) (changesAt_keep ha1 hW)
        rw [show (((K + 1 : Nat)) : Int) = (K : Int) + 1 from by omega, HMM.out] at this
        exact this
      have hkk : ((K : Int) == (K : Int)) = true := by simp
      clear ha1
      go_wp2_with fail
      refine (HH.out _ (Below.refl _ _)).mono ?_
      rintro e w1 ⟨rfl, b1⟩
      go_wp2_with fail
      go_roundw
      case rel =>
        refine ⟨j + 1, ?_, by go_num, by omega, HB.out.trans (b1.mono HB.out.size)⟩
        rw [← HMM.out, List.take_succ_eq_append_getElem hlt, markBEnd_snoc, ← HK.out, HFF.out]
      case measure => simp [intOf]; omega
    · have hlt' : decide ((j : Int) < (bs.length : Int)) = false := by simp; omega
      have hje : j = bs.length := by omega
      subst hje
      obtain ⟨K, HK⟩ : ∃ K : Nat, Hid (K = markBEnd k (bs.take bs.length)) := ⟨_, hide rfl⟩
      rw [← HK.out]
      go_wp2
      go_ret
      have e := HK.out
      rw [List.take_length] at e
      exact ⟨by rw [e]; rfl, HB.out⟩
end Go.Proofs.YtijmlgdeeodehakDoor
