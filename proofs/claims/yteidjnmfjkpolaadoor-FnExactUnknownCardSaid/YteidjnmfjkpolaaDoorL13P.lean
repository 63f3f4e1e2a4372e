/- The program's ArityOk, Writes, Unknown. -/
import Derived.Test.YteidjnmfjkpolaaDoorL13I
namespace Go.Proofs.YteidjnmfjkpolaaDoor
open Go.RowKit

theorem kindS_range (x : ByteArray) : 0 ≤ kindS x ∧ kindS x ≤ 6 := by
  unfold kindS
  repeat' split
  all_goals omega
/-- What commandOf leaves, told apart. -/
def CmdPost (ts : List ByteArray) (w : World) (e : Ending) (w' : World) : Prop :=
  ((knownS ts = false ∧ okS ts = false ∧ writesS ts = false ∧ e = .returned (.tuple #[.agg zeroC, .bool false])) ∨
    (knownS ts = true ∧ 0 < ts.length ∧ ∃ X k ef, e = .returned (.tuple #[.agg (cmdC X k ef), .bool true]) ∧ okS ts = takesK k ((ts.length : Int) - 1) ∧ (0 ≤ k ∧ k ≤ 6) ∧ writesS ts = (ef == 1))) ∧ Below w.heap.size w w'
theorem commandOf_any (ts : List ByteArray) (ao : Option Addr) (cap : Nat) (w : World) (hl : ts.length ≤ 1048576) (hts : TextsAt w ao ts) (hz : ∀ x ∈ ts, x.size ≤ 1048576) :
    Calls Tryd.prog 25 #[.slice ao ts.length cap] w (CmdPost ts w) := by
  cases ts with
  | nil =>
    refine (commandOf_nil cap ao w).mono ?_
    rintro e w' ⟨rfl, b⟩
    exact ⟨.inl ⟨rfl, rfl, rfl, rfl⟩, b⟩
  | cons x r =>
    refine (commandOf_cons x r ao cap w (by simpa using hl) hts (hz x List.mem_cons_self)).mono ?_
    rintro e w' ⟨rfl, b⟩
    refine ⟨?_, b⟩
    cases hk : inB cmdsL (upT x) with
    | false =>
      have h1 : knownS (x :: r) = false := hk
      have h2 : okS (x :: r) = false := by show (inB cmdsL (upT x) && _) = false; rw [hk]; rfl
      have h3 : writesS (x :: r) = false := by show (inB cmdsL (upT x) && _) = false; rw [hk]; rfl
      have h4 : cmdR (x :: r) = zeroC := by show (if inB cmdsL (upT x) then _ else _) = _; rw [hk]; rfl
      exact .inl ⟨h1, h2, h3, by rw [h1, h4]⟩
    | true =>
      have h1 : knownS (x :: r) = true := hk
      have h2 : okS (x :: r) = takesK (kindS (upT x)) (((x :: r).length : Int) - 1) := by
        show (inB cmdsL (upT x) && takesK (kindS (upT x)) (r.length : Int)) = _
        rw [hk, Bool.true_and, List.length_cons]
        congr 1
        omega
      have h3 : writesS (x :: r) = (effS (upT x) == 1) := by
        show (inB cmdsL (upT x) && !inB readsL (upT x)) = _
        rw [hk, Bool.true_and]
        unfold effS
        cases inB readsL (upT x) <;> rfl
      have h4 : cmdR (x :: r) = cmdC (upT x) (kindS (upT x)) (effS (upT x)) := by show (if inB cmdsL (upT x) then _ else _) = _; rw [hk]; rfl
      exact .inr ⟨h1, by simp, _, _, _, by rw [h1, h4], h2, kindS_range _, h3⟩

theorem takesK_6 (n : Int) (hn : 0 ≤ n) : takesK 6 n = (decide (n % 2 = 0) && decide (2 ≤ n) && decide (n ≤ 6)) := by
  have : takesK 6 n = (n == 2 || n == 4 || n == 6) := rfl
  rw [this, Bool.eq_iff_iff]
  simp
  omega

set_option maxRecDepth 100000 in
set_option maxHeartbeats 1000000 in
theorem takes_any (k n : Int) (w : World) (hk : 0 ≤ k ∧ k ≤ 6) (hn : 0 ≤ n) (hn2 : n ≤ 1048576) : Calls Tryd.prog 26 #[.int .i64 k, .int .i64 n] w fun e w' => e = .returned (.bool (takesK k n)) ∧ Below w.heap.size w w' := by
  have hc : k = 0 ∨ k = 1 ∨ k = 2 ∨ k = 3 ∨ k = 4 ∨ k = 5 ∨ k = 6 := by omega
  rcases hc with rfl | rfl | rfl | rfl | rfl | rfl | rfl
  all_goals clear hk
  case inr.inr.inr.inr.inr.inr =>
    go_enter Tryd.func26, Tryd.ntmps26
    go_wp2
    all_goals
      go_ret
      refine ⟨?_, Below.refl _ _⟩
      rw [takesK_6 n hn]
      first | (simp [*]; done) | (simp [*]; omega)
  all_goals
    go_enter Tryd.func26, Tryd.ntmps26
    go_wp2
    go_ret
    exact ⟨by simp [takesK], Below.refl _ _⟩

set_option maxRecDepth 100000 in
set_option maxHeartbeats 2000000 in
theorem implArityOk_any (ts : List ByteArray) (ao : Option Addr) (cap : Nat) (w : World) (hl : ts.length ≤ 1048576) (hts : TextsAt w ao ts) (hz : ∀ x ∈ ts, x.size ≤ 1048576) :
    Calls Tryd.prog 15 #[.slice ao ts.length cap] w fun e w' => e = .returned (.bool (okS ts)) ∧ Below w.heap.size w w' := by
  have CO := hide (commandOf_any ts ao cap w hl hts hz)
  clear hts hz
  go_enter Tryd.func15, Tryd.ntmps15
  go_wp2_with fail
  refine CO.out.mono ?_
  rintro e w1 ⟨⟨hk, hok, hw, rfl⟩ | ⟨hk, hpos, X, k, ef, rfl, hok, hkr, hw⟩, b1⟩
  · have B1 := hide b1
    have B2 := hide (below_setRow (b1.alloc b1.size (.cells zeroC 35)) b1.size zeroC)
    have HK := hide hk
    have HOK := hide hok
    have HW := hide hw
    clear b1 hk hok hw
    go_wp2_with (refine wpList_store_row rfl 35 _ _ rfl w1.heap.size zeroC rfl rfl 35 _ (heap_alloc_new w1 (.cells zeroC 35)) Tryd.infoCmd rfl zeroC_one ?_)
    go_ret
    exact ⟨by rw [HOK.out]; rfl, B2.out⟩
  · have B1 := hide b1
    have B2 := hide (below_setRow (b1.alloc b1.size (.cells zeroC 35)) b1.size (cmdC X k ef))
    have HBX := hide (cbox_new w1 X k ef)
    have hc9 : ((w1.alloc (.cells zeroC 35)).setRow w1.heap.size (cmdC X k ef)).cell? ⟨w1.heap.size, 9, none⟩ = some (.int .i64 k) := by
      rw [cell_of_row _ _ 9 _ _ (0, 0) HBX.out, Array.getElem?_append_right (Nat.le_of_eq (nmC_size _)), nmC_size]
      rfl
    have hc10 : ((w1.alloc (.cells zeroC 35)).setRow w1.heap.size (cmdC X k ef)).cell? ⟨w1.heap.size, 10, none⟩ = some (.int .i64 ef) := by
      rw [cell_of_row _ _ 10 _ _ (0, 0) HBX.out, Array.getElem?_append_right (by rw [nmC_size]; omega), nmC_size]
      rfl
    have HK := hide hk
    have HOK := hide hok
    have HW := hide hw
    clear b1 hk hok hw
    unfold zeroC at hc9 hc10
    have TK := hide (fun W => takes_any k ((ts.length : Int) - 1) W hkr (by omega) (by omega))
    go_wp2_with (refine wpList_store_row rfl 35 _ _ rfl w1.heap.size (cmdC X k ef) rfl rfl 35 _ (heap_alloc_new w1 (.cells zeroC 35)) (Tryd.infoCmd.trans (by rw [cmdC_size])) (by rw [cmdC_size]; rfl) (cmdC_one X k ef) ?_)
    refine (TK.out _).mono ?_
    rintro e w2 ⟨rfl, b2⟩
    go_wp2
    go_ret
    exact ⟨by rw [HOK.out]; rfl, B2.out.trans (b2.mono B2.out.size)⟩

set_option maxRecDepth 100000 in
set_option maxHeartbeats 2000000 in
theorem implWrites_any (ts : List ByteArray) (ao : Option Addr) (cap : Nat) (w : World) (hl : ts.length ≤ 1048576) (hts : TextsAt w ao ts) (hz : ∀ x ∈ ts, x.size ≤ 1048576) :
    Calls Tryd.prog 17 #[.slice ao ts.length cap] w fun e w' => e = .returned (.bool (writesS ts)) ∧ Below w.heap.size w w' := by
  have CO := hide (commandOf_any ts ao cap w hl hts hz)
  clear hts hz
  go_enter Tryd.func17, Tryd.ntmps17
  go_wp2_with fail
  refine CO.out.mono ?_
  rintro e w1 ⟨⟨hk, hok, hw, rfl⟩ | ⟨hk, hpos, X, k, ef, rfl, hok, hkr, hw⟩, b1⟩
  · have B1 := hide b1
    have B2 := hide (below_setRow (b1.alloc b1.size (.cells zeroC 35)) b1.size zeroC)
    have HK := hide hk
    have HOK := hide hok
    have HW := hide hw
    clear b1 hk hok hw
    go_wp2_with (refine wpList_store_row rfl 35 _ _ rfl w1.heap.size zeroC rfl rfl 35 _ (heap_alloc_new w1 (.cells zeroC 35)) Tryd.infoCmd rfl zeroC_one ?_)
    go_ret
    exact ⟨by rw [HW.out]; rfl, B2.out⟩
  · have B1 := hide b1
    have B2 := hide (below_setRow (b1.alloc b1.size (.cells zeroC 35)) b1.size (cmdC X k ef))
    have HBX := hide (cbox_new w1 X k ef)
    have hc9 : ((w1.alloc (.cells zeroC 35)).setRow w1.heap.size (cmdC X k ef)).cell? ⟨w1.heap.size, 9, none⟩ = some (.int .i64 k) := by
      rw [cell_of_row _ _ 9 _ _ (0, 0) HBX.out, Array.getElem?_append_right (Nat.le_of_eq (nmC_size _)), nmC_size]
      rfl
    have hc10 : ((w1.alloc (.cells zeroC 35)).setRow w1.heap.size (cmdC X k ef)).cell? ⟨w1.heap.size, 10, none⟩ = some (.int .i64 ef) := by
      rw [cell_of_row _ _ 10 _ _ (0, 0) HBX.out, Array.getElem?_append_right (by rw [nmC_size]; omega), nmC_size]
      rfl
    have HK := hide hk
    have HOK := hide hok
    have HW := hide hw
    clear b1 hk hok hw
    unfold zeroC at hc9 hc10
    go_wp2_with (refine wpList_store_row rfl 35 _ _ rfl w1.heap.size (cmdC X k ef) rfl rfl 35 _ (heap_alloc_new w1 (.cells zeroC 35)) (Tryd.infoCmd.trans (by rw [cmdC_size])) (by rw [cmdC_size]; rfl) (cmdC_one X k ef) ?_)
    go_ret
    exact ⟨by rw [HW.out]; rfl, B2.out⟩

set_option maxRecDepth 100000 in
set_option maxHeartbeats 2000000 in
theorem implUnknown_any (ts : List ByteArray) (ao : Option Addr) (cap : Nat) (w : World) (hl : ts.length ≤ 1048576) (hts : TextsAt w ao ts) (hz : ∀ x ∈ ts, x.size ≤ 1048576) :
    Calls Tryd.prog 19 #[.slice ao ts.length cap] w fun e w' => e = .returned (.string (unkS ts)) ∧ Below w.heap.size w w' := by
  have CO := hide (commandOf_any ts ao cap w hl hts hz)
  have AR := hide (fun W (h : TextsAt W ao ts) => implArityOk_any ts ao cap W hl h hz)
  have HT := hide hts
  clear hts hz
  go_enter Tryd.func19, Tryd.ntmps19
  go_wp2_with fail
  refine CO.out.mono ?_
  rintro e w1 ⟨⟨hk, hok, hw, rfl⟩ | ⟨hk, hpos, X, k, ef, rfl, hok, hkr, hw⟩, b1⟩
  · have B1 := hide b1
    have B2 := hide (below_setRow (b1.alloc b1.size (.cells zeroC 35)) b1.size zeroC)
    have HK := hide hk
    have HOK := hide hok
    have HW := hide hw
    clear b1 hk hok hw
    go_wp2_with (refine wpList_store_row rfl 35 _ _ rfl w1.heap.size zeroC rfl rfl 35 _ (heap_alloc_new w1 (.cells zeroC 35)) Tryd.infoCmd rfl zeroC_one ?_)
    refine (implFault_any unkT _ (by decide)).mono ?_
    rintro e w2 ⟨rfl, b2⟩
    go_wp2
    go_ret
    exact ⟨by unfold unkS; rw [HK.out]; rfl, B2.out.trans (b2.mono B2.out.size)⟩
  · have B1 := hide b1
    have B2 := hide (below_setRow (b1.alloc b1.size (.cells zeroC 35)) b1.size (cmdC X k ef))
    have HBX := hide (cbox_new w1 X k ef)
    have hc9 : ((w1.alloc (.cells zeroC 35)).setRow w1.heap.size (cmdC X k ef)).cell? ⟨w1.heap.size, 9, none⟩ = some (.int .i64 k) := by
      rw [cell_of_row _ _ 9 _ _ (0, 0) HBX.out, Array.getElem?_append_right (Nat.le_of_eq (nmC_size _)), nmC_size]
      rfl
    have hc10 : ((w1.alloc (.cells zeroC 35)).setRow w1.heap.size (cmdC X k ef)).cell? ⟨w1.heap.size, 10, none⟩ = some (.int .i64 ef) := by
      rw [cell_of_row _ _ 10 _ _ (0, 0) HBX.out, Array.getElem?_append_right (by rw [nmC_size]; omega), nmC_size]
      rfl
    have HK := hide hk
    have HOK := hide hok
    have HW := hide hw
    clear b1 hk hok hw
    unfold zeroC at hc9 hc10
    have HT2 := hide (textsAt_keep HT.out B2.out)
    go_wp2_with (refine wpList_store_row rfl 35 _ _ rfl w1.heap.size (cmdC X k ef) rfl rfl 35 _ (heap_alloc_new w1 (.cells zeroC 35)) (Tryd.infoCmd.trans (by rw [cmdC_size])) (by rw [cmdC_size]; rfl) (cmdC_one X k ef) ?_)
    refine (AR.out _ HT2.out).mono ?_
    rintro e w2 ⟨rfl, b2⟩
    have B3 := hide (B2.out.trans (b2.mono B2.out.size))
    clear b2
    cases ho : okS ts with
    | true =>
      go_wp2
      go_ret
      exact ⟨by unfold unkS; rw [HK.out, ho]; rfl, B3.out⟩
    | false =>
      go_wp2_with fail
      refine (implFault_any argT _ (by decide)).mono ?_
      rintro e w4 ⟨rfl, b4⟩
      go_wp2
      go_ret
      exact ⟨by unfold unkS; rw [HK.out, ho]; rfl, B3.out.trans (b4.mono B3.out.size)⟩
end Go.Proofs.YteidjnmfjkpolaaDoor
