/- The program's ReadSegment. -/
import Derived.Test.YtomdpkahcbnlnabDoorSegI1
namespace Go.Proofs.YtomdpkahcbnlnabDoor
open Go.RowKit Go.Shelf

theorem cut_from (s : ByteArray) (a : Nat) (ai : Int) (R : ByteArray) (ha : ai = a) (h2 : a ≤ s.size) (hR : s.extract a s.size = R) :
    ∀ W : World, (Instr.slice 9 (.string s) (some (.int .i64 ai)) none none).run Tryd.prog W = .ok (.string R) W := by
  intro W
  subst ha hR
  rw [run_slice_string_from_if W 9 s .i64 (a : Int) Tryd.underlying9, if_pos (by omega), Int.toNat_natCast]

theorem readHead_none {n : Int} {s : ByteArray} (h : hdOf n s = none) (w : World) (hs : s.size ≤ 1048576) (hT : SumTab w) : Calls Tryd.prog 14 #[.int .i64 n, .string s] w fun e w' => e = .returned (.tuple #[.int .i64 0, .int .i64 0, .bool false]) ∧ Below w.heap.size w w' := by
  have := readHead_any n s w hs hT
  rw [h] at this
  exact this
theorem readHead_some {n : Int} {s : ByteArray} {f p : Nat} (h : hdOf n s = some (f, p)) (w : World) (hs : s.size ≤ 1048576) (hT : SumTab w) : Calls Tryd.prog 14 #[.int .i64 n, .string s] w fun e w' => e = .returned (.tuple #[.int .i64 (f : Int), .int .i64 (p : Int), .bool true]) ∧ Below w.heap.size w w' := by
  have := readHead_any n s w hs hT
  rw [h] at this
  exact this
theorem hdOf_none {n : Int} {s : ByteArray} (h : hdOf n s = none) : segRead n s = none := by
  cases hu : unf s with
  | nil => exact segRead_nil hu
  | cons x r =>
    unfold hdOf at h
    rw [hu] at h
    refine segRead_head hu ?_
    simpa using h
theorem hdOf_some {n : Int} {s : ByteArray} {f p : Nat} (h : hdOf n s = some (f, p)) : ∃ x r, unf s = x :: r ∧ hdFrom n (s.extract x.1 x.2) = some f ∧ p = x.2 := by
  cases hu : unf s with
  | nil => unfold hdOf at h; rw [hu] at h; simp at h
  | cons x r =>
    unfold hdOf at h
    rw [hu] at h
    simp only [Option.map_eq_some_iff, Prod.mk.injEq] at h
    obtain ⟨f', h1, rfl, rfl⟩ := h
    exact ⟨x, r, rfl, h1, rfl⟩

theorem ris_end_le (s : ByteArray) (m : Nat) : ∀ (l : List (Nat × Nat)) (last : Int) (e : Nat), (∀ x ∈ l, x.2 ≤ m) → e ≤ m → (ris s l last e).2 ≤ m
  | [], _, _, _, h => h
  | x :: r, last, e, hl, h => by
    by_cases hc : rdOk (s.extract x.1 x.2) = true ∧ last < rdSeq (s.extract x.1 x.2)
    · rw [ris_more hc.1 hc.2]
      exact ris_end_le s m r _ _ (fun y hy => hl y (List.mem_cons_of_mem _ hy)) (hl x (List.mem_cons_self ..))
    · rw [ris_no hc]
      exact h

set_option maxRecDepth 100000 in
set_option maxHeartbeats 800000 in
theorem implReadSegment_any (n : Int) (s : ByteArray) (w : World) (hs : s.size ≤ 1048576) (hT : SumTab w) : Calls Tryd.prog 6 #[.int .i64 n, .string s] w (SegLeft n s w) := by
  have HT := hide hT
  clear hT
  cases hd : hdOf n s with
  | none =>
    have HE := hide (hdOf_none hd)
    have HH := hide (fun W hW => readHead_none hd W hs hW)
    clear hd
    go_enter Tryd.func6, Tryd.ntmps6
    go_wp2_with fail
    refine (HH.out _ HT.out).mono ?_
    rintro e w1 ⟨rfl, b1⟩
    go_wp2_with fail
    refine bodyPost_ret (v := .tuple #[.int .i64 0, .slice none 0 0, .int .i64 0, .bool false]) ?_ rfl ?_
    · simp [results, Tryd.results6, go_sem]
    · exact segLeft_none HE.out b1 (.inl ⟨rfl, rfl⟩)
  | some y =>
    obtain ⟨f, p⟩ := y
    obtain ⟨x, r, hu, hf, hp⟩ := hdOf_some hd
    have HH := hide (fun W hW => readHead_some hd W hs hW)
    obtain ⟨hfr, ht1, ht2⟩ := seg_tail hu (-1)
    have hb := frB_bounds s 0 x hfr
    have hs2 : s.size ≤ 20000 := by
      apply Decidable.byContradiction
      intro hn
      unfold unf at hu
      rw [if_neg hn] at hu
      simp at hu
    have HE := hide (segRead_some (n := n) hu hf)
    subst hp
    obtain ⟨T, hTT⟩ : ∃ T, s.extract x.2 s.size = T := ⟨_, rfl⟩
    have hTz : T.size ≤ 20000 := by rw [← hTT, ByteArray.size_extract]; omega
    have hcut := cut_from s x.2 (x.2 : Int) T rfl hb.2.2 hTT
    rw [hTT] at ht1 ht2
    have H1 := hide ht1
    have H2 := hide ht2
    have HR := hide (fun W hW => rising_any T W hTz hW)
    clear hd hu hf hfr ht1 ht2 hTT
    obtain ⟨er, HER⟩ : ∃ er : Nat, Hid ((ris T (frs T (T.size + 1) 0) (-1) 0).2 = er) := ⟨_, rfl⟩
    have her : er ≤ T.size := by
      rw [← HER.out]
      exact ris_end_le T T.size _ (-1) 0 (fun y hy => (frs_in T _ _ y hy).2.2) (Nat.zero_le _)
    go_enter Tryd.func6, Tryd.ntmps6
    go_wp2_with fail
    refine (HH.out _ HT.out).mono ?_
    rintro e w1 ⟨rfl, b1⟩
    have B1 := hide b1
    clear b1
    go_wp2_with fail
    refine (HR.out _ (sumTab_later B1.out HT.out)).mono ?_
    rintro e w2 ⟨⟨v, rfl, hv⟩, b2⟩
    have B2 := hide (B1.out.trans (b2.mono B1.out.size))
    have HV := hide (rowBatch_le hv B1.out.size)
    clear hv b2
    rw [HER.out]
    go_wp2_with fail
    refine bodyPost_ret (v := .tuple #[.int .i64 (f : Int), v, .int .i64 ((x.2 : Int) + (er : Int)), .bool true]) ?_ rfl ?_
    · simp [results, Tryd.results6, go_sem]
    · have h := segLeft_some (v := v) (w := w) (w' := w2) HE.out B2.out (by rw [← H1.out]; exact HV.out)
      rw [← H2.out, HER.out] at h
      rw [show ((x.2 + er : Nat) : Int) = (x.2 : Int) + (er : Int) from by omega] at h
      exact h
end Go.Proofs.YtomdpkahcbnlnabDoor
