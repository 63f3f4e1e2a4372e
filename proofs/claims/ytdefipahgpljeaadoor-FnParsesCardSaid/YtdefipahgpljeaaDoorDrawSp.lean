/- A text is spoilt, as it is drawn. -/
import Derived.Test.YtdefipahgpljeaaDoorDrawL
namespace Go.Proofs.YtdefipahgpljeaaDoor
open Go.RowKit

theorem cutHd (s : ByteArray) (n : Nat) (h : n ≤ s.size) : ∃ R : ByteArray, R.size ≤ s.size ∧ ∀ W : World, (Instr.slice 9 (.string s) none (some (.int .i64 (n : Int))) none).run Tryd.prog W = .ok (.string R) W :=
  ⟨s.extract 0 ((n : Int)).toNat, by rw [ByteArray.size_extract]; omega, fun W => by rw [run_slice_string_to_if W 9 s .i64 (n : Int) Tryd.underlying9, if_pos ⟨by omega, by omega⟩]⟩
theorem cutTl (s : ByteArray) (n : Nat) (h : n < s.size) : ∃ R : ByteArray, R.size ≤ s.size ∧ ∀ W : World, (Instr.slice 9 (.string s) (some (.int .i64 ((n : Int) + 1))) none none).run Tryd.prog W = .ok (.string R) W :=
  ⟨s.extract ((n : Int) + 1).toNat s.size, by rw [ByteArray.size_extract]; omega, fun W => by rw [run_slice_string_from_if W 9 s .i64 ((n : Int) + 1) Tryd.underlying9, if_pos ⟨by omega, by omega⟩]⟩

set_option maxRecDepth 100000 in
set_option maxHeartbeats 2000000 in
theorem spoilt_any (w0 w : World) (g : Nat) (ao : Option Addr) (len cap : Nat) (t : ByteArray) (hlen : len ≤ 1048576) (ht : t.size ≤ 9000) (hcode : Code w0 ao len) (hc : CurAt w0 w g ao len cap) :
    Calls Tryd.prog 37 #[.pointer (some ⟨g, 0, none⟩), .string t] w fun e w' => ∃ T : ByteArray, e = .returned (.string T) ∧ T.size ≤ 30000 ∧ CurAt w0 w' g ao len cap ∧ w.grownBy w' (some g) := by
  have HC := hide hcode
  have HU := hide hc
  clear hcode hc
  go_enter Tryd.func37, Tryd.ntmps37
  go_wp2_with fail
  refine (below_any w0 _ g ao len cap _ hlen (by omega) HC.out HU.out).mono ?_
  rintro e w1 ⟨x, rfl, _, _, hc1, g1⟩
  have U1 := hide hc1
  have G1 := hide g1
  clear hc1 g1
  by_cases h0 : x = 0
  · have hy0 : ((x : Int) == 0) = true := by rw [beq_iff_eq]; omega
    clear h0
    go_wp2_with fail
    refine (text_any w0 _ g ao len cap _ hlen (by omega) HC.out U1.out).mono ?_
    rintro e w2 ⟨l, rfl, hl, hc2, g2⟩
    have U2 := hide hc2
    have G2 := hide (grownBy_trans G1.out g2)
    obtain ⟨T, HT⟩ : ∃ T : ByteArray, Hid ((⟨l.toArray⟩ : ByteArray) = T) := ⟨_, hide rfl⟩
    have hTz : T.size ≤ 1 := by rw [← HT.out]; show l.length ≤ 1; omega
    rw [HT.out]
    clear hl hc2 g2
    have hk : ¬ (9223372036854775807 < t.size + T.size) := by omega
    go_wp2
    go_ret
    exact ⟨_, rfl, by rw [ByteArray.size_append]; omega, U2.out, G2.out⟩
  have hn0 : ((x : Int) == 0) = false := by rw [beq_eq_false_iff_ne]; omega
  by_cases h1 : x = 1
  · have hy1 : ((x : Int) == 1) = true := by rw [beq_iff_eq]; omega
    clear h0 h1
    go_wp2_with fail
    refine (below_any w0 _ g ao len cap _ hlen (by omega) HC.out U1.out).mono ?_
    rintro e w2 ⟨y, rfl, hy, _, hc2, g2⟩
    have hy' := hy (by omega)
    have U2 := hide hc2
    have G2 := hide (grownBy_trans G1.out g2)
    obtain ⟨R, hRz, hcut⟩ := cutHd t y (by omega)
    clear hy hc2 g2
    go_wp2
    go_ret
    exact ⟨_, rfl, by omega, U2.out, G2.out⟩
  have hn1 : ((x : Int) == 1) = false := by rw [beq_eq_false_iff_ne]; omega
  by_cases h23 : x = 2 ∨ x = 3
  · have hcase : ((x : Int) == 2) = true ∨ (((x : Int) == 2) = false ∧ ((x : Int) == 3) = true) := by
      rcases h23 with h | h
      · exact .inl (by rw [beq_iff_eq]; omega)
      · exact .inr ⟨by rw [beq_eq_false_iff_ne]; omega, by rw [beq_iff_eq]; omega⟩
    clear h0 h1 h23
    by_cases hz : 0 < t.size
    · have hz' : decide ((0 : Int) < (t.size : Int)) = true := by simp; omega
      rcases hcase with hy2 | ⟨hn2, hy3⟩
      all_goals
        go_wp2_with fail
        refine (below_any w0 _ g ao len cap _ hlen (by omega) HC.out U1.out).mono ?_
        rintro e w2 ⟨y, rfl, hy, _, hc2, g2⟩
        have hy' := hy (by omega)
        have U2 := hide hc2
        have U2d := hide (cur_keep hc2 (Below.refl _ _).drew (cur_lt hc2))
        have G2 := hide (grownBy_trans G1.out g2)
        obtain ⟨R1, hR1, hcut1⟩ := cutHd t y (by omega)
        obtain ⟨R2, hR2, hcut2⟩ := cutTl t y (by omega)
        have hwr : IntKind.i64.wrap ((y : Int) + 1) = (y : Int) + 1 := by rw [IntKind.wrap_i64]; omega
        clear hy hc2 g2
        go_wp2_with fail
        go_region_law ((first | (go_simp; go_at_call 49; refine (text_any w0 _ g ao len cap _ hlen (by omega) HC.out U2d.out).mono ?_; rintro e w3 ⟨l, rfl, hl, hc3, g3⟩; obtain ⟨T, HT⟩ : ∃ T : ByteArray, Hid ((⟨l.toArray⟩ : ByteArray) = T) := ⟨_, hide rfl⟩; have hTz : T.size ≤ 1 := (by rw [← HT.out]; show l.length ≤ 1; omega); rw [HT.out]; have U3 := hide hc3; have G3 : Hid (w.grownBy w3 (some g)) := grownBy_trans G2.out (grownBy_trans (grownBy_below _ (Below.refl _ _).drew) g3); have hk1 : ¬ (9223372036854775807 < R1.size + T.size) := (by omega); have hk2 : ¬ (9223372036854775807 < R1.size + T.size + R2.size) := (by omega); clear hl hc3 g3) | fail))
        all_goals
          go_wp2
          go_ret
          exact ⟨_, rfl, by rw [ByteArray.size_append, ByteArray.size_append]; omega, U3.out, G3.out⟩
    · have hz' : decide ((0 : Int) < (t.size : Int)) = false := by rw [decide_eq_false_iff_not]; omega
      rcases hcase with hy2 | ⟨hn2, hy3⟩
      all_goals
        go_wp2
        go_ret
        exact ⟨_, rfl, by omega, U1.out, G1.out⟩
  · have hn2 : ((x : Int) == 2) = false := by rw [beq_eq_false_iff_ne]; omega
    have hn3 : ((x : Int) == 3) = false := by rw [beq_eq_false_iff_ne]; omega
    clear h0 h1 h23
    go_wp2
    go_ret
    exact ⟨_, rfl, by omega, U1.out, G1.out⟩

end Go.Proofs.YtdefipahgpljeaaDoor
