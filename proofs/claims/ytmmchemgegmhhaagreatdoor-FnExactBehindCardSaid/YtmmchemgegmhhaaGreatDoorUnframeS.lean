/- The records of the frames that a file begins with: the specification's. -/
import Derived.Test.YtmmchemgegmhhaaGreatDoorFrameS
import Derived.Test.YtmmchemgegmhhaaGreatDoorReadS
import Derived.Test.YtmmchemgegmhhaaGreatDoorAppStr
import Derived.Test.YtmmchemgegmhhaaGreatDoorCutAt
namespace Go.Proofs.YtmmchemgegmhhaaGreatDoor
open Go.RowKit

/-- What is left by a call: the records in memory of its own, and the place behind the last. -/
def FramesLeft (s : ByteArray) (w : World) (e : Ending) (w' : World) : Prop :=
  ∃ v, e = .returned (.tuple #[v, .int .i64 (endOf (unf s) : Nat)]) ∧ w'.ownsRow w.heap.size 9 1 v (recs s (unf s)).length ((recs s (unf s)).map sv) ∧ Below w.heap.size w w'

theorem unf_long (s : ByteArray) (h : 20000 < s.size) : unf s = [] := by unfold unf; rw [if_neg (by omega)]
theorem unf_in (s : ByteArray) (h : s.size ≤ 20000) : unf s = frs s (s.size + 1) 0 := by unfold unf; rw [if_pos h]

theorem specUnframe_long (s : ByteArray) (w : World) (hs : s.size ≤ 1048576) (h : 20000 < s.size) : Calls Tryz.prog 102 #[.string s] w (FramesLeft s w) := by
  have h' : decide (20000 < (s.size : Int)) = true := by simp; omega
  have hu := hide (unf_long s h)
  go_enter Tryz.func102, Tryz.ntmps102
  go_wp2
  go_ret2
  refine ⟨_, by rw [hu.out]; rfl, ?_, (Below.refl _ _).alloc (Nat.le_refl _) _⟩
  rw [hu.out]
  exact World.ownsRow_lit w #[] 0 (Nat.le_refl _) (by unfold maxLen; omega) (by simp)

/-- Where no frame stands any more, all have come. -/
theorem frames_done {s : ByteArray} {pre : List (Nat × Nat)} {f i : Nat} (hs : s.size ≤ 20000) (h : frs s (s.size + 1) 0 = pre ++ frs s f i) (hn : frB s i = none) : unf s = pre := by
  rw [unf_in s hs, h, frs_none s f i hn, List.append_nil]

theorem frames_left {s : ByteArray} {w wr : World} {v : Value} {pre : List (Nat × Nat)} {i : Int} (hu : unf s = pre) (hi : i = (endOf pre : Nat)) (hown : wr.ownsRow w.heap.size 9 1 v (recs s pre).length ((recs s pre).map sv)) (hb : Below w.heap.size w wr) :
    FramesLeft s w (.returned (.tuple #[v, .int .i64 i])) wr := by
  subst hi hu
  exact ⟨v, rfl, hown, hb⟩

set_option maxRecDepth 100000 in
set_option maxHeartbeats 2000000 in
theorem specUnframe_in (s : ByteArray) (w : World) (hs : s.size ≤ 20000) : Calls Tryz.prog 102 #[.string s] w (FramesLeft s w) := by
  have h' : decide (20000 < (s.size : Int)) = false := by simp; omega
  go_enter Tryz.func102, Tryz.ntmps102
  go_wp2
  go_loopw [4, 5] (fun o a wr => ∃ (pre : List (Nat × Nat)) (f i : Nat), a = .int .i64 i ∧ i ≤ s.size ∧ Hid ((i : Int) = (endOf pre : Nat)) ∧ Hid (frs s (s.size + 1) 0 = pre ++ frs s f i) ∧ s.size < f + i ∧ (recs s pre).length ≤ 20001 ∧ wr.ownsRow w.heap.size 9 1 o (recs s pre).length ((recs s pre).map sv) ∧ Below w.heap.size w wr) (fun _ a _ => s.size - (intOf a).toNat)
  case atStart =>
    exact ⟨[], s.size + 1, 0, rfl, Nat.zero_le _, rfl, rfl, by omega, by simp [recs], World.ownsRow_lit w #[] 0 (Nat.le_refl _) (by unfold maxLen; omega) (by simp), (Below.refl _ _).alloc (Nat.le_refl _) _⟩
  case round =>
    obtain ⟨pre, f, i, rfl, hi, hend, hall, hfuel, hpl, hown, hb⟩ := hrel
    have hbs := hb.size
    by_cases hlt : i < s.size
    · cases hr : Wd.rv s i with
      | none =>
        have hdone := hide (frames_done hs hall.out (frB_num s i hr))
        have hread := hide (fun W => specRead_none s (i : Int) W (by omega) (by unfold Wd.rvI; rw [if_neg (by omega), Int.toNat_natCast]; exact hr))
        clear hr
        go_wp2_with (first | (go_at_call 147; refine (hread.out _).mono ?_; rintro e w1 ⟨rfl, b1⟩))
        go_ret2
        exact frames_left hdone.out hend.out (ownsRow_below hown b1) (hb.trans (b1.mono hbs))
      | some q =>
        obtain ⟨n, p⟩ := q
        have hbd := Wd.rv_bounds s i n p hr
        have hread := hide (fun W => specRead_some s (i : Int) W n p (by omega) (by unfold Wd.rvI; rw [if_neg (by omega), Int.toNat_natCast]; exact hr))
        by_cases c3 : p + 4 + n ≤ s.size
        · have hle : decide ((s.size : Int) - (p : Int) - 4 < (n : Int)) = false := by simp; omega
          obtain ⟨R, hR⟩ : ∃ R, s.extract (p + 4) (p + 4 + n) = R := ⟨_, rfl⟩
          obtain ⟨T, hTx⟩ : ∃ T, s.extract i (p + 4 + n) = T := ⟨_, rfl⟩
          have hRz : R.size = n := by rw [← hR, ByteArray.size_extract]; omega
          have hcut1 := cut_at s (p + 4) (p + 4 + n) ((p : Int) + 4) ((p : Int) + 4 + n) R (by omega) (by omega) (by omega) c3 hR
          have hcut2 := cut_at s i (p + 4 + n) (i : Int) ((p : Int) + 4 + n) T rfl (by omega) (by omega) c3 hTx
          have htest := frame_test s i n p hr c3
          rw [hR, hTx] at htest
          by_cases c12 : 1 ≤ n ∧ n ≤ 9000
          · have hF := hide (fun W => specFrame_yes R W (by omega) (by omega))
            by_cases c4 : frameB R = T
            · have hfr := frB_yes s i n p hr ⟨c12.1, c12.2, c3, by rw [hR]; exact htest.1 c4⟩
              have hsame := txt_eq c4
              cases f with
              | zero => omega
              | succ f =>
                have hall' := hide (show frs s (s.size + 1) 0 = (pre ++ [(p + 4, p + 4 + n)]) ++ frs s f (p + 4 + n) by rw [hall.out, frs_some s f i _ hfr, List.append_assoc]; rfl)
                have hrec := hide (recs_snoc s pre (p + 4, p + 4 + n))
                have HR := hide hR
                have hlen' : (pre ++ [(p + 4, p + 4 + n)]).length ≤ s.size + 1 := by
                  have e := congrArg List.length hall'.out
                  rw [List.length_append] at e
                  have := frs_len s (s.size + 1) 0
                  omega
                clear hr htest c4 hR hTx hfr
                go_wp2_with (first | (go_at_call 147; refine (hread.out _).mono ?_; rintro e w1 ⟨rfl, b1⟩) | (go_at_call 67; refine (hF.out _).mono ?_; rintro e w2 ⟨rfl, b2⟩; have bb := hb.trans (b1.mono hbs)) | (at_builtin; refine app_str _ w w.heap.size rfl _ _ rfl _ (recs s pre) rfl (ownsRow_below (ownsRow_below hown b1) b2) rfl (by omega) (bb.trans (b2.mono bb.size)) (Nat.le_trans bb.size b2.size) ?_; intro v' w4 hown4 hb4 hs4))
                go_roundw
                case rel =>
                  refine ⟨pre ++ [(p + 4, p + 4 + n)], f, p + 4 + n, by go_num, c3, ?_, hall', by omega, by rw [recs_len]; omega, ?_, hb4⟩
                  · rw [endOf_snoc]; rfl
                  · rw [hrec.out, HR.out]; exact hown4
                case measure => simp [intOf]; omega
            · have hfr := frB_no s i n p hr (fun hc => c4 (htest.2 (by have := hc.2.2.2; rw [hR] at this; exact this)))
              have hdone := hide (frames_done hs hall.out hfr)
              have hsame := txt_ne c4
              clear hr htest c4 hR hTx hfr
              go_wp2_with (first | (go_at_call 147; refine (hread.out _).mono ?_; rintro e w1 ⟨rfl, b1⟩) | (go_at_call 67; refine (hF.out _).mono ?_; rintro e w2 ⟨rfl, b2⟩; have bb := hb.trans (b1.mono hbs)))
              go_ret2
              exact frames_left hdone.out hend.out (ownsRow_below (ownsRow_below hown b1) b2) (bb.trans (b2.mono bb.size))
          · have hfr := frB_no s i n p hr (fun hc => c12 ⟨hc.1, hc.2.1⟩)
            have hdone := hide (frames_done hs hall.out hfr)
            have hF := hide (fun W => specFrame_no R W (by omega))
            clear hr htest hR hTx hfr
            go_wp2_with (first | (go_at_call 147; refine (hread.out _).mono ?_; rintro e w1 ⟨rfl, b1⟩) | (go_at_call 67; refine (hF.out _).mono ?_; rintro e w2 ⟨rfl, rfl⟩))
            go_ret2
            exact frames_left hdone.out hend.out (ownsRow_below hown b1) (hb.trans (b1.mono hbs))
        · have hle : decide ((s.size : Int) - (p : Int) - 4 < (n : Int)) = true := by simp; omega
          have hdone := hide (frames_done hs hall.out (frB_no s i n p hr (fun hc => c3 hc.2.2.1)))
          clear hr
          go_wp2_with (first | (go_at_call 147; refine (hread.out _).mono ?_; rintro e w1 ⟨rfl, b1⟩))
          go_ret2
          exact frames_left hdone.out hend.out (ownsRow_below hown b1) (hb.trans (b1.mono hbs))
    · have hdone := hide (frames_done hs hall.out (frB_num s i (Wd.rv_at_end s i (by omega))))
      go_wp2
      go_ret2
      exact frames_left hdone.out hend.out hown hb

theorem specUnframe_any (s : ByteArray) (w : World) (hs : s.size ≤ 1048576) : Calls Tryz.prog 102 #[.string s] w (FramesLeft s w) := by
  by_cases h : s.size ≤ 20000
  · exact specUnframe_in s w h
  · exact specUnframe_long s w hs (by omega)
end Go.Proofs.YtmmchemgegmhhaaGreatDoor
