/- The specification's ReplyAt and Replies. -/
import Derived.Test.YtnoalenfeakcpaaDoorRplS2
namespace Go.Proofs.YtnoalenfeakcpaaDoor
open Go.RowKit

set_option maxRecDepth 100000 in
set_option maxHeartbeats 1000000 in
theorem specReplyAt_any (s : ByteArray) (i : Nat) (w : World) (hz : s.size ≤ 1048576) (hi : i ≤ s.size) :
    Calls Tryd.prog 6 #[.string s, .int .i64 (i : Int)] w (AtPost w (rpAt valS s 4 i)) := by
  have HL := hide (fun W => l01In_val (i : Int) 0 (s.size : Int) true W (by simp; omega))
  have HC : Hid (∀ W, Calls Tryd.prog 24 #[.string s, .int .i64 (i : Int), .int .i64 0] W fun e w' => e = .returned (.int .i64 (encO (rpAt valS s 4 i))) ∧ Below W.heap.size W w') := fun W => l12At_any s hz 4 0 rfl W i hi
  generalize rpAt valS s 4 i = R at HC
  cases R with
  | none =>
    rw [show encO none = -1 from rfl] at HC
    go_enter Tryd.func6, Tryd.ntmps6
    go_wp2_with fail
    refine (HL.out _).mono ?_
    rintro e w1 ⟨rfl, rfl⟩
    go_wp2_with fail
    refine (HC.out _).mono ?_
    rintro e w2 ⟨rfl, b2⟩
    go_wp2
    go_ret2
    exact ⟨.inr ⟨rfl, rfl⟩, b2⟩
  | some j =>
    rw [show encO (some j) = (j : Int) from rfl] at HC
    have hj : decide ((j : Int) < 0) = false := by simp
    go_enter Tryd.func6, Tryd.ntmps6
    go_wp2_with fail
    refine (HL.out _).mono ?_
    rintro e w1 ⟨rfl, rfl⟩
    go_wp2_with fail
    refine (HC.out _).mono ?_
    rintro e w2 ⟨rfl, b2⟩
    go_wp2
    go_ret2
    exact ⟨.inl ⟨j, rfl, rfl⟩, b2⟩

/-- A row without texts. -/
theorem own_none (w : World) (B : Nat) (hB : B ≤ w.heap.size) : (w.alloc (.cells #[] 9)).ownsRow B 9 1 (.slice (some ⟨w.heap.size, 0, none⟩) 0 0) ([] : List ByteArray).length (([] : List ByteArray).map Value.string) :=
  ⟨by simp, .inr ⟨w.heap.size, 0, #[], rfl, hB, heap_alloc_new _ _, Nat.le_refl _, by unfold maxLen; omega, by simp, by simp⟩⟩

/-- What the specification's Replies leaves. -/
def RplPostS (w : World) (o : Option (List ByteArray)) (e : Ending) (w' : World) : Prop :=
  (∃ v, e = .returned (.tuple #[v, .bool o.isSome]) ∧ RowText w' w.heap.size v (o.getD [])) ∧ Below w.heap.size w w'

set_option maxRecDepth 100000 in
set_option maxHeartbeats 2000000 in
theorem specReplies_any (s : ByteArray) (w : World) (hz : s.size ≤ 1000000) :
    Calls Tryd.prog 8 #[.string s] w (RplPostS w (rpl valS s)) := by
  have h0 : decide (1000000 < (s.size : Int)) = false := by simp; omega
  obtain ⟨R, HR⟩ : ∃ R, Hid (rpl valS s = R) := ⟨_, rfl⟩
  rw [HR.out]
  have HR0 : Hid ((rplF valS s (s.size + 1) 0).map ([] ++ ·) = R) := by
    show _ = _
    rw [← HR.out]
    unfold rpl
    cases rplF valS s (s.size + 1) 0 <;> rfl
  clear HR
  go_enter Tryd.func8, Tryd.ntmps8
  go_wp2_with fail
  go_loopw [4, 5] (fun vl ii wr => ∃ (f i : Nat) (acc : List ByteArray), ii = .int .i64 i ∧ i ≤ s.size ∧ s.size < f + i ∧ acc.length ≤ i ∧ Hid ((rplF valS s f i).map (acc ++ ·) = R) ∧ Hid (wr.ownsRow w.heap.size 9 1 vl acc.length (acc.map Value.string)) ∧ Hid (Below w.heap.size w wr)) (fun _ ii _ => s.size - (intOf ii).toNat)
  case atStart => exact ⟨s.size + 1, 0, [], rfl, Nat.zero_le _, by omega, Nat.le_refl _, HR0, own_none w _ (Nat.le_refl _), (Below.refl _ w).alloc (Nat.le_refl _) _⟩
  case round =>
    obtain ⟨f, i, acc, rfl, hi, hf, hacc, HA, HO, HB⟩ := hrel
    have hws := HB.out.size
    by_cases hlt : i < s.size
    · have hlt' : decide ((i : Int) < (s.size : Int)) = true := by simp; omega
      obtain ⟨f, rfl⟩ : ∃ k, f = k + 1 := ⟨f - 1, by omega⟩
      have HS := hide (rplF_step (V := valS) (f := f) hlt)
      have HC := hide (specReplyAt_any s i wr (by omega) hi)
      have hle := rpAt_le valS s 4 i
      generalize rpAt valS s 4 i = o at HS HC hle
      have HL := hide hle
      clear hle
      obtain ⟨a0, c0, e0⟩ := slice_form HO.out
      subst e0
      go_wp2_with fail
      refine (HC.out).mono ?_
      rintro e w2 ⟨⟨j, rfl, rfl⟩ | ⟨rfl, rfl⟩, b2⟩
      · have hj := HL.out j rfl
        have B2 := hide (HB.out.trans (b2.mono hws))
        have HO2 := hide (ownsRow_below HO.out b2)
        clear b2
        have hj1 := hj.1
        have hj2 := hj.2
        have hcut := cut_at s i j i j (s.extract i j) rfl rfl (by omega) hj2 rfl
        obtain ⟨X, HX⟩ : ∃ X, Hid (s.extract i j = X) := ⟨_, rfl⟩
        rw [HX.out] at hcut
        have hw2 := B2.out.size
        have HA2 : Hid ((rplF valS s f j).map ((acc ++ [X]) ++ ·) = R) := by
          show _ = _
          rw [← HA.out, HS.out]
          simp only
          cases rplF valS s f j with
          | none => rfl
          | some l => rw [← HX.out]; simp
        go_wp2_with (at_builtin; refine app_txt _ w.heap.size rfl _ _ rfl _ acc X rfl (HO2.out.alloc _) w2.heap.size rfl (heap_alloc_new w2 _) (by omega) (by simp; omega) ?_; intro g4 cap4 w4 ho4 hb4 hg4 hgg4 hgl4; have HO4 := hide ho4; have HB4 := hide ((B2.out.alloc hw2 _).trans hb4); clear ho4 hb4 hg4)
        go_roundw
        case rel => exact ⟨f, j, acc ++ [X], rfl, hj2, by omega, by simp; omega, HA2, HO4, HB4⟩
        case measure => simp [intOf]; omega
      · have HN : Hid (R = none) := by show _ = _; rw [← HA.out, HS.out]; rfl
        have B2 := hide (HB.out.trans (b2.mono hws))
        have hw2 := B2.out.size
        clear b2
        go_wp2
        go_ret2
        rw [HN.out]
        exact ⟨⟨_, rfl, rowText_own (own_none w2 _ hw2)⟩, B2.out.alloc hw2 _⟩
    · have hlt' : decide ((i : Int) < (s.size : Int)) = false := by simp; omega
      have HN : Hid (R = some acc) := by show _ = _; rw [← HA.out, rplF_end (by omega)]; simp
      obtain ⟨a0, c0, e0⟩ := slice_form HO.out
      subst e0
      go_wp2
      go_ret2
      rw [HN.out]
      exact ⟨⟨_, rfl, rowText_own HO.out⟩, HB.out⟩
end Go.Proofs.YtnoalenfeakcpaaDoor
