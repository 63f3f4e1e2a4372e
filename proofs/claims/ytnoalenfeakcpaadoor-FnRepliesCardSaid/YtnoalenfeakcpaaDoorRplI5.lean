/- The program's ReplyAt and Replies. -/
import Derived.Test.YtnoalenfeakcpaaDoorRplI4
namespace Go.Proofs.YtnoalenfeakcpaaDoor
open Go.RowKit

/-- What ReplyAt tells. -/
def AtPost (w : World) (o : Option Nat) (e : Ending) (w' : World) : Prop := ((∃ j, o = some j ∧ e = .returned (.tuple #[.int .i64 (j : Int), .bool true])) ∨ (o = none ∧ e = .returned (.tuple #[.int .i64 0, .bool false]))) ∧ Below w.heap.size w w'

set_option maxRecDepth 100000 in
set_option maxHeartbeats 1000000 in
theorem implReplyAt_any (s : ByteArray) (i : Nat) (w : World) (hz : s.size ≤ 1048576) (hi : i ≤ s.size) (hv : RVars w) :
    Calls Tryd.prog 7 #[.string s, .int .i64 (i : Int)] w (AtPost w (rpAt valI s 4 i)) := by
  have HR := hide (reply_any w w.heap.size s hz hv 4 0 rfl (w.alloc (.cells #[.string s, .int .i64 (i : Int)] 44)) i hi ⟨heap_alloc_new w _, Nat.le_refl _, (Below.refl _ _).alloc (Nat.le_refl _) _⟩)
  rw [show (((0 : Nat) : Int)) = 0 from rfl] at HR
  clear hv
  have h0 : decide ((i : Int) < 0) = false := by simp
  have h1 : decide ((s.size : Int) < (i : Int)) = false := by simp; omega
  generalize rpAt valI s 4 i = R at HR
  go_enter Tryd.func7, Tryd.ntmps7
  go_wp2_with fail
  refine (HR.out).mono ?_
  rintro e w1 (⟨j, hj1, hj2, rfl, hp⟩ | ⟨hj1, rfl, j, hj2, hp⟩)
  · have HP := hide hp
    have HJ := hide hj1
    obtain ⟨hc0, hc1, hf1⟩ := rs_cells hp
    clear hp hj1
    go_wp2
    go_ret2
    exact ⟨.inl ⟨j, HJ.out, rfl⟩, HP.out.bel⟩
  · have HP := hide hp
    have HJ := hide hj1
    clear hp hj1
    go_wp2
    go_ret2
    exact ⟨.inr ⟨HJ.out, rfl⟩, HP.out.bel⟩

/-- What Replies leaves. -/
def RplPost (w : World) (o : Option (List ByteArray)) (e : Ending) (w' : World) : Prop :=
  ((∃ L v, o = some L ∧ e = .returned (.tuple #[v, .bool true]) ∧ RowText w' w.heap.size v L) ∨ (o = none ∧ e = .returned (.tuple #[.slice none 0 0, .bool false]))) ∧ Below w.heap.size w w'

theorem rplF_step {V : ByteArray → Option Int} {s : ByteArray} {f i : Nat} (h : i < s.size) : rplF V s (f + 1) i = match rpAt V s 4 i with | none => none | some j => match rplF V s f j with | none => none | some l => some (s.extract i j :: l) := by
  rw [rplF, if_neg (by omega)]
  cases rpAt V s 4 i with
  | none => rfl
  | some j => cases rplF V s f j <;> rfl
theorem rplF_end {V : ByteArray → Option Int} {s : ByteArray} {f i : Nat} (h : s.size ≤ i) : rplF V s f i = some [] := by
  cases f with
  | zero => rfl
  | succ f => rw [rplF, if_pos h]

set_option maxRecDepth 100000 in
set_option maxHeartbeats 2000000 in
theorem implReplies_any (s : ByteArray) (w : World) (hz : s.size ≤ 1000000) (hv : RVars w) :
    Calls Tryd.prog 9 #[.string s] w (RplPost w (rpl valI s)) := by
  have HV := hide hv
  clear hv
  have h0 : decide (1000000 < (s.size : Int)) = false := by simp; omega
  obtain ⟨R, HR⟩ : ∃ R, Hid (rpl valI s = R) := ⟨_, rfl⟩
  rw [HR.out]
  have HR0 : Hid ((rplF valI s (s.size + 1) 0).map ([] ++ ·) = R) := by
    show _ = _
    rw [← HR.out]
    unfold rpl
    cases rplF valI s (s.size + 1) 0 <;> rfl
  clear HR
  go_enter Tryd.func9, Tryd.ntmps9
  go_wp2_with fail
  go_loopw [4, 5] (fun vl ii wr => ∃ (f i : Nat) (acc : List ByteArray), ii = .int .i64 i ∧ i ≤ s.size ∧ s.size < f + i ∧ acc.length ≤ i ∧ Hid ((rplF valI s f i).map (acc ++ ·) = R) ∧ Hid (wr.ownsRow w.heap.size 9 1 vl acc.length (acc.map Value.string)) ∧ Hid (Below w.heap.size w wr)) (fun _ ii _ => s.size - (intOf ii).toNat)
  case atStart => exact ⟨s.size + 1, 0, [], rfl, Nat.zero_le _, by omega, Nat.le_refl _, HR0, World.ownsRow_nil _ _ _ _, Below.refl _ _⟩
  case round =>
    obtain ⟨f, i, acc, rfl, hi, hf, hacc, HA, HO, HB⟩ := hrel
    have hws := HB.out.size
    by_cases hlt : i < s.size
    · have hlt' : decide ((i : Int) < (s.size : Int)) = true := by simp; omega
      obtain ⟨f, rfl⟩ : ∃ k, f = k + 1 := ⟨f - 1, by omega⟩
      have HS := hide (rplF_step (V := valI) (f := f) hlt)
      have HC := hide (implReplyAt_any s i wr (by omega) hi (rvars_below HV.out HB.out))
      have hle := rpAt_le valI s 4 i
      generalize rpAt valI s 4 i = o at HS HC hle
      have HL := hide hle
      clear hle
      obtain ⟨a0, c0, e0⟩ := slice_form HO.out
      subst e0
      go_wp2_with fail
      refine (HC.out).mono ?_
      rintro e w2 ⟨⟨j, rfl, rfl⟩ | ⟨rfl, rfl⟩, b2⟩
      · have hj := HL.out j rfl
        have B2 := hide (HB.out.trans (b2.mono hws))
        have HO2 := hide (ownsRow_below HO.out b2)
        clear b2
        have hj1 := hj.1
        have hj2 := hj.2
        have hcut := cut_at s i j i j (s.extract i j) rfl rfl (by omega) hj2 rfl
        obtain ⟨X, HX⟩ : ∃ X, Hid (s.extract i j = X) := ⟨_, rfl⟩
        have hXz : X.size ≤ 1048576 := by rw [← HX.out, ByteArray.size_extract]; omega
        rw [HX.out] at hcut
        have hw2 := B2.out.size
        have HA2 : Hid ((rplF valI s f j).map ((acc ++ [X]) ++ ·) = R) := by
          show _ = _
          rw [← HA.out, HS.out]
          simp only
          cases rplF valI s f j with
          | none => rfl
          | some l => rw [← HX.out]; simp
        go_wp2_with (first | (go_at_call 26; refine (ownText_any X _ hXz).mono ?_; rintro e w3 ⟨rfl, b3⟩; have B3 := hide (B2.out.trans (b3.mono hw2)); have HO3 := hide (ownsRow_below HO2.out b3); have hw3 := B3.out.size; clear b3) | (at_builtin; refine app_txt _ w.heap.size rfl _ _ rfl _ acc X rfl (HO3.out.alloc _) w3.heap.size rfl (heap_alloc_new w3 _) (by omega) (by simp; omega) ?_; intro g4 cap4 w4 ho4 hb4 hg4 hgg4 hgl4; have HO4 := hide ho4; have HB4 := hide ((B3.out.alloc hw3 _).trans hb4); clear ho4 hb4 hg4))
        go_roundw
        case rel => exact ⟨f, j, acc ++ [X], rfl, hj2, by omega, by simp; omega, HA2, HO4, HB4⟩
        case measure => simp [intOf]; omega
      · have HN : Hid (R = none) := by show _ = _; rw [← HA.out, HS.out]; rfl
        have B2 := hide (HB.out.trans (b2.mono hws))
        clear b2
        go_wp2
        go_ret2
        exact ⟨.inr ⟨HN.out, rfl⟩, B2.out⟩
    · have hlt' : decide ((i : Int) < (s.size : Int)) = false := by simp; omega
      have HN : Hid (R = some acc) := by show _ = _; rw [← HA.out, rplF_end (by omega)]; simp
      obtain ⟨a0, c0, e0⟩ := slice_form HO.out
      subst e0
      go_wp2
      go_ret2
      exact ⟨.inl ⟨acc, _, HN.out, rfl, rowText_own HO.out⟩, HB.out⟩
end Go.Proofs.YtnoalenfeakcpaaDoor
