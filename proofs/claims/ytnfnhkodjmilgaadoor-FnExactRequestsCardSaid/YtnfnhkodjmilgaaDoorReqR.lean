/- Requests: all requests that bytes begin with, on both sides. -/
import Derived.Test.YtnfnhkodjmilgaaDoorLawParse
import Derived.Test.YtnfnhkodjmilgaaDoorRowsL
namespace Go.Proofs.YtnfnhkodjmilgaaDoor
open Go.RowKit

/-- The requests from a place on: what they are, others ahead of them; the place behind them; whether what follows can be none. -/
def reqsF (s : ByteArray) : Nat → Nat → List (List ByteArray) → List (List ByteArray) × Nat × Bool
  | 0, i, acc => (acc, i, false)
  | f + 1, i, acc => if (parse (s.extract i s.size)).1 = 1 then reqsF s f (i + (parse (s.extract i s.size)).2.1) (acc ++ [(parse (s.extract i s.size)).2.2]) else (acc, i, decide ((parse (s.extract i s.size)).1 = 2))
def reqs (s : ByteArray) : List (List ByteArray) × Nat × Bool := reqsF s (s.size + 1) 0 []
theorem reqsF_facts (s : ByteArray) : ∀ f i acc, i ≤ s.size → acc.length ≤ i → (∀ x ∈ acc, x.length ≤ 8) → (reqsF s f i acc).2.1 ≤ s.size ∧ (reqsF s f i acc).1.length ≤ s.size ∧ ∀ x ∈ (reqsF s f i acc).1, x.length ≤ 8
  | 0, i, acc, h, h1, h2 => ⟨h, Nat.le_trans h1 h, h2⟩
  | f + 1, i, acc, h, h1, h2 => by
    rw [reqsF]
    have hp := parse_facts (s.extract i s.size)
    rw [ByteArray.size_extract] at hp
    split
    · rename_i hc
      have hp1 := hp.2.2.2.2 hc
      refine reqsF_facts s f _ _ (by omega) (by simp; omega) ?_
      intro x hx
      rcases List.mem_append.1 hx with hx | hx
      · exact h2 x hx
      · obtain rfl : x = (parse (s.extract i s.size)).2.2 := by simpa using hx
        exact hp.2.2.1
    · exact ⟨h, Nat.le_trans h1 h, h2⟩
theorem reqs_facts (s : ByteArray) : (reqs s).2.1 ≤ s.size ∧ (reqs s).1.length ≤ s.size ∧ ∀ x ∈ (reqs s).1, x.length ≤ 8 :=
  reqsF_facts s _ 0 [] (Nat.zero_le _) (Nat.zero_le _) (fun _ h => absurd h List.not_mem_nil)
theorem cutR_from (s : ByteArray) (a : Nat) (ai : Int) (R : ByteArray) (ha : ai = a) (h2 : a ≤ s.size) (hR : s.extract a s.size = R) :
    ∀ W : World, (Instr.slice 9 (.string s) (some (.int .i64 ai)) none none).run Tryd.prog W = .ok (.string R) W := by
  intro W
  subst ha hR
  rw [run_slice_string_from_if W 9 s .i64 (a : Int) Tryd.underlying9, if_pos (by omega), Int.toNat_natCast]

/-- What a call of Requests leaves. -/
def ReqsLeft (R : List (List ByteArray) × Nat × Bool) (w : World) (e : Ending) (w' : World) : Prop :=
  Below w.heap.size w w' ∧ ∃ v, e = .returned (.tuple #[v, .int .i64 (R.2.1 : Int), .bool R.2.2]) ∧ RowTT w' w.heap.size v R.1

theorem reqsF_yes {s T : ByteArray} {f i p : Nat} {acc : List (List ByteArray)} {L : List ByteArray} (hT : s.extract i s.size = T) (h1 : (parse T).1 = 1) (h2 : (parse T).2.1 = p) (h3 : (parse T).2.2 = L) : reqsF s (f + 1) i acc = reqsF s f (i + p) (acc ++ [L]) := by
  rw [reqsF, hT, if_pos h1, h2, h3]
theorem reqsF_no {s T : ByteArray} {f i c : Nat} {acc : List (List ByteArray)} (hT : s.extract i s.size = T) (h1 : (parse T).1 = c) (hc : c ≠ 1) : reqsF s (f + 1) i acc = (acc, i, decide (c = 2)) := by
  rw [reqsF, hT, h1, if_neg hc]
/-- What one round knows of the bytes that are left. -/
theorem rest_ways (s : ByteArray) (i : Nat) (hi : i ≤ s.size) : ∃ (T : ByteArray) (c p : Nat) (L : List ByteArray), Hid (s.extract i s.size = T) ∧ T.size = s.size - i ∧ Hid ((parse T).1 = c) ∧ Hid ((parse T).2.1 = p) ∧ Hid ((parse T).2.2 = L) ∧ c ≤ 2 ∧ i + p ≤ s.size ∧ L.length ≤ 8 ∧ (c = 1 → 0 < p) := by
  have hp := parse_facts (s.extract i s.size)
  have hz : (s.extract i s.size).size = s.size - i := by rw [ByteArray.size_extract]; omega
  rw [hz] at hp
  exact ⟨_, _, _, _, rfl, hz, rfl, rfl, rfl, hp.1, by omega, hp.2.2.1, hp.2.2.2.2⟩

set_option maxRecDepth 100000 in
set_option maxHeartbeats 1000000 in
theorem implReqs_any (s : ByteArray) (m : Int) (w : World) (hz : s.size ≤ 1048576) (hm : MaxL w m) : Calls Tryd.prog 16 #[.string s] w (ReqsLeft (reqs s) w) := by
  have HM := hide hm
  have hw0 : 1 < w.heap.size := hm.2
  clear hm
  obtain ⟨R, HR⟩ : ∃ R, Hid (reqs s = R) := ⟨_, rfl⟩
  rw [HR.out]
  go_enter Tryd.func16, Tryd.ntmps16
  go_wp2
  go_loopw [5, 6] (fun vv ii wr => ∃ (i f : Nat) (acc : List (List ByteArray)) (a : Option Addr) (c : Nat), vv = .slice a acc.length c ∧ ii = .int .i64 i ∧ i ≤ s.size ∧ acc.length ≤ i ∧ s.size - i < f ∧ Hid (reqsF s f i acc = R) ∧ Hid (BuildT wr w.heap.size (.slice a acc.length c) acc) ∧ Hid (Below w.heap.size w wr)) (fun _ ii _ => s.size - (intOf ii).toNat)
  case atStart => exact ⟨0, s.size + 1, [], _, _, rfl, rfl, Nat.zero_le _, Nat.zero_le _, by omega, HR.out, buildT_nil _ _, Below.refl _ _⟩
  case round =>
    obtain ⟨i, f, acc, a, c, rfl, rfl, hi, hal, hf, HF, HBd, HB⟩ := hrel
    obtain ⟨f, rfl⟩ : ∃ f', f = f' + 1 := ⟨f - 1, by omega⟩
    obtain ⟨T, st, p, L, HT, hTz, H1, H2, H3, hst, hpz, hL8, hp0⟩ := rest_ways s i hi
    have hcut := cutR_from s i (i : Int) T rfl hi HT.out
    have CP := (implParse_any T m wr (by omega) (maxL_below HM.out hw0 HB.out)).mono (fun e w' => tells_of)
    rw [H1.out, H2.out, H3.out] at CP
    have HCP := hide CP
    clear CP
    have hws := HB.out.size
    by_cases hc1 : st = 1
    · subst hc1
      have hp := hp0 rfl
      have HN := HF.out
      rw [reqsF_yes HT.out H1.out H2.out H3.out] at HN
      have HNX := hide HN
      clear HN HF hp0
      have hne : (((1 : Nat) : Int) != 1) = false := by decide
      go_wp2_with fail
      refine HCP.out.mono ?_
      rintro e w1 ⟨b1, ao1, cap1, rfl, r1⟩
      have R1 := hide r1
      have B1 := hide b1
      have s1 := b1.size
      clear r1 b1
      go_wp2_with (at_builtin; refine app_row wr _ w.heap.size (by rfl) _ _ (by rfl) _ (.slice ao1 L.length cap1) acc L (by rfl) HBd.out hws (B1.out.alloc B1.out.size _) (rowText_below R1.out ((Below.refl _ w1).alloc (Nat.le_refl _) _)) w1.heap.size (by simp [Act.eval]) (heap_alloc_new w1 _) (by omega) ?_; intro g5 cap5 w5 ho5 hb5 hgr5; have HO5 := hide ho5; have HB5 := hide ((((HB.out.trans (B1.out.mono hws)).alloc (by omega) _)).trans hb5); clear ho5 hb5 hgr5)
      go_roundw
      case rel => exact ⟨i + p, f, acc ++ [L], some ⟨g5, 0, none⟩, cap5, by simp, by go_num, hpz, by simp; omega, by omega, HNX, by rw [List.length_append]; exact HO5.out, HB5⟩
      case measure => simp [intOf]; omega
    · have hcn : ((st : Int) != 1) = true := by simp; omega
      have HN := HF.out
      rw [reqsF_no HT.out H1.out hc1] at HN
      have HNX := hide HN
      clear HN HF hp0
      have h2 : ((st : Int) == 2) = decide (st = 2) := by
        rw [Bool.eq_iff_iff, beq_iff_eq, decide_eq_true_eq]
        omega
      go_wp2_with fail
      refine HCP.out.mono ?_
      rintro e w1 ⟨b1, ao1, cap1, rfl, r1⟩
      have B1 := hide b1
      clear r1 b1
      go_wp2
      go_ret3
      rw [← HNX.out]
      exact ⟨HB.out.trans (B1.out.mono hws), _, rfl, buildT_row (buildT_below HBd.out B1.out)⟩

set_option maxRecDepth 100000 in
set_option maxHeartbeats 1000000 in
theorem specReqs_any (s : ByteArray) (w : World) (hz : s.size ≤ 1048576) : Calls Tryd.prog 15 #[.string s] w (ReqsLeft (reqs s) w) := by
  obtain ⟨R, HR⟩ : ∃ R, Hid (reqs s = R) := ⟨_, rfl⟩
  rw [HR.out]
  go_enter Tryd.func15, Tryd.ntmps15
  go_wp2
  go_loopw [5, 6] (fun vv ii wr => ∃ (i f : Nat) (acc : List (List ByteArray)) (a : Option Addr) (c : Nat), vv = .slice a acc.length c ∧ ii = .int .i64 i ∧ i ≤ s.size ∧ acc.length ≤ i ∧ s.size - i < f ∧ Hid (reqsF s f i acc = R) ∧ Hid (BuildT wr w.heap.size (.slice a acc.length c) acc) ∧ Hid (Below w.heap.size w wr)) (fun _ ii _ => s.size - (intOf ii).toNat)
  case atStart => exact ⟨0, s.size + 1, [], _, _, rfl, rfl, Nat.zero_le _, Nat.zero_le _, by omega, HR.out, buildT_lit _ _ (Nat.le_refl _), (Below.refl _ w).alloc (Nat.le_refl _) _⟩
  case round =>
    obtain ⟨i, f, acc, a, c, rfl, rfl, hi, hal, hf, HF, HBd, HB⟩ := hrel
    obtain ⟨f, rfl⟩ : ∃ f', f = f' + 1 := ⟨f - 1, by omega⟩
    obtain ⟨T, st, p, L, HT, hTz, H1, H2, H3, hst, hpz, hL8, hp0⟩ := rest_ways s i hi
    by_cases hend : i < s.size
    rotate_left
    · have hi' : decide ((i : Int) < (s.size : Int)) = false := by simp; omega
      have hT0 : st = 0 := by
        have : (parse T).1 = 0 := by unfold parse; rw [if_pos (by omega)]
        rw [← H1.out, this]
      have HN := HF.out
      rw [reqsF_no HT.out H1.out (by omega), hT0] at HN
      have HNX := hide HN
      clear HN HF hp0
      go_wp2
      go_ret3
      rw [← HNX.out]
      exact ⟨HB.out, _, rfl, buildT_row HBd.out⟩
    have hi' : decide ((i : Int) < (s.size : Int)) = true := by simp; omega
    have hcut := cutR_from s i (i : Int) T rfl hi HT.out
    have CP := (specParse_any T wr (by omega)).mono (fun e w' => tells_of)
    rw [H1.out, H2.out, H3.out] at CP
    have HCP := hide CP
    clear CP
    have hws := HB.out.size
    by_cases hc1 : st = 1
    · subst hc1
      have hp := hp0 rfl
      have HN := HF.out
      rw [reqsF_yes HT.out H1.out H2.out H3.out] at HN
      have HNX := hide HN
      clear HN HF hp0
      have hne : (((1 : Nat) : Int) != 1) = false := by decide
      go_wp2_with fail
      refine HCP.out.mono ?_
      rintro e w1 ⟨b1, ao1, cap1, rfl, r1⟩
      have R1 := hide r1
      have B1 := hide b1
      have s1 := b1.size
      clear r1 b1
      go_wp2_with (at_builtin; refine app_row wr _ w.heap.size (by rfl) _ _ (by rfl) _ (.slice ao1 L.length cap1) acc L (by rfl) HBd.out hws (B1.out.alloc B1.out.size _) (rowText_below R1.out ((Below.refl _ w1).alloc (Nat.le_refl _) _)) w1.heap.size (by simp [Act.eval]) (heap_alloc_new w1 _) (by omega) ?_; intro g5 cap5 w5 ho5 hb5 hgr5; have HO5 := hide ho5; have HB5 := hide ((((HB.out.trans (B1.out.mono hws)).alloc (by omega) _)).trans hb5); clear ho5 hb5 hgr5)
      go_roundw
      case rel => exact ⟨i + p, f, acc ++ [L], some ⟨g5, 0, none⟩, cap5, by simp, by go_num, hpz, by simp; omega, by omega, HNX, by rw [List.length_append]; exact HO5.out, HB5⟩
      case measure => simp [intOf]; omega
    · have hcn : ((st : Int) != 1) = true := by simp; omega
      have HN := HF.out
      rw [reqsF_no HT.out H1.out hc1] at HN
      have HNX := hide HN
      clear HN HF hp0
      have h2 : ((st : Int) == 2) = decide (st = 2) := by
        rw [Bool.eq_iff_iff, beq_iff_eq, decide_eq_true_eq]
        omega
      go_wp2_with fail
      refine HCP.out.mono ?_
      rintro e w1 ⟨b1, ao1, cap1, rfl, r1⟩
      have B1 := hide b1
      clear r1 b1
      go_wp2
      go_ret3
      rw [← HNX.out]
      exact ⟨HB.out.trans (B1.out.mono hws), _, rfl, buildT_row (buildT_below HBd.out B1.out)⟩
end Go.Proofs.YtnfnhkodjmilgaaDoor
