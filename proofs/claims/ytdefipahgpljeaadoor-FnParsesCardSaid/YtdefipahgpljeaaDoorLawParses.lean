/- The law FnParses: what bytes tell for sure they tell with more bytes behind, too. -/
import Derived.Test.YtdefipahgpljeaaDoorDrawR3
import Derived.Test.YtdefipahgpljeaaDoorReqM
import Derived.Test.YtdefipahgpljeaaDoorLawParse
import Derived.Test.YtdefipahgpljeaaDoorLawUpper
import Derived.Test.YtdefipahgpljeaaDoorTurnQ
import Derived.Test.YtdefipahgpljeaaDoorSameRow
namespace Go.Proofs.YtdefipahgpljeaaDoor
open Go.RowKit

set_option maxRecDepth 100000 in
set_option maxHeartbeats 6400000 in
theorem parses_walk (w : World) (ao : Option Addr) (len cap : Nat) (m : Int) (hm : MaxL w m) (hcode : len ≤ 1048576 → Code w ao len) :
    Calls Tryd.prog 4 #[.slice ao len cap] w fun e w' => e = .returned (.bool true) ∧ Below w.heap.size w w' := by
  by_cases hlen : len ≤ 1048576
  case neg =>
    have hbig : decide (1048576 < (len : Int)) = true := by simp; omega
    clear hm
    go_enter Tryd.func4, Tryd.ntmps4
    go_wp2_with fail
    refine (big_any _ ao len cap).mono ?_
    rintro e w1 ⟨rfl, rfl⟩
    rw [hbig]
    go_wp2
    go_ret
    exact ⟨rfl, Below.refl _ _⟩
  have hbig : decide (1048576 < (len : Int)) = false := by simp; omega
  have HD := hide (drawParse_any w ao len cap hlen (hcode hlen))
  have HM := hide hm
  have hw0 : 1 < w.heap.size := hm.2
  clear hcode hm
  go_enter Tryd.func4, Tryd.ntmps4
  go_wp2_with fail
  refine (big_any _ ao len cap).mono ?_
  rintro e w1 ⟨rfl, e1⟩
  obtain rfl := e1.symm
  rw [hbig]
  clear hbig
  go_wp2_with fail
  refine HD.out.mono ?_
  rintro e w2 ⟨s, rfl, hs, b2⟩
  have B2 := hide b2
  have z2 := b2.size
  clear b2 HD
  have hf := parse_facts s
  have C7 := hide (fun W => (specParse_any s W (by omega)).mono (fun e w' => tells_of))
  have C8 := hide (fun W (hm : MaxL W m) => (implParse_any s m W (by omega) hm).mono (fun e w' => tells_of))
  obtain ⟨t, ht⟩ : ∃ t : ByteArray, t = ⟨#[13, 10, 42, 49, 13, 10]⟩ := ⟨_, rfl⟩
  have htz : t.size = 6 := by rw [ht]; rfl
  have hst : (s ++ t).size ≤ 40006 := by rw [ByteArray.size_append]; omega
  have C9 := hide (fun W (hm : MaxL W m) => (implParse_any (s ++ t) m W (by omega) hm).mono (fun e w' => tells_of))
  have HPM := hide (parse_more s t)
  obtain ⟨c, hc, hc2⟩ : ∃ c, Hid ((parse s).1 = c) ∧ c ≤ 2 := ⟨_, rfl, hf.1⟩
  obtain ⟨p, hp, hps⟩ : ∃ p, Hid ((parse s).2.1 = p) ∧ p ≤ s.size := ⟨_, rfl, hf.2.1⟩
  obtain ⟨L, hL, hL8⟩ : ∃ L, Hid ((parse s).2.2 = L) ∧ L.length ≤ 8 := ⟨_, rfl, hf.2.2.1⟩
  have HNo : Hid (c ≠ 1 → p = 0 ∧ L = []) := fun h => by
    have h1 := hf.2.2.2.1 (by rw [hc.out]; exact h)
    exact ⟨by rw [← hp.out, h1], by rw [← hL.out, h1]⟩
  have HMo : Hid (c ≠ 0 → (parse (s ++ t)).1 = c ∧ (parse (s ++ t)).2.1 = p ∧ (parse (s ++ t)).2.2 = L) := fun h => by
    have h1 := HPM.out (by rw [hc.out]; exact h)
    exact ⟨by rw [h1, hc.out], by rw [h1, hp.out], by rw [h1, hL.out]⟩
  rw [hc.out, hp.out, hL.out] at C7 C8
  clear hf hc hp hL HPM
  obtain ⟨c9, hc9⟩ : ∃ c9, Hid ((parse (s ++ t)).1 = c9) := ⟨_, rfl⟩
  obtain ⟨p9, hp9⟩ : ∃ p9, Hid ((parse (s ++ t)).2.1 = p9) := ⟨_, rfl⟩
  obtain ⟨L9, hL9⟩ : ∃ L9, Hid ((parse (s ++ t)).2.2 = L9) := ⟨_, rfl⟩
  rw [hc9.out, hp9.out, hL9.out] at C9 HMo
  clear hc9 hp9 hL9
  subst ht
  have hk6 : ¬ (9223372036854775807 < s.size + 6) := by omega
  have hcc : ((c : Int) != (c : Int)) = false := by simp
  have hpp : ((p : Int) != (p : Int)) = false := by simp
  go_wp2_with fail
  refine (C8.out _ (maxL_below HM.out hw0 B2.out)).mono ?_
  rintro e w3 ⟨b3, ao1, cap1, rfl, r1⟩
  have R1 := hide r1
  have B3 := hide (B2.out.trans (b3.mono z2))
  have z3 := B3.out.size
  clear r1 b3
  go_wp2_with fail
  refine (C7.out _).mono ?_
  rintro e w4 ⟨b4, ao0, cap0, rfl, r0⟩
  have R1b := hide (rowText_below R1.out b4)
  have B4 := hide (B3.out.trans (b4.mono z3))
  have z4 := B4.out.size
  clear r0 b4 R1
  go_wp2_with fail
  refine (C9.out _ (maxL_below HM.out hw0 B4.out)).mono ?_
  rintro e w5 ⟨b5, ao2, cap2, rfl, r2⟩
  have R2 := hide r2
  have R1c := hide (rowText_below R1b.out b5)
  have B5 := hide (B4.out.trans (b5.mono z4))
  have z5 := B5.out.size
  clear r2 b5 R1b
  by_cases h1 : c = 1
  · obtain ⟨e1, e2, e3⟩ := HMo.out (by omega)
    subst h1 e1 e2 e3
    have hle : decide ((p9 : Int) ≤ (s.size : Int)) = true := by simp; omega
    have HSR := hide (fun W (h1 : TextsAt W ao2 L9) (h2 : TextsAt W ao1 L9) => sameRow_same L9 ao2 ao1 cap2 cap1 W (by unfold maxLen; omega) h1 h2)
    go_wp2_with fail
    refine (HSR.out _ (rowText_rows R2.out) (rowText_rows R1c.out)).mono ?_
    rintro e w6 ⟨rfl, b6⟩
    have B6 := hide (B5.out.trans (b6.mono z5))
    clear b6
    go_wp2
    go_ret
    exact ⟨rfl, B6.out⟩
  by_cases h2 : c = 2
  · obtain ⟨e1, e2, e3⟩ := HMo.out (by omega)
    obtain ⟨n1, n2⟩ := HNo.out (by omega)
    subst h2 e1 n1 n2
    go_wp2_with fail
    go_ret
    exact ⟨rfl, B5.out⟩
  · have h0 : c = 0 := by omega
    obtain ⟨n1, n2⟩ := HNo.out (by omega)
    subst h0 n1 n2
    have HUP : Hid (∀ W, Calls Tryd.prog 14 #[.string ⟨#[97, 90, 49]⟩] W fun e w' => e = .returned (.string ⟨#[65, 90, 49]⟩) ∧ Below W.heap.size W w') := fun W => implUpper_any ⟨#[97, 90, 49]⟩ W (by show 3 ≤ _; omega)
    go_wp2_with fail
    refine (HUP.out _).mono ?_
    rintro e w6 ⟨rfl, b6⟩
    have B6 := hide (B5.out.trans (b6.mono z5))
    clear b6
    go_wp2
    go_ret
    exact ⟨rfl, B6.out⟩
end Go.Proofs.YtdefipahgpljeaaDoor
