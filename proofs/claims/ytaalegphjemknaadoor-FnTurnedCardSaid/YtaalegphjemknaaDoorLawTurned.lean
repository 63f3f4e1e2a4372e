/- The law on turned bytes. -/
import Derived.Test.YtaalegphjemknaaDoorTurnP
import Derived.Lib.ConvBytes
import Derived.Laws.OwnMore
import Derived.Laws.BitsAllLaws
import Derived.WalkSmall
namespace Go.Proofs.YtaalegphjemknaaDoor
open Go.RowKit

/-- The bytes of a text in a slice of their own. -/
theorem bytes_made {P : Program} (w : World) (src dst e : TypeId) (L : List UInt8) (hs : P.underlying src = some .string) (hd : P.underlying dst = some (.slice e)) (he : P.underlying e = some (.int .u8)) :
    ∃ (W : World) (C : Nat), (convert src dst (.string ⟨L.toArray⟩)).run P w = .ok (.slice (some ⟨w.heap.size, 0, none⟩) L.length C) W ∧ Below w.heap.size w W ∧ W.heap.size = w.heap.size + 1 ∧
      ∀ j (hj : j < L.length), W.cell? ⟨w.heap.size, j, none⟩ = some (.int .u8 (L[j].toNat : Int)) ∧ W.frozen? ⟨w.heap.size, j, none⟩ = false := by
  refine ⟨_, _, Lib.run_convert_string_bytes w src dst e ⟨L.toArray⟩ hs hd he, ⟨rfl, rfl, rfl, by rw [Lib.bytesWorld_size]; omega, fun k hk => Lib.bytesWorld_at_old w e _ k hk⟩, Lib.bytesWorld_size _ _ _, ?_⟩
  intro j hj
  constructor
  · rw [Lib.bytesWorld_cell w e ⟨L.toArray⟩ j hj]
    simp [hj]
  · unfold World.frozen?
    rw [Lib.bytesWorld_at_new]
    simp [Lib.bytesCells]
    omega

/-- The text of those bytes, one of which is another. -/
theorem bytes_back {P : Program} (W : World) (src dst e : TypeId) (g C : Nat) (L : List UInt8) (i : Nat) (c : UInt8) (hs : P.underlying src = some (.slice e)) (he : P.underlying e = some (.int .u8)) (hd : P.underlying dst = some .string) (hi : i < L.length)
    (h : ∀ j (hj : j < L.length), W.cell? ⟨g, j, none⟩ = some (.int .u8 (L[j].toNat : Int)) ∧ W.frozen? ⟨g, j, none⟩ = false) :
    (convert src dst (.slice (some ⟨g, 0, none⟩) L.length C)).run P (W.setCell ⟨g, i, none⟩ (.int .u8 (c.toNat : Int))).drew = .ok (.string ⟨(L.set i c).toArray⟩) (W.setCell ⟨g, i, none⟩ (.int .u8 (c.toNat : Int))).drew := by
  have := run_convert_bytes_back (P := P) (W.setCell ⟨g, i, none⟩ (.int .u8 (c.toNat : Int))).drew src dst e ⟨g, 0, none⟩ C (L.set i c) hs he hd ?_
  · rwa [List.length_set] at this
  · intro j hj
    rw [List.length_set] at hj
    rw [World.cell?_drew, show ((⟨g, 0, none⟩ : Addr).add j) = ⟨g, j, none⟩ by cases j <;> simp [Addr.add]]
    by_cases hij : i = j
    · subst hij
      rw [World.cell?_setCell_same (h := (h i hi).1)]
      simp
    · rw [World.cell?_setCell_other (h := show (⟨g, i, none⟩ : Addr) ≠ ⟨g, j, none⟩ by intro e; exact hij (by injection e)), (h j hj).1]
      simp [hij]

set_option maxRecDepth 100000 in
set_option maxHeartbeats 2000000 in
theorem turned_walk (w : World) (ao : Option Addr) (len cap : Nat) (hcode : len ≤ 1048576 → Code w ao len) (hT : SumTab w) :
    Calls Tryd.prog 4 #[.slice ao len cap] w fun e w' => e = .returned (.bool true) ∧ Below w.heap.size w w' := by
  have HT := hide hT
  by_cases hlen : len ≤ 1048576
  · have hbig : decide (1048576 < (len : Int)) = false := by simp; omega
    have HC := hide (hcode hlen)
    clear hT hcode
    go_enter Tryd.func4, Tryd.ntmps4
    go_wp2_with fail
    refine (big_any _ ao len cap).mono ?_
    rintro e w0 ⟨rfl, rfl⟩
    go_wp2_with fail
    refine (drawSumOf_any _ ao len cap hlen HC.out).mono ?_
    rintro e w1 ⟨l, rfl, hl40, b1⟩
    have B1 := hide b1
    clear b1
    go_wp2_with fail
    refine (drawPlaces_any _ ao len cap hlen (code_keep HC.out B1.out)).mono ?_
    rintro e w2 ⟨v2, zs, rfl, hzl, hzs, hown2, b2⟩
    obtain ⟨g2, cap2, rfl⟩ : ∃ g2 cap2, v2 = .slice (some ⟨g2, 0, none⟩) 12 cap2 := by
      rcases hown2.2 with ⟨h, h'⟩ | ⟨g, c, cur, rfl, _⟩
      · cases h'
      · exact ⟨g, c, rfl⟩
    have B2 := hide (B1.out.trans (b2.mono B1.out.size))
    have O2 := hide hown2
    have ZL := hide hzl
    have ZS := hide hzs
    clear b2 hown2 hzl hzs B1
    go_wp2_with fail
    refine (sealed_any ⟨l.toArray⟩ _ (by show l.length ≤ 20000; omega) (sumTab_later B2.out HT.out)).mono ?_
    rintro e w3 ⟨rfl, b3⟩
    rw [sealB_of]
    have B3 := hide (B2.out.trans (b3.mono B2.out.size))
    have O3 := hide (ownsRow_below O2.out b3)
    clear b3
    have hTL : (sealL l).length = l.length + 4 := seal_length l
    have HB := hide (seal_back l)
    have HH := hide (head_seal l)
    have HN := hide (turned_not l)
    go_wp2_with fail
    refine (unsealed_yes ⟨(sealL l).toArray⟩ _ (by show 4 ≤ (sealL l).length; omega) (by show (sealL l).length ≤ 20004; omega) HB.out (sumTab_later B3.out HT.out)).mono ?_
    rintro e w4 ⟨rfl, b4⟩
    rw [HH.out]
    have B4 := hide (B3.out.trans (b4.mono B3.out.size))
    have O4 := hide (ownsRow_below O3.out b4)
    clear b4 B2 B3 O2 O3
    generalize sealL l = TL at hTL HN ⊢
    have hself : (l == l) = true := beq_self_eq_true _
    have hw4 : IntKind.i64.wrap ((l.length : Int) + 4) = (TL.length : Int) := by rw [IntKind.wrap_i64]; omega
    obtain ⟨z0, hz0, hz0b⟩ : ∃ z : Nat, w4.cell? ⟨g2, 0, none⟩ = some (.int .i64 (z : Int)) ∧ z < 10000 := by
      have hl : 0 < zs.length := by rw [ZL.out]; decide
      exact ⟨zs[0], (O4.out.cellAt 0 (by decide)).trans (by simp [hl, iv]), ZS.out _ (List.getElem_mem hl)⟩
    obtain ⟨z1, hz1, hz1b⟩ : ∃ z : Nat, w4.cell? ⟨g2, 1, none⟩ = some (.int .i64 (z : Int)) ∧ z < 10000 := by
      have hl : 1 < zs.length := by rw [ZL.out]; decide
      exact ⟨zs[1], (O4.out.cellAt 1 (by decide)).trans (by simp [hl, iv]), ZS.out _ (List.getElem_mem hl)⟩
    have hg2 : g2 < w4.heap.size := (O4.out.lt g2 rfl).2
    obtain ⟨W5, C5, hcv, hB5, hs5, hnew⟩ := bytes_made (P := Tryd.prog) w4 9 22 5 TL Tryd.underlying9 Tryd.underlying22 Tryd.underlying5
    replace hz0 : W5.cell? ⟨g2, 0, none⟩ = some (.int .i64 (z0 : Int)) := (hB5.cell (p := ⟨g2, 0, none⟩) hg2).trans hz0
    replace hz1 : W5.cell? ⟨g2, 1, none⟩ = some (.int .i64 (z1 : Int)) := (hB5.cell (p := ⟨g2, 1, none⟩) hg2).trans hz1
    have B5 := hide (B4.out.trans (hB5.mono B4.out.size))
    have HW5 := hide hnew
    have S5 := hide hs5
    clear hB5 hnew hs5
    have hne0 : ¬ (TL.length : Int) = 0 := by omega
    obtain ⟨i, hi, hrem⟩ : ∃ i : Nat, i < TL.length ∧ (z0 : Int) % (TL.length : Int) = (i : Int) := ⟨z0 % TL.length, Nat.mod_lt _ (by omega), by omega⟩
    have hi0 : (0 : Int) ≤ (i : Int) := by omega
    have hi1 : (i : Int) < (TL.length : Int) := by omega
    obtain ⟨b, Hb, hb256, hci, hfr⟩ : ∃ b : Nat, Hid (TL[i].toNat = b) ∧ b < 256 ∧ W5.cell? ⟨w4.heap.size, i, none⟩ = some (.int .u8 (b : Int)) ∧ W5.frozen? ⟨w4.heap.size, i, none⟩ = false :=
      ⟨TL[i].toNat, hide rfl, byte_lt _, (HW5.out i hi).1, (HW5.out i hi).2⟩
    obtain ⟨k, hk1, hk2, hk⟩ : ∃ k : Nat, 1 ≤ k ∧ k < 256 ∧ 1 + (z1 : Int) % 255 = (k : Int) := ⟨1 + z1 % 255, by omega, by omega, by omega⟩
    have hx := u8_xor_nat b k hb256 hk2
    have hc256 : b ^^^ k < 256 := Nat.xor_lt_two_pow (n := 8) hb256 hk2
    have HNe := hide (xor_ne (b := b) (k := k) (by omega))
    generalize b ^^^ k = c at hx hc256 HNe
    have HTL := hide hTL
    clear hTL
    obtain ⟨c8, Hc8⟩ : ∃ c8 : UInt8, Hid (c8.toNat = c) := ⟨UInt8.ofNat c, by show _ = _; simp; omega⟩
    have hcv6 := bytes_back (P := Tryd.prog) W5 22 9 5 w4.heap.size C5 TL i c8 Tryd.underlying22 Tryd.underlying5 Tryd.underlying9 hi HW5.out
    rw [Hc8.out] at hcv6
    have HU := hide (HN.out i hi c8 (by intro e; exact HNe.out (by rw [← Hc8.out, ← e, Hb.out])))
    have hset : (TL.set i c8).length = TL.length := List.length_set
    have B6 : Hid (Below w0.heap.size w0 (W5.setCell ⟨w4.heap.size, i, none⟩ (.int .u8 (c : Int))).drew) := (B5.out.setCell (p := ⟨w4.heap.size, i, none⟩) B4.out.size _).drew
    go_wp2
    go_region
    clear hci hfr hx hc256 HNe Hb Hc8
    go_wp2_with fail
    have hset4 : 4 ≤ (TL.set i c8).length := by have := HTL.out; omega
    have hset5 : (TL.set i c8).length ≤ 1048576 := by have := HTL.out; omega
    refine (unsealed_no ⟨(TL.set i c8).toArray⟩ _ hset4 hset5 (fun _ => HU.out) (sumTab_later B6.out HT.out)).mono ?_
    rintro e w7 ⟨rfl, b7⟩
    have B7 := hide (B6.out.trans (b7.mono B6.out.size))
    have T7 := hide (sumTab_later B7.out HT.out)
    clear b7 B6 hcv6 hset hset4 hset5
    obtain ⟨X, hX, hX2, HS⟩ : ∃ X : ByteArray, (⟨l.toArray⟩ : ByteArray) ++ (⟨#[120]⟩ : ByteArray) = X ∧ X.size ≤ 2097152 ∧ Hid (sumB (sumB 4294967295 ⟨l.toArray⟩) ⟨#[120]⟩ = sumB 4294967295 X) :=
      ⟨_, rfl, by rw [ByteArray.size_append]; show l.length + 1 ≤ 2097152; omega, sum_goes_on ⟨l.toArray⟩⟩
    have hs1 : (⟨l.toArray⟩ : ByteArray).size ≤ 2097152 := by show l.length ≤ 2097152; omega
    have hlt1 := sumB_lt ⟨l.toArray⟩
    go_wp2_with fail
    refine (sumOf_any ⟨l.toArray⟩ _ hs1 T7.out).mono ?_
    rintro e w8 ⟨rfl, rfl⟩
    go_wp2_with fail
    refine (sumMore_any _ ⟨#[120]⟩ _ hlt1 (by decide) T7.out).mono ?_
    rintro e w9 ⟨rfl, rfl⟩
    rw [HS.out]
    go_wp2_with fail
    refine (sumOf_any X _ hX2 T7.out).mono ?_
    rintro e w10 ⟨rfl, rfl⟩
    generalize sumB 4294967295 X = Q
    have hQ : ((Q : Int) == (Q : Int)) = true := beq_self_eq_true _
    go_wp2
    go_ret
    exact ⟨rfl, B7.out⟩
  · have hbig : decide (1048576 < (len : Int)) = true := by simp; omega
    go_enter Tryd.func4, Tryd.ntmps4
    go_wp2_with fail
    refine (big_any _ ao len cap).mono ?_
    rintro e w0 ⟨rfl, rfl⟩
    go_wp2
    go_ret
    exact ⟨rfl, Below.refl _ _⟩
end Go.Proofs.YtaalegphjemknaaDoor
