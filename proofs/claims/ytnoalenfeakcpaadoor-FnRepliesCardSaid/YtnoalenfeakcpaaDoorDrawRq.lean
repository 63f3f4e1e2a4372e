/- Drawn rows of replies, and texts that may be some. -/
import Derived.Test.YtnoalenfeakcpaaDoorDrawRp
namespace Go.Proofs.YtnoalenfeakcpaaDoor
open Go.RowKit

set_option maxRecDepth 100000 in
set_option maxHeartbeats 1000000 in
theorem drawArray_any (w : World) (ao : Option Addr) (len cap : Nat) (hlen : len ≤ 1048576) (hcode : Code w ao len) :
    Calls Tryd.prog 14 #[.slice ao len cap] w fun e w' => ∃ (v : Value) (L : List ByteArray), e = .returned v ∧ RowText w' w.heap.size v L ∧ L.length ≤ 4 ∧ (∀ t ∈ L, Rep 3 t) ∧ Below w.heap.size w w' := by
  have HC := hide hcode
  have HNW := hide (new_any w ao len cap hlen hcode)
  clear hcode
  go_enter Tryd.func14, Tryd.ntmps14
  go_wp2_with fail
  refine HNW.out.mono ?_
  rintro e w1 ⟨g, rfl, c1⟩
  have U1 := hide c1
  have hgw := cur_lt c1
  clear c1 HNW
  go_wp2_with fail
  go_loopw [4, 5] (fun vl ii wr => ∃ (k : Nat) (acc : List ByteArray), ii = .int .i64 k ∧ k ≤ 4 ∧ acc.length ≤ 4 ∧ Hid (acc.length = k) ∧ Hid (∀ t ∈ acc, Rep 3 t) ∧ Hid (wr.ownsRow w1.heap.size 9 1 vl acc.length (acc.map Value.string)) ∧ Hid (CurAt w wr g ao len cap) ∧ Hid (w1.grownBy wr (some g))) (fun _ ii _ => 5 - (intOf ii).toNat)
  case atStart => exact ⟨0, [], rfl, by omega, Nat.zero_le _, rfl, fun t ht => absurd ht List.not_mem_nil, own_none w1 _ (Nat.le_refl _), cur_keep U1.out ((Below.refl _ w1).alloc (Nat.le_refl _) _) hgw, grownBy_below _ ((Below.refl _ w1).alloc (Nat.le_refl _) _)⟩
  case round =>
    obtain ⟨k, acc, rfl, hk, hak, HAK, HR, HO, HUr, HGr⟩ := hrel
    go_wp2_with fail
    refine (below_any w _ g ao len cap _ hlen (by omega) HC.out HUr.out).mono ?_
    rintro e w2 ⟨y, rfl, hy, _, hc2, g2⟩
    have hy' := hy (by omega)
    have U2 := hide hc2
    have G2 := hide (grownBy_trans HGr.out g2)
    have O2 := hide (row_keep HO.out g2 hgw)
    clear hy hc2 g2
    by_cases hlt : k < y
    · have hlt' : decide ((k : Int) < (y : Int)) = true := by simp; omega
      obtain ⟨a0, c0, e0⟩ := slice_form HO.out
      subst e0
      go_wp2_with (first | (at_builtin; refine app_txt _ w1.heap.size rfl _ _ rfl _ acc t rfl (O3.out.alloc _) w3.heap.size rfl (heap_alloc_new w3 _) (by omega) hB3 ?_; intro g4 cap4 w4 ho4 hb4 hg4 hgg4 hgl4; have HO4 := hide ho4; have HB4 := hide (hA3.out.trans hb4); clear ho4 hb4 hg4) | (go_at_call 30; refine (l12Reply_any w g ao len cap hlen HC.out 3 0 rfl _ U2.out).mono ?_; rintro e w3 ⟨t, rfl, hr3, hc3, g3⟩; have U3 := hide hc3; have G3 := hide (grownBy_trans G2.out g3); have O3 := hide (row_keep O2.out g3 hgw); have R3 := hide hr3; have hs3 := G3.out.size; have hA3 : Hid (Below w1.heap.size w3 (w3.alloc (.cells #[.string t] 9))) := (Below.refl _ w3).alloc hs3 _; have hB3 : w1.heap.size ≤ (w3.alloc (.cells #[.string t] 9)).heap.size := Nat.le_trans hs3 hA3.out.size; clear hr3 hc3 g3))
      go_roundw
      case rel =>
        refine ⟨k + 1, acc ++ [t], by go_num, by omega, by have := HAK.out; simp; omega, by have := HAK.out; show _ = _; simp; omega, ?_, HO4, cur_keep U3.out HB4.out hgw, grownBy_then G3.out HB4.out⟩
        intro q hq
        rcases List.mem_append.1 hq with hq | hq
        · exact HR.out q hq
        · obtain rfl : q = t := by simpa using hq
          exact R3.out
      case measure => simp [intOf]; omega
    · have hlt' : decide ((k : Int) < (y : Int)) = false := by simp; omega
      obtain ⟨a0, c0, e0⟩ := slice_form HO.out
      subst e0
      go_wp2
      go_ret
      exact ⟨_, acc, rfl, rowText_le (rowText_own O2.out) U1.out.1.size, hak, HR.out, U2.out.1⟩

set_option maxRecDepth 100000 in
set_option maxHeartbeats 1000000 in
theorem l12Text_any (w0 w : World) (g : Nat) (ao : Option Addr) (len cap : Nat) (hlen : len ≤ 1048576) (hcode : Code w0 ao len) (hc : CurAt w0 w g ao len cap) :
    Calls Tryd.prog 33 #[.pointer (some ⟨g, 0, none⟩)] w fun e w' => ∃ t : ByteArray, e = .returned (.string t) ∧ t.size ≤ 900000 ∧ NoTen t ∧ CurAt w0 w' g ao len cap := by
  have HC := hide hcode
  have HU := hide hc
  clear hc hcode
  go_enter Tryd.func33, Tryd.ntmps33
  go_wp2_with fail
  go_loopw [3, 4] (fun vs ii wr => ∃ (k : Nat) (s : ByteArray), ii = .int .i64 k ∧ k ≤ 4 ∧ vs = .string s ∧ s.size ≤ 30000 * k ∧ Hid (Calm s) ∧ Hid (CurAt w0 wr g ao len cap)) (fun _ ii _ => 5 - (intOf ii).toNat)
  case atStart => exact ⟨0, ⟨#[]⟩, rfl, by omega, rfl, by show 0 ≤ _; omega, .inl rfl, HU⟩
  case round =>
    obtain ⟨k, s, rfl, hk, rfl, hs, HS, HUr⟩ := hrel
    go_wp2_with fail
    refine (below_any w0 _ g ao len cap _ hlen (by omega) HC.out HUr.out).mono ?_
    rintro e w2 ⟨y, rfl, hy, _, hc2, -⟩
    have hy' := hy (by omega)
    have U2 := hide hc2
    clear hy hc2
    by_cases hlt : k < y
    · have hlt' : decide ((k : Int) < (y : Int)) = true := by simp; omega
      go_wp2_with fail
      refine (l12Reply_any w0 g ao len cap hlen HC.out 3 0 rfl _ U2.out).mono ?_
      rintro e w3 ⟨t, rfl, hr3, hc3, -⟩
      have U3 := hide hc3
      have htz : t.size ≤ 30000 := by
        have := (rep_size hr3).2
        have h3 : repB 3 = 23400 := rfl
        omega
      have HS2 := hide (calm_app HS.out (rep_two hr3))
      have hkk : ¬ (9223372036854775807 < s.size + t.size) := by omega
      clear hr3 hc3
      go_wp2_with fail
      go_roundw
      case rel => exact ⟨k + 1, s ++ t, by go_num, by omega, rfl, by rw [ByteArray.size_append]; omega, HS2, U3⟩
      case measure => simp [intOf]; omega
    · have hlt' : decide ((k : Int) < (y : Int)) = false := by simp; omega
      have hsz : s.size ≤ 120000 := by omega
      clear hs
      go_wp2_with fail
      refine (below_any w0 _ g ao len cap _ hlen (by omega) HC.out U2.out).mono ?_
      rintro e w3 ⟨x, rfl, _, _, hc3, -⟩
      have U3 := hide hc3
      clear hc3
      by_cases h0 : x = 0
      · have hy0 : ((x : Int) == 0) = true := by rw [beq_iff_eq]; omega
        clear h0
        go_wp2_with fail
        refine (spoiltX_any w0 _ g ao len cap s hlen (by omega) HC.out U3.out).mono ?_
        rintro e w4 ⟨T, rfl, hT, hc4, -⟩
        have HT := hide (spT_ok HS.out hT)
        have U4 := hide hc4
        clear hT hc4
        go_wp2
        go_ret
        exact ⟨T, rfl, by have := HT.out.2; omega, HT.out.1, U4.out⟩
      have hn0 : ((x : Int) == 0) = false := by rw [beq_eq_false_iff_ne]; omega
      by_cases h1 : x = 1
      · have hy1 : ((x : Int) == 1) = true := by rw [beq_iff_eq]; omega
        clear h0 h1
        go_wp2_with fail
        refine (below_any w0 _ g ao len cap ((s.size : Int) + 1) hlen (by omega) HC.out U3.out).mono ?_
        rintro e w4 ⟨z, rfl, hz, _, hc4, -⟩
        have hz' := hz (by omega)
        have U4 := hide hc4
        have hcut := cutHdX s z (by omega)
        clear hz hc4
        go_wp2
        go_ret
        exact ⟨_, rfl, by rw [ByteArray.size_extract]; omega, noTen_cut (calm_noTen HS.out) 0 z, U4.out⟩
      have hn1 : ((x : Int) == 1) = false := by rw [beq_eq_false_iff_ne]; omega
      by_cases h2 : x = 2
      · have hy2 : ((x : Int) == 2) = true := by rw [beq_iff_eq]; omega
        have HPK := hide (pickIn_any w0 w3 g ao len cap 8 _ tailsR rfl rfl (by omega) (by omega) hlen HC.out U3.out)
        clear h0 h1 h2
        go_wp2_with fail
        refine (HPK.out).mono ?_
        rintro e w4 ⟨z, rfl, hz, hc4, -⟩
        have U4 := hide hc4
        have ht := tails_ok z hz
        have htz := ht.1
        have HT := hide (calm_more HS.out (.inr ht.2))
        have hkk : ¬ (9223372036854775807 < s.size + z.size) := by omega
        clear hz hc4 ht
        go_wp2
        go_ret
        exact ⟨_, rfl, by rw [ByteArray.size_append]; omega, HT.out, U4.out⟩
      have hn2 : ((x : Int) == 2) = false := by rw [beq_eq_false_iff_ne]; omega
      clear h0 h1 h2
      go_wp2
      go_ret
      exact ⟨_, rfl, by omega, calm_noTen HS.out, U3.out⟩

theorem drawReplies_any (w : World) (ao : Option Addr) (len cap : Nat) (hlen : len ≤ 1048576) (hcode : Code w ao len) :
    Calls Tryd.prog 17 #[.slice ao len cap] w fun e w' => ∃ t : ByteArray, e = .returned (.string t) ∧ t.size ≤ 900000 ∧ NoTen t ∧ Below w.heap.size w w' := by
  have HC := hide hcode
  have HNW := hide (new_any w ao len cap hlen hcode)
  clear hcode
  go_enter Tryd.func17, Tryd.ntmps17
  go_wp2_with fail
  refine HNW.out.mono ?_
  rintro e w1 ⟨g, rfl, c1⟩
  have C1 := hide c1
  clear c1 HNW
  go_wp2_with fail
  refine (l12Text_any w _ g ao len cap hlen HC.out C1.out).mono ?_
  rintro e w2 ⟨T, rfl, hT, hN, c2⟩
  have B2 := hide c2.1
  have HN := hide hN
  clear c2 hN
  go_wp2
  go_ret
  exact ⟨T, rfl, hT, HN.out, B2.out⟩
end Go.Proofs.YtnoalenfeakcpaaDoor
