/- The law FnReplies: drawn replies are told apart again; what is cut short is none; both sides tell the same. -/
import Derived.Test.YtnoalenfeakcpaaDoorDrawRq
import Derived.Test.YtnoalenfeakcpaaDoorSameTx
namespace Go.Proofs.YtnoalenfeakcpaaDoor
open Go.RowKit

theorem bulk_three : bulkB ⟨#[97, 13, 10]⟩ = ⟨#[36, 51, 13, 10, 97, 13, 10, 13, 10]⟩ := by kernel_rfl
theorem line_ok : lineB ⟨#[43]⟩ ⟨#[79, 75]⟩ = ⟨#[43, 79, 75, 13, 10]⟩ := by kernel_rfl
theorem line_x : lineB ⟨#[45]⟩ ⟨#[120]⟩ = ⟨#[45, 120, 13, 10]⟩ := by kernel_rfl
theorem num_four : hdB ⟨#[58]⟩ (-4) = ⟨#[58, 45, 52, 13, 10]⟩ := by kernel_rfl
theorem cat_next (L : List ByteArray) (k : Nat) (h : k < L.length) : catB ⟨#[]⟩ (L.take (k + 1)) = catB ⟨#[]⟩ (L.take k) ++ L[k] := by
  rw [List.take_succ_eq_append_getElem h, catB_snoc]

set_option maxRecDepth 100000 in
set_option maxHeartbeats 1600000 in
theorem replies_walk (w : World) (ao : Option Addr) (len cap : Nat) (hv : RVars w) (hcode : len ≤ 1048576 → Code w ao len) :
    Calls Tryd.prog 5 #[.slice ao len cap] w fun e w' => e = .returned (.bool true) ∧ Below w.heap.size w w' := by
  by_cases hlen : len ≤ 1048576
  case neg =>
    have hbig : decide (1048576 < (len : Int)) = true := by simp; omega
    clear hv
    go_enter Tryd.func5, Tryd.ntmps5
    go_wp2_with fail
    refine (big_any _ ao len cap).mono ?_
    rintro e w1 ⟨rfl, rfl⟩
    rw [hbig]
    go_wp2
    go_ret
    exact ⟨rfl, Below.refl _ _⟩
  have hbig : decide (1048576 < (len : Int)) = false := by simp; omega
  have HC := hide (hcode hlen)
  have HV := hide hv
  have HD := hide (drawArray_any w ao len cap hlen HC.out)
  clear hcode hv
  go_enter Tryd.func5, Tryd.ntmps5
  go_wp2_with fail
  refine (big_any _ ao len cap).mono ?_
  rintro e w1 ⟨rfl, e1⟩
  obtain rfl := e1.symm
  rw [hbig]
  clear hbig
  go_wp2_with fail
  refine HD.out.mono ?_
  rintro e w2 ⟨v, L, rfl, hrt, hL4, hreps, b2⟩
  obtain ⟨aL, cL, rfl, hts⟩ := rowText_at hrt
  have B2 := hide b2
  have TL := hide hts
  have HR := hide hreps
  have z2 := b2.size
  have HLZ : Hid (∀ t ∈ L, t.size ≤ 23400) := fun t ht => (rep_size (HR.out t ht)).2
  have HCZ : Hid (∀ k, (catB ⟨#[]⟩ (L.take k)).size ≤ 93600) := fun k => by
    have h1 := catB_size (L.take k) ⟨#[]⟩ 23400 (fun x hx => HLZ.out x (List.mem_of_mem_take hx))
    have h2 : (L.take k).length ≤ 4 := by rw [List.length_take]; omega
    have h3 := Nat.mul_le_mul_right 23400 h2
    have h4 : (⟨#[]⟩ : ByteArray).size = 0 := rfl
    omega
  clear hts hreps hrt b2 HD
  go_wp2_with fail
  go_loop [4, 5] (fun vs ii => ∃ k : Nat, k ≤ L.length ∧ ii = .int .i64 k ∧ vs = .string (catB ⟨#[]⟩ (L.take k))) (fun _ ii => L.length - (intOf ii).toNat)
  case atStart => exact ⟨0, Nat.zero_le _, rfl, rfl⟩
  case round =>
    obtain ⟨k, hk, rfl, rfl⟩ := hrel
    by_cases hlt : k < L.length
    · have hlt' : decide ((k : Int) < (L.length : Int)) = true := by simp; omega
      have hi0 : (0 : Int) ≤ (k : Int) := by omega
      have hi1 : (k : Int) < (L.length : Int) := by omega
      obtain ⟨b, off, rfl, hbw, hc0⟩ := TL.out k hlt
      have hA := HCZ.out k
      have hxz := HLZ.out L[k] (List.getElem_mem hlt)
      have HN := hide (cat_next L k hlt)
      generalize L[k] = X at hc0 hxz HN
      generalize catB ⟨#[]⟩ (L.take k) = A at hA HN
      have hkk : ¬ (9223372036854775807 < A.size + X.size) := by omega
      go_wp2
      go_round
      case rel => exact ⟨k + 1, by omega, by go_num, by rw [HN.out]⟩
      case measure => simp [intOf]; omega
    · have hlt' : decide ((k : Int) < (L.length : Int)) = false := by simp; omega
      have hSz := HCZ.out L.length
      rw [List.take_length] at hSz
      rw [show L.take k = L from List.take_of_length_le (by omega)]
      have HRP := hide (rpl_cat HR.out)
      obtain ⟨S, HS⟩ : ∃ S, Hid (catB ⟨#[]⟩ L = S) := ⟨_, rfl⟩
      rw [HS.out] at hSz HRP ⊢
      clear HS HCZ
      have HI1 := hide (implReplies_any S w2 (by omega) (rvars_below HV.out B2.out))
      rw [HRP.out] at HI1
      clear HRP
      go_wp2_with fail
      refine HI1.out.mono ?_
      rintro e w3 ⟨⟨L6, v6, h6, rfl, r6⟩ | ⟨h6, -⟩, b3⟩
      case inr => cases h6
      obtain rfl : L = L6 := by simpa using h6
      obtain ⟨a6, c6, rfl, t6⟩ := rowText_at r6
      have T6 := hide t6
      have B3 := hide (B2.out.trans (b3.mono z2))
      have z3 := B3.out.size
      have T3 := hide (textsAt_keep TL.out b3)
      clear r6 t6 b3 h6
      have HI2 := hide (implArray_any L aL cL w3 (by omega) T3.out (fun x hx => by have := HLZ.out x hx; omega) (rvars_below HV.out B3.out).pow)
      have hrepA : Rep 4 (arrB L) := .arr L (by omega) HR.out
      have hself := rep_self hrepA 4 (Nat.le_refl _)
      have hAz : (arrB L).size ≤ 200000 := by
        have h1 := (rep_size hrepA).2
        have h2 : repB 4 = 187240 := rfl
        omega
      have hA3 := (rep_size hrepA).1
      have HCUT := hide (rep_cut hrepA ((arrB L).size - 1) (by omega))
      generalize arrB L = A at HI2 hself hAz hA3 HCUT
      clear hrepA
      have HX : Hid (rpAt valI (⟨#[120]⟩ ++ A) 4 1 = some (1 + A.size)) := by
        have h1 := rpAt_stands (stands_right (stands_self (⟨#[120]⟩ ++ A))) 4 0 _ hself
        exact h1
      have hXz : (⟨#[120]⟩ ++ A : ByteArray).size = 1 + A.size := by rw [ByteArray.size_append]; rfl
      have hcut : ∀ W : World, (Instr.slice 9 (.string A) none (some (.int .i64 ((A.size : Int) - 1))) none).run Tryd.prog W = .ok (.string (A.extract 0 (A.size - 1))) W := fun W => by
        rw [run_slice_string_to_if W 9 A .i64 ((A.size : Int) - 1) Tryd.underlying9, if_pos ⟨by omega, by omega⟩, show ((A.size : Int) - 1).toNat = A.size - 1 by omega]
      have hYz : (A.extract 0 (A.size - 1)).size ≤ 200000 := by rw [ByteArray.size_extract]; omega
      generalize A.extract 0 (A.size - 1) = Y at hcut hYz HCUT
      clear hself
      go_wp2_with fail
      refine HI2.out.mono ?_
      rintro e w4 ⟨rfl, b4⟩
      have B4 := hide (B3.out.trans (b4.mono z3))
      have z4 := B4.out.size
      have T4 := hide (textsAt_keep T3.out b4)
      have T64 := hide (textsAt_keep T6.out b4)
      clear b4
      have hc1 : (⟨#[120]⟩ : ByteArray).size = 1 := rfl
      have HI3 : Hid (∀ X : ByteArray, X.size = 1 + A.size → rpAt valI X 4 1 = some (1 + A.size) → Calls Tryd.prog 7 #[.string X, .int .i64 1] w4 fun e w' => e = .returned (.tuple #[.int .i64 ((A.size : Int) + 1), .bool true]) ∧ Below w4.heap.size w4 w') := by
        intro X hz hr
        have h := implReplyAt_any X 1 w4 (by omega) (by omega) (rvars_below HV.out B4.out)
        rw [hr, show (((1 : Nat)) : Int) = 1 from rfl] at h
        refine h.mono ?_
        rintro e w' ⟨⟨j, hj, rfl⟩ | ⟨hj, -⟩, b⟩
        · obtain rfl : 1 + A.size = j := by simpa using hj
          exact ⟨by rw [show (((1 + A.size : Nat) : Int)) = (A.size : Int) + 1 by omega], b⟩
        · cases hj
      have HI3 := hide (HI3.out _ hXz HX.out)
      go_wp2_with fail
      refine HI3.out.mono ?_
      rintro e w5 ⟨rfl, b5⟩
      have B5 := hide (B4.out.trans (b5.mono z4))
      have z5 := B5.out.size
      have T5 := hide (textsAt_keep T4.out b5)
      have T65 := hide (textsAt_keep T64.out b5)
      clear b5
      have HI4 : Hid (Calls Tryd.prog 7 #[.string Y, .int .i64 0] w5 fun e w' => e = .returned (.tuple #[.int .i64 0, .bool false]) ∧ Below w5.heap.size w5 w') := by
        have h := implReplyAt_any Y 0 w5 (by omega) (Nat.zero_le _) (rvars_below HV.out B5.out)
        rw [HCUT.out, show (((0 : Nat)) : Int) = 0 from rfl] at h
        refine h.mono ?_
        rintro e w' ⟨⟨j, hj, rfl⟩ | ⟨hj, rfl⟩, b⟩
        · cases hj
        · exact ⟨rfl, b⟩
      go_wp2_with fail
      refine HI4.out.mono ?_
      rintro e w6 ⟨rfl, b6⟩
      have B6 := hide (B5.out.trans (b6.mono z5))
      have z6 := B6.out.size
      have HSM := hide (sameTexts_same L a6 aL c6 cL w6 (by unfold maxLen; omega) (textsAt_keep T65.out b6) (textsAt_keep T5.out b6))
      clear b6
      have hAA : (((A.size : Int) + 1) != ((A.size : Int) + 1)) = false := by simp
      go_wp2_with fail
      refine HSM.out.mono ?_
      rintro e w7 ⟨rfl, b7⟩
      have B7 := hide (B6.out.trans (b7.mono z6))
      have z7 := B7.out.size
      clear b7
      have HD2 := hide (drawReplies_any w7 ao len cap hlen (code_keep HC.out B7.out))
      go_wp2_with fail
      refine HD2.out.mono ?_
      rintro e w8 ⟨t, rfl, htz, hN, b8⟩
      have B8 := hide (B7.out.trans (b8.mono z7))
      have z8 := B8.out.size
      have HSAME := hide (rpl_same hN)
      clear b8 hN
      have HI5 := hide (implReplies_any t w8 (by omega) (rvars_below HV.out B8.out))
      have HS5 := hide (fun W => specReplies_any t W (by omega))
      rw [HSAME.out] at HS5
      generalize rpl valI t = o at HI5 HS5
      obtain ⟨may, HMAY⟩ : ∃ b : Bool, Hid (o.isSome = b) := ⟨_, rfl⟩
      have HI6 : Hid (Calls Tryd.prog 9 #[.string t] w8 fun e w' => (∃ a n c, e = .returned (.tuple #[.slice a n c, .bool may])) ∧ Below w8.heap.size w8 w') := by
        refine HI5.out.mono ?_
        rintro e w' ⟨⟨Lo, vo, ho, rfl, ro⟩ | ⟨ho, rfl⟩, b⟩
        · obtain ⟨ax, cx, rfl, -⟩ := rowText_at ro
          rw [ho] at HMAY
          have := HMAY.out
          simp at this
          subst this
          exact ⟨⟨_, _, _, rfl⟩, b⟩
        · rw [ho] at HMAY
          have := HMAY.out
          simp at this
          subst this
          exact ⟨⟨_, _, _, rfl⟩, b⟩
      have HS6 : Hid (∀ W, Calls Tryd.prog 8 #[.string t] W fun e w' => (∃ a n c, e = .returned (.tuple #[.slice a n c, .bool may])) ∧ Below W.heap.size W w') := fun W => by
        refine (HS5.out W).mono ?_
        rintro e w' ⟨⟨vo, rfl, ro⟩, b⟩
        obtain ⟨ax, cx, rfl, -⟩ := rowText_at ro
        rw [HMAY.out]
        exact ⟨⟨_, _, _, rfl⟩, b⟩
      clear HI5 HS5 HMAY HSAME
      have hmm : (may == may) = true := beq_self_eq_true _
      go_wp2_with fail
      refine HI6.out.mono ?_
      rintro e w9 ⟨⟨x1, x2, x3, rfl⟩, b9⟩
      have B9 := hide (B8.out.trans (b9.mono z8))
      have z9 := B9.out.size
      clear b9
      go_wp2_with fail
      refine (HS6.out _).mono ?_
      rintro e w10 ⟨⟨y1, y2, y3, rfl⟩, b10⟩
      have B10 := hide (B9.out.trans (b10.mono z9))
      have z10 := B10.out.size
      clear b10
      have HB1 := hide (implBulk_any ⟨#[97, 13, 10]⟩ w10 (by decide) (rvars_below HV.out B10.out).pow)
      rw [bulk_three] at HB1
      go_wp2_with fail
      refine HB1.out.mono ?_
      rintro e w11 ⟨rfl, b11⟩
      have B11 := hide (B10.out.trans (b11.mono z10))
      have z11 := B11.out.size
      clear b11
      have HB2 := hide (implNil_any w11 (rvars_below HV.out B11.out).pow)
      go_wp2_with fail
      refine HB2.out.mono ?_
      rintro e w12 ⟨rfl, b12⟩
      have B12 := hide (B11.out.trans (b12.mono z11))
      have z12 := B12.out.size
      clear b12
      have HB3 := hide (implSimple_any ⟨#[79, 75]⟩ w12 (by decide))
      rw [line_ok] at HB3
      go_wp2_with fail
      refine HB3.out.mono ?_
      rintro e w13 ⟨rfl, b13⟩
      have B13 := hide (B12.out.trans (b13.mono z12))
      have z13 := B13.out.size
      clear b13
      have HB4 := hide (implFault_any ⟨#[120]⟩ w13 (by decide))
      rw [line_x] at HB4
      go_wp2_with fail
      refine HB4.out.mono ?_
      rintro e w14 ⟨rfl, b14⟩
      have B14 := hide (B13.out.trans (b14.mono z13))
      have z14 := B14.out.size
      clear b14
      have HB5 := hide (implNumber_any (-4) w14 (by omega) (by omega) (rvars_below HV.out B14.out).pow)
      rw [num_four] at HB5
      go_wp2_with fail
      refine HB5.out.mono ?_
      rintro e w15 ⟨rfl, b15⟩
      have B15 := hide (B14.out.trans (b15.mono z14))
      clear b15
      go_wp2
      go_ret
      exact ⟨rfl, B15.out⟩
end Go.Proofs.YtnoalenfeakcpaaDoor
