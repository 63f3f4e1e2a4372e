/- Drawn replies. -/
import Derived.Test.YtnoalenfeakcpaaDoorRplD
import Derived.Test.YtnoalenfeakcpaaDoorDrawNm
import Derived.Test.YtnoalenfeakcpaaDoorPickI
import Derived.Test.YtnoalenfeakcpaaDoorTurnQ
import Derived.Deep.RegionLaw
namespace Go.Proofs.YtnoalenfeakcpaaDoor
open Go.RowKit

theorem pickIn_any (w0 w : World) (g : Nat) (ao : Option Addr) (len cap n : Nat) (C : Array Value) (zs : List ByteArray) (hC : C = (zs.map Value.string).toArray) (hzs : zs.length = n) (hn0 : 0 < n) (hn : n ≤ 1000) (hlen : len ≤ 1048576) (hcode : Code w0 ao len) (hc : CurAt w0 w g ao len cap) :
    Calls Tryd.prog 45 #[.pointer (some ⟨g, 0, none⟩), .slice (some ⟨w.heap.size, 0, none⟩) n n] (w.alloc (.cells C 9)) fun e w' => ∃ z : ByteArray, e = .returned (.string z) ∧ z ∈ zs ∧ CurAt w0 w' g ao len cap ∧ w.grownBy w' (some g) := by
  have hb : Below w.heap.size w (w.alloc (.cells C 9)) := (Below.refl _ w).alloc (Nat.le_refl _) _
  have hg := cur_lt hc
  refine (pickText_any w0 _ g w.heap.size ao len cap n zs hlen hcode (cur_keep hc hb hg) (by omega) hzs hn0 hn (texts_cells zs (T := 9) (by subst hC; exact heap_alloc_new _ _))).mono ?_
  rintro e w1 ⟨z, rfl, hm, c1, g1⟩
  exact ⟨z, rfl, hm, c1, (grownBy_below (some g) hb).trans g1⟩

/-- What may be drawn in the place of a text. -/
def SpT (s t : ByteArray) : Prop := t = s ∨ (∃ k, t = s.extract 0 k) ∨ (∃ c : ByteArray, c.size ≤ 1 ∧ t = s ++ c) ∨ (t.size = s.size ∧ ∃ k, ∀ p, p ≠ k → p < s.size → Wd.bt t p = Wd.bt s p)
theorem spT_ok {s t : ByteArray} (hs : Calm s) (h : SpT s t) : NoTen t ∧ t.size ≤ s.size + 1 := by
  rcases h with rfl | ⟨k, rfl⟩ | ⟨c, hc, rfl⟩ | ⟨hz, k, hk⟩
  · exact ⟨calm_noTen hs, by omega⟩
  · exact ⟨noTen_cut (calm_noTen hs) 0 k, by rw [ByteArray.size_extract]; omega⟩
  · exact ⟨calm_more hs (.inl hc), by rw [ByteArray.size_append]; omega⟩
  · exact ⟨calm_turn hs hz k hk, by omega⟩
theorem spT_turn (s T : ByteArray) (y : Nat) (hy : y < s.size) (hT : T.size = 1) : SpT s (s.extract 0 y ++ T ++ s.extract (y + 1) s.size) := by
  have z1 : (s.extract 0 y).size = y := by rw [ByteArray.size_extract]; omega
  have z2 : (s.extract (y + 1) s.size).size = s.size - (y + 1) := by rw [ByteArray.size_extract]; omega
  refine .inr (.inr (.inr ⟨by rw [ByteArray.size_append, ByteArray.size_append]; omega, y, fun p hp hps => ?_⟩))
  by_cases h : p < y
  · rw [bt_left (by rw [ByteArray.size_append]; omega), bt_left (by omega), bt_ex s 0 y p (by omega) (by omega), Nat.zero_add]
  · have e : p = (s.extract 0 y ++ T).size + (p - (y + 1)) := by rw [ByteArray.size_append]; omega
    have h2 := bt_right (a := s.extract 0 y ++ T) (b := s.extract (y + 1) s.size) (p := p - (y + 1)) (by omega)
    rw [← e, bt_ex s (y + 1) s.size _ (by omega) (Nat.le_refl _), show y + 1 + (p - (y + 1)) = p by omega] at h2
    exact h2
theorem cutHdX (s : ByteArray) (n : Nat) (h : n ≤ s.size) : ∀ W : World, (Instr.slice 9 (.string s) none (some (.int .i64 (n : Int))) none).run Tryd.prog W = .ok (.string (s.extract 0 n)) W := fun W => by
  rw [run_slice_string_to_if W 9 s .i64 (n : Int) Tryd.underlying9, if_pos ⟨by omega, by omega⟩, Int.toNat_natCast]
theorem cutTlX (s : ByteArray) (n : Nat) (h : n < s.size) : ∀ W : World, (Instr.slice 9 (.string s) (some (.int .i64 ((n : Int) + 1))) none none).run Tryd.prog W = .ok (.string (s.extract (n + 1) s.size)) W := fun W => by
  rw [run_slice_string_from_if W 9 s .i64 ((n : Int) + 1) Tryd.underlying9, if_pos ⟨by omega, by omega⟩]
  rfl

set_option maxRecDepth 100000 in
set_option maxHeartbeats 2000000 in
theorem spoiltX_any (w0 w : World) (g : Nat) (ao : Option Addr) (len cap : Nat) (t : ByteArray) (hlen : len ≤ 1048576) (ht : t.size ≤ 900000) (hcode : Code w0 ao len) (hc : CurAt w0 w g ao len cap) :
    Calls Tryd.prog 53 #[.pointer (some ⟨g, 0, none⟩), .string t] w fun e w' => ∃ T : ByteArray, e = .returned (.string T) ∧ SpT t T ∧ CurAt w0 w' g ao len cap ∧ w.grownBy w' (some g) := by
  have HC := hide hcode
  have HU := hide hc
  clear hcode hc
  go_enter Tryd.func53, Tryd.ntmps53
  go_wp2_with fail
  refine (below_any w0 _ g ao len cap _ hlen (by omega) HC.out HU.out).mono ?_
  rintro e w1 ⟨x, rfl, _, _, hc1, g1⟩
  have U1 := hide hc1
  have G1 := hide g1
  clear hc1 g1
  by_cases h0 : x = 0
  · have hy0 : ((x : Int) == 0) = true := by rw [beq_iff_eq]; omega
    clear h0
    go_wp2_with fail
    refine (text_any w0 _ g ao len cap _ hlen (by omega) HC.out U1.out).mono ?_
    rintro e w2 ⟨l, rfl, hl, hc2, g2⟩
    have U2 := hide hc2
    have G2 := hide (grownBy_trans G1.out g2)
    obtain ⟨T, HT⟩ : ∃ T : ByteArray, Hid ((⟨l.toArray⟩ : ByteArray) = T) := ⟨_, hide rfl⟩
    have hTz : T.size ≤ 1 := by rw [← HT.out]; show l.length ≤ 1; omega
    rw [HT.out]
    clear hl hc2 g2
    have hk : ¬ (9223372036854775807 < t.size + T.size) := by omega
    go_wp2
    go_ret
    exact ⟨_, rfl, .inr (.inr (.inl ⟨T, hTz, rfl⟩)), U2.out, G2.out⟩
  have hn0 : ((x : Int) == 0) = false := by rw [beq_eq_false_iff_ne]; omega
  by_cases h1 : x = 1
  · have hy1 : ((x : Int) == 1) = true := by rw [beq_iff_eq]; omega
    clear h0 h1
    go_wp2_with fail
    refine (below_any w0 _ g ao len cap _ hlen (by omega) HC.out U1.out).mono ?_
    rintro e w2 ⟨y, rfl, hy, _, hc2, g2⟩
    have hy' := hy (by omega)
    have U2 := hide hc2
    have G2 := hide (grownBy_trans G1.out g2)
    have hcut := cutHdX t y (by omega)
    clear hy hc2 g2
    go_wp2
    go_ret
    exact ⟨_, rfl, .inr (.inl ⟨y, rfl⟩), U2.out, G2.out⟩
  have hn1 : ((x : Int) == 1) = false := by rw [beq_eq_false_iff_ne]; omega
  by_cases h23 : x = 2 ∨ x = 3
  · have hcase : ((x : Int) == 2) = true ∨ (((x : Int) == 2) = false ∧ ((x : Int) == 3) = true) := by
      rcases h23 with h | h
      · exact .inl (by rw [beq_iff_eq]; omega)
      · exact .inr ⟨by rw [beq_eq_false_iff_ne]; omega, by rw [beq_iff_eq]; omega⟩
    clear h0 h1 h23
    by_cases hz : 0 < t.size
    · have hz' : decide ((0 : Int) < (t.size : Int)) = true := by simp; omega
      rcases hcase with hy2 | ⟨hn2, hy3⟩
      all_goals
        go_wp2_with fail
        refine (below_any w0 _ g ao len cap _ hlen (by omega) HC.out U1.out).mono ?_
        rintro e w2 ⟨y, rfl, hy, _, hc2, g2⟩
        have hy' : y < t.size := by have := hy (by omega); omega
        have U2 := hide hc2
        have U2d := hide (cur_keep hc2 (Below.refl _ _).drew (cur_lt hc2))
        have G2 := hide (grownBy_trans G1.out g2)
        have hcut1 := cutHdX t y (by omega)
        have hcut2 := cutTlX t y hy'
        have HSP := hide (fun T hT => spT_turn t T y hy' hT)
        have hR1 : (t.extract 0 y).size ≤ t.size := by rw [ByteArray.size_extract]; omega
        have hR2 : (t.extract (y + 1) t.size).size ≤ t.size := by rw [ByteArray.size_extract]; omega
        generalize t.extract 0 y = R1 at hcut1 HSP hR1
        generalize t.extract (y + 1) t.size = R2 at hcut2 HSP hR2
        have hwr : IntKind.i64.wrap ((y : Int) + 1) = (y : Int) + 1 := by rw [IntKind.wrap_i64]; omega
        clear hy hc2 g2
        go_wp2_with fail
        go_region_law ((first | (go_simp; go_at_call 51; refine (text_any w0 _ g ao len cap _ hlen (by omega) HC.out U2d.out).mono ?_; rintro e w3 ⟨l, rfl, hl, hc3, g3⟩; obtain ⟨T, HT⟩ : ∃ T : ByteArray, Hid ((⟨l.toArray⟩ : ByteArray) = T) := ⟨_, hide rfl⟩; have HTz : Hid (T.size = 1) := (by show _ = _; rw [← HT.out]; show l.length = 1; omega); have hTz : T.size ≤ 1 := (by rw [HTz.out]; omega); rw [HT.out]; have U3 := hide hc3; have G3 : Hid (w.grownBy w3 (some g)) := grownBy_trans G2.out (grownBy_trans (grownBy_below _ (Below.refl _ _).drew) g3); have hk1 : ¬ (9223372036854775807 < R1.size + T.size) := (by omega); have hk2 : ¬ (9223372036854775807 < R1.size + T.size + R2.size) := (by omega); clear hl hc3 g3) | fail))
        all_goals
          go_wp2
          go_ret
          exact ⟨_, rfl, HSP.out T HTz.out, U3.out, G3.out⟩
    · have hz' : decide ((0 : Int) < (t.size : Int)) = false := by rw [decide_eq_false_iff_not]; omega
      rcases hcase with hy2 | ⟨hn2, hy3⟩
      all_goals
        go_wp2
        go_ret
        exact ⟨_, rfl, .inl rfl, U1.out, G1.out⟩
  · have hn2 : ((x : Int) == 2) = false := by rw [beq_eq_false_iff_ne]; omega
    have hn3 : ((x : Int) == 3) = false := by rw [beq_eq_false_iff_ne]; omega
    clear h0 h1 h23
    go_wp2
    go_ret
    exact ⟨_, rfl, .inl rfl, U1.out, G1.out⟩

def okL : List ByteArray := [⟨#[79, 75]⟩, ⟨#[]⟩, ⟨#[80, 79, 78, 71]⟩]
theorem okL_rep {d : Nat} : ∀ z ∈ okL, z.size ≤ 8 ∧ Rep d (lineB ⟨#[43]⟩ z) := by
  intro z hz
  have h : (okL.all fun z => decide (z.size ≤ 8) && (List.range 8).all fun p => !(Wd.bt z p == 13)) = true := by decide
  have h1 := List.all_eq_true.1 h z hz
  simp only [Bool.and_eq_true, decide_eq_true_eq, List.all_eq_true, List.mem_range, Bool.not_eq_true', beq_eq_false_iff_ne] at h1
  exact ⟨h1.1, .line 43 z (.inl rfl) h1.1 (fun p hp => h1.2 p (by omega))⟩
theorem err_rep {d : Nat} : Rep d (lineB ⟨#[45]⟩ ⟨#[69, 82, 82, 32, 120]⟩) := by
  refine .line 45 _ (.inr rfl) (by decide) ?_
  have h : ((List.range 5).all fun p => !(Wd.bt ⟨#[69, 82, 82, 32, 120]⟩ p == 13)) = true := by decide
  intro p hp
  have h1 := List.all_eq_true.1 h p (List.mem_range.2 hp)
  simpa using h1

set_option maxRecDepth 100000 in
set_option maxHeartbeats 1000000 in
theorem l12Reply_any (w0 : World) (g : Nat) (ao : Option Addr) (len cap : Nat) (hlen : len ≤ 1048576) (hcode : Code w0 ao len) : ∀ (d a : Nat), a + d = 3 → ∀ w, CurAt w0 w g ao len cap →
    Calls Tryd.prog 30 #[.pointer (some ⟨g, 0, none⟩), .int .i64 (a : Int)] w fun e w' => ∃ t : ByteArray, e = .returned (.string t) ∧ Rep d t ∧ CurAt w0 w' g ao len cap ∧ w.grownBy w' (some g) := by
  intro d
  induction d with
  | zero => exact fun a ha w hc => step 0 a ha w hc (fun k hk => by cases hk)
  | succ d ih => exact fun a ha w hc => step (d + 1) a ha w hc (fun k hk W hW => by cases hk; exact ih (a + 1) (by omega) W hW)
where
  step (d a : Nat) (ha : a + d = 3) (w : World) (hc : CurAt w0 w g ao len cap)
      (IH : ∀ k, d = k + 1 → ∀ W, CurAt w0 W g ao len cap → Calls Tryd.prog 30 #[.pointer (some ⟨g, 0, none⟩), .int .i64 ((a : Int) + 1)] W fun e w' => ∃ t : ByteArray, e = .returned (.string t) ∧ Rep k t ∧ CurAt w0 w' g ao len cap ∧ W.grownBy w' (some g)) :
      Calls Tryd.prog 30 #[.pointer (some ⟨g, 0, none⟩), .int .i64 (a : Int)] w fun e w' => ∃ t : ByteArray, e = .returned (.string t) ∧ Rep d t ∧ CurAt w0 w' g ao len cap ∧ w.grownBy w' (some g) := by
    have HC := hide hcode
    have HU := hide hc
    have HI := hide IH
    clear hc IH hcode
    go_enter Tryd.func30, Tryd.ntmps30
    go_wp2_with fail
    refine (below_any w0 _ g ao len cap _ hlen (by omega) HC.out HU.out).mono ?_
    rintro e w1 ⟨x, rfl, hx, _, hc1, g1⟩
    have hx6 := hx (by omega)
    have U1 := hide hc1
    have G1 := hide g1
    clear hc1 g1 hx
    by_cases h0 : x = 0
    · have hy0 : ((x : Int) == 0) = true := by rw [beq_iff_eq]; omega
      have HPK := hide (pickIn_any w0 w1 g ao len cap 3 #[.string ⟨#[79, 75]⟩, .string ⟨#[]⟩, .string ⟨#[80, 79, 78, 71]⟩] okL rfl rfl (by omega) (by omega) hlen HC.out U1.out)
      clear h0
      go_wp2_with fail
      refine (HPK.out).mono ?_
      rintro e w2 ⟨z, rfl, hz, hc2, g2⟩
      have U2 := hide hc2
      have G2 := hide (grownBy_trans G1.out g2)
      have hr := okL_rep (d := d) z hz
      have HS := hide (fun W => specSimple_any z W (by omega))
      have HR := hide hr.2
      clear hz hr hc2 g2
      go_wp2_with fail
      refine (HS.out _).mono ?_
      rintro e w3 ⟨rfl, rfl⟩
      go_wp2
      go_ret
      exact ⟨_, rfl, HR.out, U2.out, G2.out⟩
    have hn0 : ((x : Int) == 0) = false := by rw [beq_eq_false_iff_ne]; omega
    by_cases h1 : x = 1
    · have hy1 : ((x : Int) == 1) = true := by rw [beq_iff_eq]; omega
      have HS := hide (fun W => specFault_any ⟨#[69, 82, 82, 32, 120]⟩ W (by decide))
      clear h0 h1
      go_wp2_with fail
      refine (HS.out _).mono ?_
      rintro e w3 ⟨rfl, rfl⟩
      go_wp2
      go_ret
      exact ⟨_, rfl, err_rep, U1.out, G1.out⟩
    have hn1 : ((x : Int) == 1) = false := by rw [beq_eq_false_iff_ne]; omega
    by_cases h2 : x = 2
    · have hy2 : ((x : Int) == 2) = true := by rw [beq_iff_eq]; omega
      clear h0 h1 h2
      go_wp2_with fail
      refine (below_any w0 _ g ao len cap _ hlen (by omega) HC.out U1.out).mono ?_
      rintro e w2 ⟨y, rfl, hy, _, hc2, g2⟩
      have hy' := hy (by omega)
      have U2 := hide hc2
      have G2 := hide (grownBy_trans G1.out g2)
      have HS := hide (fun W => specNumber_any ((y : Int) - 1000) W (by omega) (by omega))
      clear hy hc2 g2
      go_wp2_with fail
      refine (HS.out _).mono ?_
      rintro e w3 ⟨rfl, b3⟩
      have U3 := hide (cur_keep U2.out b3 (cur_lt U2.out))
      have G3 := hide (grownBy_trans G2.out (grownBy_below _ b3))
      clear b3
      go_wp2
      go_ret
      exact ⟨_, rfl, .num _ (by omega), U3.out, G3.out⟩
    have hn2 : ((x : Int) == 2) = false := by rw [beq_eq_false_iff_ne]; omega
    by_cases h3 : x = 3
    · have hy3 : ((x : Int) == 3) = true := by rw [beq_iff_eq]; omega
      clear h0 h1 h2 h3
      go_wp2_with fail
      refine (specNil_any _).mono ?_
      rintro e w3 ⟨rfl, rfl⟩
      go_wp2
      go_ret
      exact ⟨_, rfl, .nil, U1.out, G1.out⟩
    have hn3 : ((x : Int) == 3) = false := by rw [beq_eq_false_iff_ne]; omega
    by_cases h4 : x = 4 ∧ a < 3
    · have hy4 : ((x : Int) == 4) = true := by rw [beq_iff_eq]; omega
      have ha3 : decide ((a : Int) < 3) = true := by simp; omega
      obtain ⟨d, rfl⟩ : ∃ k, d = k + 1 := ⟨d - 1, by omega⟩
      have HG := hide (HI.out d rfl)
      have hgw := cur_lt U1.out
      clear h0 h1 h2 h3 h4 HI
      go_wp2_with fail
      go_loopw [5, 6] (fun vl ii wr => ∃ (k : Nat) (acc : List ByteArray), ii = .int .i64 k ∧ k ≤ 3 ∧ acc.length ≤ 3 ∧ Hid (acc.length = k) ∧ Hid (∀ t ∈ acc, Rep d t) ∧ Hid (wr.ownsRow w1.heap.size 9 1 vl acc.length (acc.map Value.string)) ∧ Hid (CurAt w0 wr g ao len cap) ∧ Hid (w1.grownBy wr (some g))) (fun _ ii _ => 4 - (intOf ii).toNat)
      case atStart => exact ⟨0, [], rfl, by omega, Nat.zero_le _, rfl, fun t ht => absurd ht List.not_mem_nil, own_none w1 _ (Nat.le_refl _), cur_keep U1.out ((Below.refl _ w1).alloc (Nat.le_refl _) _) hgw, grownBy_below _ ((Below.refl _ w1).alloc (Nat.le_refl _) _)⟩
      case round =>
        obtain ⟨k, acc, rfl, hk, hak, HAK, HR, HO, HUr, HGr⟩ := hrel
        go_wp2_with fail
        refine (below_any w0 _ g ao len cap _ hlen (by omega) HC.out HUr.out).mono ?_
        rintro e w2 ⟨y, rfl, hy, _, hc2, g2⟩
        have hy' := hy (by omega)
        have U2 := hide hc2
        have G2 := hide (grownBy_trans HGr.out g2)
        have O2 := hide (row_keep HO.out g2 hgw)
        clear hy hc2 g2
        by_cases hlt : k < y
        · have hlt' : decide ((k : Int) < (y : Int)) = true := by simp; omega
          obtain ⟨a0, c0, e0⟩ := slice_form HO.out
          subst e0
          go_wp2_with (first | (at_builtin; refine app_txt _ w1.heap.size rfl _ _ rfl _ acc t rfl (O3.out.alloc _) w3.heap.size rfl (heap_alloc_new w3 _) (by omega) hB3 ?_; intro g4 cap4 w4 ho4 hb4 hg4 hgg4 hgl4; have HO4 := hide ho4; have HB4 := hide (hA3.out.trans hb4); clear ho4 hb4 hg4) | (go_at_call 30; refine (HG.out _ U2.out).mono ?_; rintro e w3 ⟨t, rfl, hr3, hc3, g3⟩; have U3 := hide hc3; have G3 := hide (grownBy_trans G2.out g3); have O3 := hide (row_keep O2.out g3 hgw); have R3 := hide hr3; have hs3 := G3.out.size; have hA3 : Hid (Below w1.heap.size w3 (w3.alloc (.cells #[.string t] 9))) := (Below.refl _ w3).alloc hs3 _; have hB3 : w1.heap.size ≤ (w3.alloc (.cells #[.string t] 9)).heap.size := Nat.le_trans hs3 hA3.out.size; clear hr3 hc3 g3))
          go_roundw
          case rel =>
            refine ⟨k + 1, acc ++ [t], by go_num, by omega, by have := HAK.out; simp; omega, by have := HAK.out; show _ = _; simp; omega, ?_, HO4, cur_keep U3.out HB4.out hgw, grownBy_then G3.out HB4.out⟩
            intro q hq
            rcases List.mem_append.1 hq with hq | hq
            · exact HR.out q hq
            · obtain rfl : q = t := by simpa using hq
              exact R3.out
          case measure => simp [intOf]; omega
        · have hlt' : decide ((k : Int) < (y : Int)) = false := by simp; omega
          obtain ⟨a0, c0, e0⟩ := slice_form HO.out
          subst e0
          have hsz : ∀ t ∈ acc, t.size ≤ 1048576 := fun t ht => by
            have h1 := (rep_size (HR.out t ht)).2
            have h2 : repB d ≤ repB 2 := by
              rcases (show d = 0 ∨ d = 1 ∨ d = 2 by omega) with rfl | rfl | rfl <;> decide
            have h3 : repB 2 = 2920 := rfl
            omega
          have HSA := hide (specArray_any acc a0 c0 w2 (by omega) (rowText_rows (rowText_own O2.out)) hsz)
          clear hsz
          go_wp2_with fail
          refine (HSA.out).mono ?_
          rintro e w3 ⟨rfl, b3⟩
          have U3 := hide (cur_keep U2.out b3 (cur_lt U2.out))
          have G3 := hide (grownBy_trans G1.out (grownBy_trans G2.out (grownBy_below _ b3)))
          clear b3
          go_wp2
          go_ret
          exact ⟨_, rfl, .arr acc (by omega) HR.out, U3.out, G3.out⟩
    have hway : (((x : Int) == 4) = false) ∨ (((x : Int) == 4) = true ∧ decide ((a : Int) < 3) = false) := by
      by_cases h : x = 4
      · exact .inr ⟨by rw [beq_iff_eq]; omega, by simp; omega⟩
      · exact .inl (by rw [beq_eq_false_iff_ne]; omega)
    clear h0 h1 h2 h3 h4 HI
    rcases hway with hn4 | ⟨hy4, ha3⟩
    all_goals
      go_wp2_with fail
      refine (below_any w0 _ g ao len cap _ hlen (by omega) HC.out U1.out).mono ?_
      rintro e w2 ⟨y, rfl, hy, _, hc2, g2⟩
      have hy' := hy (by omega)
      have U2 := hide hc2
      have G2 := hide (grownBy_trans G1.out g2)
      clear hy hc2 g2
      go_wp2_with fail
      refine (text_any w0 _ g ao len cap _ hlen (by omega) HC.out U2.out).mono ?_
      rintro e w3 ⟨l, rfl, hl, hc3, g3⟩
      have U3 := hide hc3
      have G3 := hide (grownBy_trans G2.out g3)
      obtain ⟨T, HT⟩ : ∃ T : ByteArray, Hid ((⟨l.toArray⟩ : ByteArray) = T) := ⟨_, hide rfl⟩
      have hTz : T.size ≤ 8 := by rw [← HT.out]; show l.length ≤ 8; omega
      rw [HT.out]
      have HS := hide (fun W => specBulk_any T W (by omega))
      clear hl hc3 g3
      go_wp2_with fail
      refine (HS.out _).mono ?_
      rintro e w4 ⟨rfl, b4⟩
      have U4 := hide (cur_keep U3.out b4 (cur_lt U3.out))
      have G4 := hide (grownBy_trans G3.out (grownBy_below _ b4))
      clear b4
      go_wp2
      go_ret
      exact ⟨_, rfl, .bulk T hTz, U4.out, G4.out⟩
end Go.Proofs.YtnoalenfeakcpaaDoor
