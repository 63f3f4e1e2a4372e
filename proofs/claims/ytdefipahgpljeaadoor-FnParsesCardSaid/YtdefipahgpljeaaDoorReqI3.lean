/- The program's parser: arguments, one by one. -/
import Derived.Test.YtdefipahgpljeaaDoorReqI2
namespace Go.Proofs.YtdefipahgpljeaaDoor
open Go.RowKit

/-- The arguments are put into the parser's block. -/
theorem prs_put {w : World} {g : Nat} {s : ByteArray} {i : Nat} {v : Value} (h : Prs w g s i v) (v' : Value) : Prs (w.setCell ⟨g, 2, none⟩ v') g s i v' := (heap_setCell_same _ _ _ _ _ _ h).trans rfl
theorem own_put {w : World} {g B : Nat} {v v' : Value} {L : List ByteArray} (h : w.ownsRow B 9 1 v L.length (L.map Value.string)) (hg : g < B) : (w.setCell ⟨g, 2, none⟩ v').ownsRow B 9 1 v L.length (L.map Value.string) := by
  refine h.kept (grownBy_store (World.grownBy.refl w (some g)) 2 _) ?_
  cases hv : v.ownBlock with
  | none => exact .inl rfl
  | some k => exact .inr (by have := (h.lt k hv).1; intro e; simp at e; omega)

/-- An argument: whether it may still come (0), stands there (1), or can be none (2). -/
def argSt (s : ByteArray) (i : Nat) : Nat := if headM s i 36 60 ≠ 1 then headM s i 36 60 else if s.size < figE s (i + 1) + 2 + numV s (i + 1) then 0 else crlf s (figE s (i + 1) + 2 + numV s (i + 1))
theorem rd_yes {s : ByteArray} {i : Nat} (h : argSt s i = 1) (c : Nat) (acc : List ByteArray) : rdArgs s (c + 1) i acc = rdArgs s c (figE s (i + 1) + 2 + numV s (i + 1) + 2) (acc ++ [s.extract (figE s (i + 1) + 2) (figE s (i + 1) + 2 + numV s (i + 1))]) := by
  unfold argSt headM oneSt at h
  rw [rdArgs]
  by_cases h1 : s.size ≤ i
  · simp [h1] at h
  by_cases h2 : Wd.bt s i = 36
  · by_cases h3 : headSt s (i + 1) 60 = 1
    · by_cases h4 : s.size < figE s (i + 1) + 2 + numV s (i + 1)
      · simp [h1, h2, h3, h4] at h
      · simp [h1, h2, h3, h4] at h
        simp [h1, h2, h3, h4, h]
    · simp [h1, h2, h3] at h
  · simp [h1, h2] at h
theorem rd_no {s : ByteArray} {i : Nat} (h : argSt s i ≠ 1) (c : Nat) (acc : List ByteArray) : rdArgs s (c + 1) i acc = (argSt s i, 0, []) := by
  unfold argSt headM oneSt at h ⊢
  rw [rdArgs]
  by_cases h1 : s.size ≤ i
  · simp [h1]
  by_cases h2 : Wd.bt s i = 36
  · by_cases h3 : headSt s (i + 1) 60 = 1
    · by_cases h4 : s.size < figE s (i + 1) + 2 + numV s (i + 1)
      · simp [h1, h2, h3, h4]
      · simp [h1, h2, h3, h4] at h
        simp [h1, h2, h3, h4, h]
    · simp [h1, h2, h3]
  · simp [h1, h2]
theorem argSt_le (s : ByteArray) (i : Nat) : argSt s i ≤ 2 := by
  unfold argSt headM oneSt
  have h1 := headSt_le s (i + 1) 60
  have h2 := crlf_le s (figE s (i + 1) + 2 + numV s (i + 1))
  repeat (first | split | omega)
theorem headM_head {s : ByteArray} {i c lim : Nat} (h : headM s i c lim = 1) : headSt s (i + 1) lim = 1 ∧ i < s.size := by
  unfold headM oneSt at h
  by_cases h1 : s.size ≤ i
  · simp [h1] at h
  by_cases h2 : Wd.bt s i = c
  · simp [h1, h2] at h
    exact ⟨h, by omega⟩
  · simp [h1, h2] at h

set_option maxRecDepth 100000 in
set_option maxHeartbeats 4000000 in
theorem argument_any (w0 w : World) (g : Nat) (s : ByteArray) (i : Nat) (v : Value) (L : List ByteArray) (hz : s.size ≤ 1048576) (hi : i ≤ s.size) (hL : L.length ≤ 1000) (h : PS w0 w g s i v L) :
    Calls Tryd.prog 44 #[.pointer (some ⟨g, 0, none⟩)] w fun e w' => e = .returned (.int .i64 (argSt s i : Int)) ∧ ∃ j v' L', j ≤ s.size ∧ PS w0 w' g s j v' L' ∧ (argSt s i = 1 → j = figE s (i + 1) + 2 + numV s (i + 1) + 2 ∧ L' = L ++ [s.extract (figE s (i + 1) + 2) (figE s (i + 1) + 2 + numV s (i + 1))]) := by
  have HH := hide (head_any w0 w g s 36 i 60 v L hz hi (by omega) h)
  clear h
  rw [show (36 : UInt8).toNat = 36 from rfl] at HH
  by_cases h1 : headM s i 36 60 = 1
  · have hV : headV s i 36 60 = numV s (i + 1) := by unfold headV; rw [if_pos h1]
    have hf := headSt_yes (headM_head h1).1
    have hsz60 := hf.2.1.2.2.2
    have hnxz := hf.2.2.2
    clear hf
    rw [h1, hV] at HH
    clear hV
    have hA1 : Hid (argSt s i = if s.size < figE s (i + 1) + 2 + numV s (i + 1) then 0 else crlf s (figE s (i + 1) + 2 + numV s (i + 1))) := by show _ = _; unfold argSt; rw [if_neg (fun hx => hx h1)]
    obtain ⟨nx, hnx⟩ : ∃ nx, Hid (figE s (i + 1) + 2 = nx) := ⟨_, rfl⟩
    obtain ⟨sz, hsz⟩ : ∃ sz, Hid (numV s (i + 1) = sz) := ⟨_, rfl⟩
    rw [hnx.out, hsz.out] at hA1
    rw [hnx.out] at HH hnxz
    rw [hsz.out] at HH hsz60
    rw [hnx.out, hsz.out]
    by_cases h2 : s.size < nx + sz
    · have hA2 : Hid (argSt s i = 0) := by show _ = _; rw [hA1.out, if_pos h2]
      go_enter Tryd.func44, Tryd.ntmps44
      go_wp2_with fail
      refine (HH.out).mono ?_
      rintro e w1 ⟨rfl, j1, hj1, hp1, hq1⟩
      obtain rfl := hq1 (by trivial)
      have HT := hide (take_no w0 w1 g s j1 sz v L hz hj1 h2 hp1)
      clear hp1
      go_wp2_with fail
      refine (HT.out).mono ?_
      rintro e w2 ⟨rfl, hp2⟩
      have HP2 := hide hp2
      clear hp2
      go_wp2
      go_ret
      rw [hA2.out]
      exact ⟨rfl, j1, v, L, hj1, HP2.out, fun h => by cases h⟩
    · have hA2 : Hid (argSt s i = crlf s (nx + sz)) := by show _ = _; rw [hA1.out, if_neg h2]
      obtain ⟨X, hX, hXz⟩ : ∃ X : ByteArray, Hid (s.extract nx (nx + sz) = X) ∧ X.size ≤ 1048576 := ⟨_, rfl, by rw [ByteArray.size_extract]; omega⟩
      rw [hX.out]
      go_enter Tryd.func44, Tryd.ntmps44
      go_wp2_with fail
      refine (HH.out).mono ?_
      rintro e w1 ⟨rfl, j1, hj1, hp1, hq1⟩
      obtain rfl := hq1 (by trivial)
      have HT := hide (take_yes w0 w1 g s j1 sz v L hz (by omega) hp1)
      rw [hX.out] at HT
      clear hp1
      go_wp2_with fail
      refine (HT.out).mono ?_
      rintro e w2 ⟨rfl, hp2⟩
      have HP2 := hide hp2
      clear hp2 hq1
      have HPr := hide HP2.out.prs
      have HOwn := hide HP2.out.own
      have hgB : g < g + 1 := Nat.lt_succ_self g
      have hgw := prs_lt HP2.out.prs
      have hBw : g + 1 ≤ w2.heap.size := hgw
      obtain ⟨-, -, hc2, -, hf2⟩ := prs_cells HP2.out.prs
      go_wp2_with fail
      go_region_law ((first | (refine step_app_txt _ (g + 1) (by rfl) _ _ (by rfl) _ (L) X (by rfl) (HO4.out.alloc _) w4.heap.size (by simp [Act.eval]) (heap_alloc_new w4 _) (by omega) hB4 ?_; intro g3 cap3 w3 hown3 hb3 hgr3 hg3 hgl3; have hn0 : Prs w3 g s (j1 + sz) v := (hb3.block g hgB).trans ((((Below.refl _ w4).alloc (Nat.le_refl _) _).block g hg4).trans HP4.out); obtain ⟨-, -, hn2, -, hn3⟩ := prs_cells hn0; have HN0 := hide hn0; have HO3 := hide hown3; have HB3 := hide ((B4.out.mono hBw).trans (((Below.refl _ w4).alloc (Nat.le_trans hBw B4.out.size) _).trans hb3)); clear hn0 hown3 hb3 hgr3) | (go_simp; go_at_call 48; refine (ownText_any X _ hXz).mono ?_; rintro e w4 ⟨rfl, b4⟩; have B4 : Hid (Below w2.heap.size w2 w4) := (Below.refl _ w2).drew.trans b4; have hg4 : g < w4.heap.size := Nat.lt_of_lt_of_le hgw B4.out.size; have HP4 : Hid (Prs w4 g s (j1 + sz) v) := (B4.out.block g hgw).trans HPr.out; have hall0 : w4.cell? ⟨g, 2, none⟩ = some v := (prs_cells HP4.out).2.2.1; have hall : (w4.alloc (.cells #[.string X] 9)).cell? ⟨g, 2, none⟩ = some v := (((Below.refl _ w4).alloc (Nat.le_refl _) _).cell (p := ⟨g, 2, none⟩) hg4).trans hall0; have HO4 := hide (ownsRow_below HOwn.out B4.out); have hB4 : g + 1 ≤ (w4.alloc (.cells #[.string X] 9)).heap.size := Nat.le_trans hBw (Nat.le_trans B4.out.size (by simp)); clear b4)))
      all_goals
        obtain ⟨w5, hw5⟩ : ∃ w5, w3.setCell ⟨g, 2, none⟩ (.slice (some ⟨g3, 0, none⟩) (L.length + 1) cap3) = w5 := ⟨_, rfl⟩
        have HP5 : Hid (PS w0 w5 g s (j1 + sz) (.slice (some ⟨g3, 0, none⟩) (L.length + 1) cap3) (L ++ [X])) := by
          rw [← hw5]
          exact ⟨prs_put HN0.out _, HP2.out.ge, (HP2.out.bel.trans (HB3.out.mono (Nat.le_succ_of_le HP2.out.ge))).setCell (p := ⟨g, 2, none⟩) HP2.out.ge _, own_put HO3.out hgB⟩
        rw [hw5]
        clear hw5
        have HX := hide (expect_crlf w0 w5 g s (j1 + sz) _ _ hz (by omega) HP5.out)
        go_wp2_with fail
        refine (HX.out).mono ?_
        rintro e w6 ⟨rfl, j6, hj6, hp6, hq6⟩
        have HP6 := hide hp6
        have HQ6 := hide hq6
        clear hp6 hq6
        go_wp2
        go_ret
        rw [hA2.out]
        exact ⟨rfl, j6, _, _, hj6, HP6.out, fun h => ⟨HQ6.out h, rfl⟩⟩
  · obtain ⟨c3, hc3, hc3n⟩ : ∃ c3 : Nat, Hid (headM s i 36 60 = c3) ∧ ((c3 : Int) != 1) = true := ⟨_, rfl, by simp; omega⟩
    have hA : Hid (argSt s i = c3) := by show _ = _; unfold argSt; rw [if_pos h1]; exact hc3.out
    rw [hc3.out] at HH
    go_enter Tryd.func44, Tryd.ntmps44
    go_wp2_with fail
    refine (HH.out).mono ?_
    rintro e w1 ⟨rfl, j1, hj1, hp1, hq1⟩
    have HP1 := hide hp1
    clear hp1
    go_wp2
    go_ret
    rw [hA.out]
    exact ⟨rfl, j1, v, L, hj1, HP1.out, fun hx => absurd (hc3.out.trans hx) h1⟩

/-- What a request in the first form is, by its head and its arguments. -/
def cRes (s : ByteArray) : Nat × Nat × List ByteArray := if headM s 0 42 8 = 1 then rdArgs s (numV s 1) (figE s 1 + 2) [] else (headM s 0 42 8, 0, [])
theorem parse_counted {s : ByteArray} (h0 : s.size ≠ 0) (h : Wd.bt s 0 = 42) : parse s = cRes s := by
  have e : headM s 0 42 8 = headSt s 1 8 := by
    unfold headM oneSt
    rw [if_neg (show ¬ s.size ≤ 0 by omega), if_neg (show ¬ Wd.bt s 0 ≠ 42 by omega)]
    rfl
  unfold parse cRes
  rw [if_neg h0, if_neg (show ¬ Wd.bt s 0 ≠ 42 by omega), e]

set_option maxRecDepth 100000 in
set_option maxHeartbeats 1000000 in
theorem counted_any (w0 w : World) (g : Nat) (s : ByteArray) (v : Value) (hz : s.size ≤ 1048576) (h : PS w0 w g s 0 v []) :
    Calls Tryd.prog 34 #[.pointer (some ⟨g, 0, none⟩)] w fun e w' => e = .returned (.int .i64 ((cRes s).1 : Int)) ∧ Below w0.heap.size w0 w' ∧ ((cRes s).1 = 1 → ∃ v', PS w0 w' g s (cRes s).2.1 v' (cRes s).2.2) := by
  have HH := hide (head_any w0 w g s 42 0 8 v [] hz (Nat.zero_le _) (by omega) h)
  clear h
  rw [show (42 : UInt8).toNat = 42 from rfl] at HH
  by_cases h1 : headM s 0 42 8 = 1
  · have hV : headV s 0 42 8 = numV s 1 := by unfold headV; rw [if_pos h1]
    have hf := headSt_yes (headM_head h1).1
    have hn8 : numV s 1 ≤ 8 := hf.2.1.2.2.2
    have hnxz : figE s 1 + 2 ≤ s.size := hf.2.2.2
    clear hf
    rw [h1, hV] at HH
    clear hV
    have hC : Hid (cRes s = rdArgs s (numV s 1) (figE s 1 + 2) []) := by show _ = _; unfold cRes; rw [if_pos h1]
    obtain ⟨n, hn⟩ : ∃ n, Hid (numV s 1 = n) := ⟨_, rfl⟩
    obtain ⟨p0, hp0⟩ : ∃ p0, Hid (figE s 1 + 2 = p0) := ⟨_, rfl⟩
    rw [show figE s (0 + 1) = figE s 1 from rfl, hp0.out] at HH
    rw [hn.out] at HH hn8 hC
    rw [hp0.out] at hnxz hC
    clear h1
    go_enter Tryd.func34, Tryd.ntmps34
    go_wp2_with fail
    refine (HH.out).mono ?_
    rintro e w1 ⟨rfl, j1, hj1, hp1, hq1⟩
    have hj : j1 = p0 := hq1 (by trivial)
    rw [hj] at hp1
    have HP1 := hide hp1
    clear hp1 hq1 hj hj1 HH
    go_wp2_with fail
    go_loopw [4, 11] (fun st ii wr => ∃ (k p : Nat) (v' : Value) (acc : List ByteArray), k ≤ n ∧ p ≤ s.size ∧ acc.length ≤ k ∧ st = .int .i64 1 ∧ ii = .int .i64 k ∧ Hid (rdArgs s (n - k) p acc = cRes s) ∧ Hid (PS w0 wr g s p v' acc)) (fun _ ii _ => n - (intOf ii).toNat)
    case atStart => exact ⟨0, p0, v, [], Nat.zero_le _, hnxz, Nat.le_refl _, rfl, rfl, hC.out.symm, HP1⟩
    case round =>
      obtain ⟨k, p, v', acc, hk, hps, hacc, rfl, rfl, HR, HP⟩ := hrel
      by_cases hlt : k < n
      · have HA := hide (argument_any w0 wr g s p v' acc hz hps (by omega) HP.out)
        have hnk : n - k = (n - (k + 1)) + 1 := by omega
        by_cases ha : argSt s p = 1
        · have HR2 := hide HR.out
          rw [hnk, rd_yes ha] at HR2
          rw [ha] at HA
          clear ha hnk
          go_wp2_with fail
          refine (HA.out).mono ?_
          rintro e w2 ⟨rfl, j2, v2, L2, hj2, hp2, hq2⟩
          obtain ⟨rfl, rfl⟩ := hq2 (by trivial)
          have HP2 := hide hp2
          clear hp2 hq2
          go_wp2_with fail
          go_roundw
          case rel => exact ⟨k + 1, _, _, _, by omega, hj2, by simp; omega, rfl, by go_num, HR2, HP2⟩
          case measure => simp [intOf]; omega
        · have HR2 := hide HR.out
          rw [hnk, rd_no ha] at HR2
          have hle := argSt_le s p
          obtain ⟨c3, hc3, hc3n⟩ : ∃ c3 : Nat, Hid (argSt s p = c3) ∧ ((c3 : Int) != 1) = true := ⟨_, rfl, by simp; omega⟩
          rw [hc3.out] at HA HR2 ha
          have HNA := hide ha
          clear ha hnk hle
          go_wp2_with fail
          refine (HA.out).mono ?_
          rintro e w2 ⟨rfl, j2, v2, L2, hj2, hp2, hq2⟩
          have HP2 := hide hp2
          clear hp2 hq2
          go_wp2
          go_ret
          rw [← HR2.out]
          exact ⟨rfl, HP2.out.bel, fun hx => absurd hx HNA.out⟩
      · have hke : n - k = 0 := by omega
        rw [hke] at HR
        clear hke
        go_wp2
        go_ret
        rw [← HR.out]
        exact ⟨rfl, HP.out.bel, fun _ => ⟨v', HP.out⟩⟩
  · obtain ⟨c3, hc3, hc3n⟩ : ∃ c3 : Nat, Hid (headM s 0 42 8 = c3) ∧ Hid (c3 ≠ 1) := ⟨_, rfl, h1⟩
    have hV : headV s 0 42 8 = 0 := by unfold headV; rw [if_neg h1]
    have hC : Hid (cRes s = (c3, 0, [])) := by show _ = _; unfold cRes; rw [if_neg h1, hc3.out]
    rw [hc3.out, hV] at HH
    clear h1 hV
    go_enter Tryd.func34, Tryd.ntmps34
    go_wp2_with fail
    refine (HH.out).mono ?_
    rintro e w1 ⟨rfl, j1, hj1, hp1, hq1⟩
    have HP1 := hide hp1
    clear hp1 hq1
    go_wp2_with fail
    go_loopw [4, 11] (fun st ii wr => st = .int .i64 (c3 : Int) ∧ ii = .int .i64 0 ∧ wr = w1) (fun _ _ _ => 0)
    case atStart => exact ⟨rfl, rfl, rfl⟩
    case round =>
      obtain ⟨rfl, rfl, rfl⟩ := hrel
      go_wp2
      go_ret
      rw [hC.out]
      exact ⟨rfl, HP1.out.bel, fun hx => absurd hx hc3n.out⟩
end Go.Proofs.YtdefipahgpljeaaDoor
