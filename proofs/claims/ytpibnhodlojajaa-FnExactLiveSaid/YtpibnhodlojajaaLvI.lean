/- Live: program and specification. -/
import Derived.Test.YtpibnhodlojajaaEntB
import Derived.Test.YtpibnhodlojajaaEntL
import Derived.Test.YtpibnhodlojajaaValC
import Derived.Test.YtpibnhodlojajaaOwnE
namespace Go.Proofs.Ytpibnhodlojajaa
open Go.RowKit

def aliveB (now : Int) (e : EntD) : Bool := e.val.til == 0 || decide (now < e.val.til)
def liveDs (now : Int) (es : List EntD) : List EntD := es.filter (aliveB now)
theorem liveDs_yes {now : Int} {es : List EntD} {k : Nat} (hk : k < es.length) (h : aliveB now es[k] = true) : liveDs now (es.take (k + 1)) = liveDs now (es.take k) ++ [es[k]] := by
  unfold liveDs
  rw [List.take_succ_eq_append_getElem hk, List.filter_append]
  simp [h]
theorem liveDs_no {now : Int} {es : List EntD} {k : Nat} (hk : k < es.length) (h : aliveB now es[k] = false) : liveDs now (es.take (k + 1)) = liveDs now (es.take k) := by
  unfold liveDs
  rw [List.take_succ_eq_append_getElem hk, List.filter_append]
  simp [h]
theorem liveDs_len (now : Int) (es : List EntD) : (liveDs now es).length ≤ es.length := List.length_filter_le _ _

set_option maxRecDepth 100000 in
set_option maxHeartbeats 3200000 in
theorem implLive_any (es : List EntD) (now : Int) (ao : Option Addr) (cap : Nat) (w : World) (hl : es.length ≤ 1048576) (hes : EntriesAt w ao es) (hsz : ∀ e ∈ es, EntS 1048576 e) :
    Calls Try.prog 8 #[.slice ao es.length cap, .int .i64 now] w fun e w' => (∃ v, e = .returned v ∧ RowEnt w' w.heap.size v (liveDs now es)) ∧ Below w.heap.size w w' := by
  have HT := hide hes
  have HS := hide hsz
  clear hes hsz
  go_enter Try.func8, Try.ntmps8
  go_wp2
  go_loopw [5, 10] (fun vv ii wr => ∃ (k : Nat), ii = .int .i64 (k : Int) ∧ k ≤ es.length ∧ Hid (BuildE wr w.heap.size vv (liveDs now (es.take k))) ∧ Hid (Below w.heap.size w wr)) (fun _ ii _ => es.length - (intOf ii).toNat)
  case atStart => exact ⟨0, rfl, by omega, buildE_nil _ _, Below.refl _ _⟩
  case round =>
    obtain ⟨k, rfl, hk, HO, HB⟩ := hrel
    by_cases hlt : k < es.length
    · have hlt' : decide ((k : Int) < (es.length : Int)) = true := by simp; omega
      obtain ⟨b, off, rfl, hbw, hc0, hc1, hc2, hc3, a, c, hc4, hta⟩ := entriesAt_keep HT.out HB.out k hlt
      have hws := HB.out.size
      have hsA := HS.out es[k] (List.getElem_mem hlt)
      have HY : Hid (aliveB now es[k] = true → liveDs now (es.take (k + 1)) = liveDs now (es.take k) ++ [es[k]]) := liveDs_yes hlt
      have HNo : Hid (aliveB now es[k] = false → liveDs now (es.take (k + 1)) = liveDs now (es.take k)) := liveDs_no hlt
      have HOV := hide (fun W (hW : Below wr.heap.size wr W) => ownEntry_any es[k] a c W hsA (textsAt_keep hta hW))
      obtain ⟨L, HL⟩ : ∃ L, Hid (liveDs now (es.take k) = L) := ⟨_, hide rfl⟩
      have hel : L.length ≤ 1048576 := by rw [← HL.out]; have := liveDs_len now (es.take k); rw [List.length_take] at this; omega
      rw [HL.out] at HO HY HNo
      generalize es[k] = F at hc0 hc1 hc2 hc3 hc4 HY HNo HOV
      clear hsA hta
      obtain ⟨ky, kd, u, t, ts⟩ := F
      simp only [aliveB] at hc0 hc1 hc2 hc3 hc4 HY HNo HOV
      have hi0 : (0 : Int) ≤ (k : Int) := by omega
      have hi1 : (k : Int) < (es.length : Int) := by omega
      obtain ⟨wE, hwE⟩ : ∃ wE, wE = wr.alloc (.cells #[.string ky, .int .i64 kd, .int .i64 u, .string t, .slice a ts.length c] 42) := ⟨_, rfl⟩
      have BE : Hid (Below wr.heap.size wr wE) := by rw [hwE]; exact (Below.refl _ wr).alloc (Nat.le_refl _) _
      have PE : Hid (wE.heap[wr.heap.size]? = some (.cells #[.string ky, .int .i64 kd, .int .i64 u, .string t, .slice a ts.length c] 42 (0, 0))) := by rw [hwE]; exact heap_alloc_new _ _
      have WE := hide (HB.out.trans (BE.out.mono hws))
      have HOE := hide (buildE_below HO.out BE.out)
      have hBE : w.heap.size ≤ wE.heap.size := WE.out.size
      have KC : Hid (∀ X, Below wE.heap.size wE X → X.cell? ⟨wr.heap.size, 0, none⟩ = some (.string ky) ∧ X.cell? ⟨wr.heap.size, 1, none⟩ = some (.int .i64 kd) ∧ X.cell? ⟨wr.heap.size, 2, none⟩ = some (.int .i64 u) ∧ X.cell? ⟨wr.heap.size, 3, none⟩ = some (.string t) ∧ X.cell? ⟨wr.heap.size, 4, none⟩ = some (.slice a ts.length c)) := fun X hX => by
        have h := ent_cells ((hX.block _ (obj_lt PE.out)).trans PE.out)
        exact h.1
      have HOV2 := hide (HOV.out wE BE.out)
      obtain ⟨x0, x1, x2, x3, x4⟩ := KC.out _ (Below.refl _ _)
      have hcase : ((u == 0) = true ∨ ((u == 0) = false ∧ decide (now < u) = true)) ∨ ((u == 0) = false ∧ decide (now < u) = false) := by
        cases (u == 0) <;> cases (decide (now < u)) <;> simp
      rcases hcase with (h0 | ⟨h0, h1⟩) | ⟨h0, h1⟩
      rotate_left 2
      · have HE := hide (HNo.out (by rw [h0, h1]; rfl))
        go_upto_region 5 with fail
        rw [← hwE]
        clear hwE
        go_wp2
        go_roundw
        case rel => exact ⟨k + 1, by go_num, by omega, by show BuildE _ _ _ _; rw [HE.out]; exact HOE.out, WE⟩
        case measure => simp [intOf]; omega
      all_goals
        have HE := hide (HY.out (by rw [h0]; first | rfl | (rw [h1]; rfl)))
        go_upto_region 5 with fail
        rw [← hwE]
        clear hwE
        go_wp2_with fail
        refine HOV2.out.mono ?_
        rintro e w4 ⟨⟨a4, c4, rfl, r4⟩, b4⟩
        have E4 := hide b4
        have R4 := hide r4
        clear b4 r4
        go_wp2_with (at_builtin; refine app_ent wE _ w.heap.size (by rfl) _ _ (by rfl) _ (.slice a4 ts.length c4) L ⟨ky, kd, u, t, ts⟩ (by rfl) HOE.out hBE (E4.out.alloc E4.out.size _) (rowText_below R4.out ((Below.refl _ w4).alloc (Nat.le_refl _) _)) w4.heap.size (by rfl) (heap_alloc_new w4 _) hel ?_; intro g5 cap5 w5 ho5 hb5 _; have HO5 := hide ho5; have HB5 := hide (((E4.out.alloc E4.out.size _).mono hBE).trans hb5); clear ho5 hb5)
        go_roundw
        case rel => exact ⟨k + 1, by go_num, by omega, by show BuildE _ _ _ _; rw [HE.out]; exact HO5.out, WE.out.trans HB5.out⟩
        case measure => simp [intOf]; omega
    · have hlt' : decide ((k : Int) < (es.length : Int)) = false := by simp; omega
      have hke : k = es.length := by omega
      subst hke
      have HO2 := HO.out
      rw [List.take_length] at HO2
      have HO3 := hide (buildE_row HO2)
      clear HO2
      go_wp2
      go_ret
      exact ⟨⟨_, rfl, HO3.out⟩, HB.out⟩

set_option maxRecDepth 100000 in
set_option maxHeartbeats 3200000 in
theorem specLive_any (es : List EntD) (now : Int) (ao : Option Addr) (cap : Nat) (w : World) (hl : es.length ≤ 1048576) (hes : EntriesAt w ao es) (hsz : ∀ e ∈ es, EntS 1048576 e) :
    Calls Try.prog 6 #[.slice ao es.length cap, .int .i64 now] w fun e w' => (∃ v, e = .returned v ∧ RowEnt w' w.heap.size v (liveDs now es)) ∧ Below w.heap.size w w' := by
  have HT := hide hes
  have HS := hide hsz
  clear hes hsz
  go_enter Try.func6, Try.ntmps6
  go_wp2
  go_loopw [5, 6] (fun vv ii wr => ∃ (k : Nat), ii = .int .i64 (k : Int) ∧ k ≤ es.length ∧ Hid (BuildE wr w.heap.size vv (liveDs now (es.take k))) ∧ Hid (Below w.heap.size w wr)) (fun _ ii _ => es.length - (intOf ii).toNat)
  case atStart => exact ⟨0, rfl, by omega, buildE_lit _ _ (Nat.le_refl _) _ rfl, (Below.refl _ w).alloc (Nat.le_refl _) _⟩
  case round =>
    obtain ⟨k, rfl, hk, HO, HB⟩ := hrel
    by_cases hlt : k < es.length
    · have hlt' : decide ((k : Int) < (es.length : Int)) = true := by simp; omega
      have KC : Hid (∀ X, Below wr.heap.size wr X → ∃ (b off : Nat) (a : Option Addr) (c : Nat), ao = some ⟨b, off, none⟩ ∧ X.cell? ⟨b, off + k * 5, none⟩ = some (.string es[k].key) ∧ X.cell? ⟨b, off + k * 5 + 1, none⟩ = some (.int .i64 es[k].val.kind) ∧ X.cell? ⟨b, off + k * 5 + 2, none⟩ = some (.int .i64 es[k].val.til) ∧ X.cell? ⟨b, off + k * 5 + 3, none⟩ = some (.string es[k].val.text) ∧ X.cell? ⟨b, off + k * 5 + 4, none⟩ = some (.slice a es[k].val.items.length c) ∧ TextsAt X a es[k].val.items) := fun X hX => by
        obtain ⟨b, off, h1, h2, h3, h4, h5, h6, a, c, h7, h8⟩ := entriesAt_keep HT.out (HB.out.trans (hX.mono HB.out.size)) k hlt
        exact ⟨b, off, a, c, h1, h3, h4, h5, h6, h7, h8⟩
      obtain ⟨b, off, rfl, hbw, hc0, hc1, hc2, hc3, a, c, hc4, hta⟩ := entriesAt_keep HT.out HB.out k hlt
      have HCA : Hid (∀ X, Below wr.heap.size wr X → X.cell? ⟨b, off + k * 5, none⟩ = some (.string es[k].key) ∧ X.cell? ⟨b, off + k * 5 + 1, none⟩ = some (.int .i64 es[k].val.kind) ∧ X.cell? ⟨b, off + k * 5 + 2, none⟩ = some (.int .i64 es[k].val.til) ∧ X.cell? ⟨b, off + k * 5 + 3, none⟩ = some (.string es[k].val.text) ∧ X.cell? ⟨b, off + k * 5 + 4, none⟩ = some (.slice a es[k].val.items.length c)) := fun X hX => ⟨(hX.cell (p := ⟨b, off + k * 5, none⟩) hbw).trans hc0, (hX.cell (p := ⟨b, off + k * 5 + 1, none⟩) hbw).trans hc1, (hX.cell (p := ⟨b, off + k * 5 + 2, none⟩) hbw).trans hc2, (hX.cell (p := ⟨b, off + k * 5 + 3, none⟩) hbw).trans hc3, (hX.cell (p := ⟨b, off + k * 5 + 4, none⟩) hbw).trans hc4⟩
      clear KC
      have hws := HB.out.size
      have hsA := HS.out es[k] (List.getElem_mem hlt)
      have HY : Hid (aliveB now es[k] = true → liveDs now (es.take (k + 1)) = liveDs now (es.take k) ++ [es[k]]) := liveDs_yes hlt
      have HNo : Hid (aliveB now es[k] = false → liveDs now (es.take (k + 1)) = liveDs now (es.take k)) := liveDs_no hlt
      have HOV := hide (fun W (hW : Below wr.heap.size wr W) => l10Copy_any es[k].val a c W hsA.2.2.1 (textsAt_keep hta hW))
      obtain ⟨L, HL⟩ : ∃ L, Hid (liveDs now (es.take k) = L) := ⟨_, hide rfl⟩
      have hel : L.length ≤ 1048576 := by rw [← HL.out]; have := liveDs_len now (es.take k); rw [List.length_take] at this; omega
      rw [HL.out] at HO HY HNo
      generalize es[k] = F at hc0 hc1 hc2 hc3 hc4 HY HNo HOV HCA
      clear hsA hta
      obtain ⟨ky, kd, u, t, ts⟩ := F
      simp only [aliveB] at hc0 hc1 hc2 hc3 hc4 HY HNo HOV HCA
      have hi0 : (0 : Int) ≤ (k : Int) := by omega
      have hi1 : (k : Int) < (es.length : Int) := by omega
      have hcase : ((u == 0) = true ∨ ((u == 0) = false ∧ decide (now < u) = true)) ∨ ((u == 0) = false ∧ decide (now < u) = false) := by
        cases (u == 0) <;> cases (decide (now < u)) <;> simp
      rcases hcase with (h0 | ⟨h0, h1⟩) | ⟨h0, h1⟩
      rotate_left 2
      · have HE := hide (HNo.out (by rw [h0, h1]; rfl))
        go_wp2
        go_roundw
        case rel => exact ⟨k + 1, by go_num, by omega, by show BuildE _ _ _ _; rw [HE.out]; exact HO.out, HB⟩
        case measure => simp [intOf]; omega
      all_goals
        have HE := hide (HY.out (by rw [h0]; first | rfl | (rw [h1]; rfl)))
        go_upto_region 6 with fail
        go_region_law ((first | (refine step_app_ent wr _ w.heap.size (by rfl) _ _ (by rfl) _ (.slice a4 ts.length c4) L ⟨ky, kd, u, t, ts⟩ (by rfl) HO.out hws (E4.out.alloc E4.out.size _) (rowText_below R4.out ((Below.refl _ w4).alloc (Nat.le_refl _) _)) w4.heap.size (by simp [Act.eval]) (heap_alloc_new w4 _) hel ?_; intro g5 cap5 w5 ho5 hb5 hgr5; have HO5 := hide ho5; have HB5 := hide (((E4.out.alloc E4.out.size _).mono hws).trans hb5); clear ho5 hb5 hgr5) | (go_simp; go_at_call 19; refine (HOV.out _ (by first | exact Below.refl _ _ | exact (Below.refl _ _).drew)).mono ?_; rintro e w4 ⟨⟨a4, c4, rfl, r4⟩, b4⟩; have E4 : Hid (Below wr.heap.size wr w4) := (Below.refl _ wr).drew.trans b4; have R4 := hide r4; obtain ⟨y0, y1, y2, y3, y4⟩ := HCA.out _ E4.out; clear b4 r4)))
        all_goals
          go_wp2
          go_roundw
          case rel => exact ⟨k + 1, by go_num, by omega, by show BuildE _ _ _ _; rw [HE.out]; exact HO5.out, HB.out.trans HB5.out⟩
          case measure => simp [intOf]; omega
    · have hlt' : decide ((k : Int) < (es.length : Int)) = false := by simp; omega
      have hke : k = es.length := by omega
      subst hke
      have HO2 := HO.out
      rw [List.take_length] at HO2
      have HO3 := hide (buildE_row HO2)
      clear HO2
      go_wp2
      go_ret
      exact ⟨⟨_, rfl, HO3.out⟩, HB.out⟩
end Go.Proofs.Ytpibnhodlojajaa
