import Derived.Maps.OwnSet
import Derived.Lib.Strings
import Derived.Sort.Walk0
import Derived.Laws.MakeOwn
import Derived.Lib.SmallJoins
import Derived.OpenShut
import Derived.Test.YtpibnhodlojajaaFl0
import Derived.Test.YtpibnhodlojajaaFl3
import Derived.Test.YtpibnhodlojajaaFl1
set_option maxRecDepth 100000
set_option maxHeartbeats 3200000
namespace Go.Proofs.Ytpibnhodlojajaa
open Go.RowKit
theorem box5h {W : World} {g : Nat} {a b c d e : Value} {t : TypeId} (h : W.heap[g]? = some (.cells #[a, b, c, d, e] t (0, 0))) :
    (W.cell? ⟨g, 0, none⟩ = some a ∧ W.cell? ⟨g, 1, none⟩ = some b ∧ W.cell? ⟨g, 2, none⟩ = some c ∧ W.cell? ⟨g, 3, none⟩ = some d ∧ W.cell? ⟨g, 4, none⟩ = some e) ∧ W.frozen? ⟨g, 0, none⟩ = false ∧ W.frozen? ⟨g, 1, none⟩ = false ∧ W.frozen? ⟨g, 2, none⟩ = false ∧ W.frozen? ⟨g, 3, none⟩ = false ∧ W.frozen? ⟨g, 4, none⟩ = false :=
  ⟨⟨(cell_of_row W _ 0 _ _ (0, 0) h).trans rfl, (cell_of_row W _ 1 _ _ (0, 0) h).trans rfl, (cell_of_row W _ 2 _ _ (0, 0) h).trans rfl, (cell_of_row W _ 3 _ _ (0, 0) h).trans rfl, (cell_of_row W _ 4 _ _ (0, 0) h).trans rfl⟩, frozen_of_row W _ 0 _ _ h, frozen_of_row W _ 1 _ _ h, frozen_of_row W _ 2 _ _ h, frozen_of_row W _ 3 _ _ h, frozen_of_row W _ 4 _ _ h⟩
theorem box5_below {B g : Nat} {w W : World} (h : Below B w W) (hg : B ≤ g) (a b c d e : Value) : Below B w (((((W.setCell ⟨g, 0, none⟩ a).setCell ⟨g, 1, none⟩ b).setCell ⟨g, 2, none⟩ c).setCell ⟨g, 3, none⟩ d).setCell ⟨g, 4, none⟩ e) :=
  ((((h.setCell (p := ⟨g, 0, none⟩) hg a).setCell (p := ⟨g, 1, none⟩) hg b).setCell (p := ⟨g, 2, none⟩) hg c).setCell (p := ⟨g, 3, none⟩) hg d).setCell (p := ⟨g, 4, none⟩) hg e
theorem box5_here {g : Nat} {W : World} {C : Array Value} {t : TypeId} (h : W.heap[g]? = some (.cells C t (0, 0))) (hC : C.size = 5) (a b c d e : Value) : (((((W.setCell ⟨g, 0, none⟩ a).setCell ⟨g, 1, none⟩ b).setCell ⟨g, 2, none⟩ c).setCell ⟨g, 3, none⟩ d).setCell ⟨g, 4, none⟩ e).heap[g]? = some (.cells #[a, b, c, d, e] t (0, 0)) := by
  obtain ⟨⟨l⟩⟩ : ∃ _ : Unit, True := ⟨(), trivial⟩
  match C, hC with
  | ⟨[x0, x1, x2, x3, x4]⟩, _ =>
    exact (heap_setCell_same _ g _ _ t _ (heap_setCell_same _ g _ _ t _ (heap_setCell_same _ g _ _ t _ (heap_setCell_same _ g _ _ t _ (heap_setCell_same W g _ _ t _ h))))).trans rfl
theorem box5_other (g b : Nat) (W : World) (h : b ≠ g) (a0 a1 c d e : Value) : (((((W.setCell ⟨g, 0, none⟩ a0).setCell ⟨g, 1, none⟩ a1).setCell ⟨g, 2, none⟩ c).setCell ⟨g, 3, none⟩ d).setCell ⟨g, 4, none⟩ e).heap[b]? = W.heap[b]? := by
  rw [Below.heap_setCell _ _ _ _ (by simpa using h), Below.heap_setCell _ _ _ _ (by simpa using h), Below.heap_setCell _ _ _ _ (by simpa using h), Below.heap_setCell _ _ _ _ (by simpa using h), Below.heap_setCell _ _ _ _ (by simpa using h)]
theorem ownEntry_any (F : EntD) (a : Option Addr) (c : Nat) (w : World) (hsz : EntS 1048576 F) (hta : TextsAt w a F.val.items) :
    Calls Try.prog 21 #[.agg #[.string F.key, .int .i64 F.val.kind, .int .i64 F.val.til, .string F.val.text, .slice a F.val.items.length c]] w fun e w' => (∃ a2 c2, e = .returned (.agg #[.string F.key, .int .i64 F.val.kind, .int .i64 F.val.til, .string F.val.text, .slice a2 F.val.items.length c2]) ∧ RowText w' w.heap.size (.slice a2 F.val.items.length c2) F.val.items) ∧ Below w.heap.size w w' := by
  have HOV := hide (fun W (hW : Below w.heap.size w W) => ownVal_any F.val a c W hsz.2.2.1 hsz.2.1 (textsAt_keep hta hW) hsz.2.2.2)
  have HOT := hide (fun W => ownText_any F.key W hsz.1)
  clear hsz hta
  obtain ⟨ky, kd, u, t, ts⟩ := F
  simp only at HOV HOT ⊢
  obtain ⟨wb, hwb⟩ : ∃ wb, wb = (w.alloc (.cells #[.string ky, .int .i64 kd, .int .i64 u, .string t, .slice a ts.length c] 42)).alloc (.cells #[.string ⟨#[]⟩, .int .i64 0, .int .i64 0, .string ⟨#[]⟩, .slice none 0 0] 42) := ⟨_, rfl⟩
  have B0 : Hid (Below w.heap.size w wb) := by rw [hwb]; exact ((Below.refl _ w).alloc (Nat.le_refl _) _).alloc (by simp) _
  have HZ : Hid (wb.heap[w.heap.size]? = some (.cells #[.string ky, .int .i64 kd, .int .i64 u, .string t, .slice a ts.length c] 42 (0, 0)) ∧ wb.heap.size = w.heap.size + 1 + 1) := by
    rw [hwb]
    exact ⟨((Below.refl (w.heap.size + 1) (w.alloc (.cells #[.string ky, .int .i64 kd, .int .i64 u, .string t, .slice a ts.length c] 42))).alloc (by simp) _ |>.block w.heap.size (by omega)).trans (heap_alloc_new w _), by simp⟩
  have HR : Hid (wb.heap[w.heap.size + 1]? = some (.cells #[.string ⟨#[]⟩, .int .i64 0, .int .i64 0, .string ⟨#[]⟩, .slice none 0 0] 42 (0, 0))) := by
    show _ = _
    rw [hwb, show w.heap.size + 1 = (w.alloc (.cells #[.string ky, .int .i64 kd, .int .i64 u, .string t, .slice a ts.length c] 42)).heap.size from by simp]
    exact heap_alloc_new _ _
  have KC : Hid (∀ X, Below wb.heap.size wb X → (X.cell? ⟨w.heap.size, 0, none⟩ = some (.string ky) ∧ X.cell? ⟨w.heap.size, 1, none⟩ = some (.int .i64 kd) ∧ X.cell? ⟨w.heap.size, 2, none⟩ = some (.int .i64 u) ∧ X.cell? ⟨w.heap.size, 3, none⟩ = some (.string t) ∧ X.cell? ⟨w.heap.size, 4, none⟩ = some (.slice a ts.length c))) := fun X hX => (box5h ((hX.block _ (by have := HZ.out.2; omega)).trans HZ.out.1)).1
  have KR : Hid (∀ X, Below wb.heap.size wb X → X.heap[w.heap.size + 1]? = some (.cells #[.string ⟨#[]⟩, .int .i64 0, .int .i64 0, .string ⟨#[]⟩, .slice none 0 0] 42 (0, 0))) := fun X hX => (hX.block _ (by have := HZ.out.2; omega)).trans HR.out
  go_enter Try.func21, Try.ntmps21
  go_upto_region 1 with fail
  rw [← hwb]
  clear hwb
  obtain ⟨x0, x1, x2, x3, x4⟩ := KC.out _ (Below.refl _ _)
  go_region_law (first | (go_simp; go_at_call 36; go_loud (refine (HOT.out _).mono ?_; rintro e w3 ⟨rfl, b3⟩; have E3 : Hid (Below wb.heap.size wb w3) := (Below.refl _ wb).drew.trans b3; obtain ⟨y0, y1, y2, y3, y4⟩ := KC.out _ E3.out; clear b3)) | (go_simp; go_at_call 30; go_loud (refine (HOV.out _ (B0.out.trans (E3.out.mono B0.out.size))).mono ?_; rintro e w4 ⟨⟨a4, c4, rfl, r4⟩, b4⟩; have E4 : Hid (Below wb.heap.size wb w4) := E3.out.trans (b4.mono E3.out.size); have R4 := hide (rowText_le r4 (Nat.le_trans B0.out.size E3.out.size)); obtain ⟨⟨z0, z1, z2, z3, z4⟩, f0, f1, f2, f3, f4⟩ := box5h (KR.out _ E4.out); clear b4 r4)))
  all_goals
    obtain ⟨⟨r0, r1, r2, r3, r4⟩, -⟩ := box5h (box5_here (KR.out _ E4.out) rfl (.string ky) (.int .i64 kd) (.int .i64 u) (.string t) (.slice a4 ts.length c4))
    have HF : Hid (Below w.heap.size w (((((w4.setCell ⟨w.heap.size + 1, 0, none⟩ (.string ky)).setCell ⟨w.heap.size + 1, 1, none⟩ (.int .i64 kd)).setCell ⟨w.heap.size + 1, 2, none⟩ (.int .i64 u)).setCell ⟨w.heap.size + 1, 3, none⟩ (.string t)).setCell ⟨w.heap.size + 1, 4, none⟩ (.slice a4 ts.length c4)) ∧
        RowText (((((w4.setCell ⟨w.heap.size + 1, 0, none⟩ (.string ky)).setCell ⟨w.heap.size + 1, 1, none⟩ (.int .i64 kd)).setCell ⟨w.heap.size + 1, 2, none⟩ (.int .i64 u)).setCell ⟨w.heap.size + 1, 3, none⟩ (.string t)).setCell ⟨w.heap.size + 1, 4, none⟩ (.slice a4 ts.length c4)) w.heap.size (.slice a4 ts.length c4) ts) :=
      ⟨box5_below (B0.out.trans (E4.out.mono B0.out.size)) (by omega) _ _ _ _ _, rowText_keep R4.out (fun b hb => box5_other _ _ _ (fun e => by
        obtain ⟨C, hC⟩ := text_block R4.out hb
        rw [e, KR.out _ E4.out] at hC
        simp at hC) _ _ _ _ _)⟩
    generalize (((((w4.setCell ⟨w.heap.size + 1, 0, none⟩ (.string ky)).setCell ⟨w.heap.size + 1, 1, none⟩ (.int .i64 kd)).setCell ⟨w.heap.size + 1, 2, none⟩ (.int .i64 u)).setCell ⟨w.heap.size + 1, 3, none⟩ (.string t)).setCell ⟨w.heap.size + 1, 4, none⟩ (.slice a4 ts.length c4)) = W6 at HF r0 r1 r2 r3 r4 ⊢
    go_wp2
    exact bodyPost_ret (v := .agg #[.string ky, .int .i64 kd, .int .i64 u, .string t, .slice a4 ts.length c4]) (by simp [results, Try.results21, go_sem, r0, r1, r2, r3, r4]) rfl ⟨⟨a4, c4, rfl, HF.out.2⟩, HF.out.1⟩
def aliveB (now : Int) (e : EntD) : Bool := e.val.til == 0 || decide (now < e.val.til)
def liveDs (now : Int) (es : List EntD) : List EntD := es.filter (aliveB now)
theorem liveDs_yes {now : Int} {es : List EntD} {k : Nat} (hk : k < es.length) (h : aliveB now es[k] = true) : liveDs now (es.take (k + 1)) = liveDs now (es.take k) ++ [es[k]] := by
  unfold liveDs
  rw [List.take_succ_eq_append_getElem hk, List.filter_append]
  simp [h]
theorem liveDs_no {now : Int} {es : List EntD} {k : Nat} (hk : k < es.length) (h : aliveB now es[k] = false) : liveDs now (es.take (k + 1)) = liveDs now (es.take k) := by
  unfold liveDs
  rw [List.take_succ_eq_append_getElem hk, List.filter_append]
  simp [h]
theorem liveDs_len (now : Int) (es : List EntD) : (liveDs now es).length ≤ es.length := List.length_filter_le _ _
theorem implLive_any (es : List EntD) (now : Int) (ao : Option Addr) (cap : Nat) (w : World) (hl : es.length ≤ 1048576) (hes : EntriesAt w ao es) (hsz : ∀ e ∈ es, EntS 1048576 e) :
    Calls Try.prog 8 #[.slice ao es.length cap, .int .i64 now] w fun e w' => (∃ v, e = .returned v ∧ RowEnt w' w.heap.size v (liveDs now es)) ∧ Below w.heap.size w w' := by
  have HT := hide hes
  have HS := hide hsz
  clear hes hsz
  go_enter Try.func8, Try.ntmps8
  go_wp2
  go_loopw [5, 10] (fun vv ii wr => ∃ (k : Nat), ii = .int .i64 (k : Int) ∧ k ≤ es.length ∧ Hid (BuildE wr w.heap.size vv (liveDs now (es.take k))) ∧ Hid (Below w.heap.size w wr)) (fun _ ii _ => es.length - (intOf ii).toNat)
  case atStart => exact ⟨0, rfl, by omega, buildE_nil _ _, Below.refl _ _⟩
  case round =>
    obtain ⟨k, rfl, hk, HO, HB⟩ := hrel
    by_cases hlt : k < es.length
    · have hlt' : decide ((k : Int) < (es.length : Int)) = true := by simp; omega
      obtain ⟨b, off, rfl, hbw, hc0, hc1, hc2, hc3, a, c, hc4, hta⟩ := entriesAt_keep HT.out HB.out k hlt
      have hws := HB.out.size
      have hsA := HS.out es[k] (List.getElem_mem hlt)
      have HY : Hid (aliveB now es[k] = true → liveDs now (es.take (k + 1)) = liveDs now (es.take k) ++ [es[k]]) := liveDs_yes hlt
      have HNo : Hid (aliveB now es[k] = false → liveDs now (es.take (k + 1)) = liveDs now (es.take k)) := liveDs_no hlt
      have HOV := hide (fun W (hW : Below wr.heap.size wr W) => ownEntry_any es[k] a c W hsA (textsAt_keep hta hW))
      obtain ⟨L, HL⟩ : ∃ L, Hid (liveDs now (es.take k) = L) := ⟨_, hide rfl⟩
      have hel : L.length ≤ 1048576 := by rw [← HL.out]; have := liveDs_len now (es.take k); rw [List.length_take] at this; omega
      rw [HL.out] at HO HY HNo
      generalize es[k] = F at hc0 hc1 hc2 hc3 hc4 HY HNo HOV
      clear hsA hta
      obtain ⟨ky, kd, u, t, ts⟩ := F
      simp only [aliveB] at hc0 hc1 hc2 hc3 hc4 HY HNo HOV
      have hi0 : (0 : Int) ≤ (k : Int) := by omega
      have hi1 : (k : Int) < (es.length : Int) := by omega
      obtain ⟨wE, hwE⟩ : ∃ wE, wE = wr.alloc (.cells #[.string ky, .int .i64 kd, .int .i64 u, .string t, .slice a ts.length c] 42) := ⟨_, rfl⟩
      have BE : Hid (Below wr.heap.size wr wE) := by rw [hwE]; exact (Below.refl _ wr).alloc (Nat.le_refl _) _
      have PE : Hid (wE.heap[wr.heap.size]? = some (.cells #[.string ky, .int .i64 kd, .int .i64 u, .string t, .slice a ts.length c] 42 (0, 0))) := by rw [hwE]; exact heap_alloc_new _ _
      have WE := hide (HB.out.trans (BE.out.mono hws))
      have HOE := hide (buildE_below HO.out BE.out)
      have hBE : w.heap.size ≤ wE.heap.size := WE.out.size
      have KC : Hid (∀ X, Below wE.heap.size wE X → X.cell? ⟨wr.heap.size, 0, none⟩ = some (.string ky) ∧ X.cell? ⟨wr.heap.size, 1, none⟩ = some (.int .i64 kd) ∧ X.cell? ⟨wr.heap.size, 2, none⟩ = some (.int .i64 u) ∧ X.cell? ⟨wr.heap.size, 3, none⟩ = some (.string t) ∧ X.cell? ⟨wr.heap.size, 4, none⟩ = some (.slice a ts.length c)) := fun X hX => by
        have h := ent_cells ((hX.block _ (obj_lt PE.out)).trans PE.out)
        exact h.1
      have HOV2 := hide (HOV.out wE BE.out)
      obtain ⟨x0, x1, x2, x3, x4⟩ := KC.out _ (Below.refl _ _)
      have hcase : ((u == 0) = true ∨ ((u == 0) = false ∧ decide (now < u) = true)) ∨ ((u == 0) = false ∧ decide (now < u) = false) := by
        cases (u == 0) <;> cases (decide (now < u)) <;> simp
      rcases hcase with (h0 | ⟨h0, h1⟩) | ⟨h0, h1⟩
      rotate_left 2
      · have HE := hide (HNo.out (by rw [h0, h1]; rfl))
        go_upto_region 5 with fail
        rw [← hwE]
        clear hwE
        go_wp2
        go_roundw
        case rel => exact ⟨k + 1, by go_num, by omega, by show BuildE _ _ _ _; rw [HE.out]; exact HOE.out, WE⟩
        case measure => simp [intOf]; omega
      all_goals
        have HE := hide (HY.out (by rw [h0]; first | rfl | (rw [h1]; rfl)))
        go_upto_region 5 with fail
        rw [← hwE]
        clear hwE
        go_wp2_with fail
        refine HOV2.out.mono ?_
        rintro e w4 ⟨⟨a4, c4, rfl, r4⟩, b4⟩
        have E4 := hide b4
        have R4 := hide r4
        clear b4 r4
        go_wp2_with (at_builtin; refine app_ent wE _ w.heap.size (by rfl) _ _ (by rfl) _ (.slice a4 ts.length c4) L ⟨ky, kd, u, t, ts⟩ (by rfl) HOE.out hBE (E4.out.alloc E4.out.size _) (rowText_below R4.out ((Below.refl _ w4).alloc (Nat.le_refl _) _)) w4.heap.size (by rfl) (heap_alloc_new w4 _) hel ?_; intro g5 cap5 w5 ho5 hb5 _; have HO5 := hide ho5; have HB5 := hide (((E4.out.alloc E4.out.size _).mono hBE).trans hb5); clear ho5 hb5)
        go_roundw
        case rel => exact ⟨k + 1, by go_num, by omega, by show BuildE _ _ _ _; rw [HE.out]; exact HO5.out, WE.out.trans HB5.out⟩
        case measure => simp [intOf]; omega
    · have hlt' : decide ((k : Int) < (es.length : Int)) = false := by simp; omega
      have hke : k = es.length := by omega
      subst hke
      have HO2 := HO.out
      rw [List.take_length] at HO2
      have HO3 := hide (buildE_row HO2)
      clear HO2
      go_wp2
      go_ret
      exact ⟨⟨_, rfl, HO3.out⟩, HB.out⟩
end Go.Proofs.Ytpibnhodlojajaa
namespace Go.Proofs.Ytpibnhodlojajaa
open Go.RowKit Go.Maps
theorem less_trans {a b c : List UInt8} (h1 : Op.bytesLess a b = true) (h2 : Op.bytesLess b c = true) : Op.bytesLess a c = true := by
  rw [Go.Proofs.bytesLess_eq, decide_eq_true_eq] at *
  exact List.lt_trans h1 h2
theorem less_irrefl (a : List UInt8) : Op.bytesLess a a = false := by
  rw [Go.Proofs.bytesLess_eq, decide_eq_false_iff_not]
  exact List.lt_irrefl a
end Go.Proofs.Ytpibnhodlojajaa
namespace Go.Proofs.Ytpibnhodlojajaa
open Go.RowKit
theorem tab_less {es : List EntD} (h : TabR es) : ∀ (d i : Nat) (hj : i + d + 1 < es.length), Op.bytesLess (es[i]'(by omega)).key.toList (es[i + d + 1]'hj).key.toList = true
  | 0, i, hj => by
    have := (entsR_of h (i + 1) hj).2.2 (by omega)
    simpa using this
  | d + 1, i, hj => by
    have h1 := tab_less h d i (by omega)
    have h2 := (entsR_of h (i + d + 1 + 1) (by omega)).2.2 (by omega)
    have e : i + (d + 1) + 1 = i + d + 1 + 1 := by omega
    simp only [e]
    exact less_trans h1 (by simpa using h2)
theorem tab_pw {es : List EntD} (h : TabR es) : es.Pairwise (fun a b => Op.bytesLess a.key.toList b.key.toList = true) := by
  rw [List.pairwise_iff_getElem]
  intro i j hi hj hij
  have := tab_less h (j - i - 1) i (by omega)
  have e : i + (j - i - 1) + 1 = j := by omega
  simp only [e] at this
  exact this
theorem tab_all {es : List EntD} (h : TabR es) : ∀ e ∈ es, (1 ≤ e.key.size ∧ e.key.size ≤ 20) ∧ ValR e.val := fun e he => by
  obtain ⟨j, hj, rfl⟩ := List.getElem_of_mem he
  exact ⟨(entsR_of h j hj).1, (entsR_of h j hj).2.1⟩
theorem find_pw : ∀ (es : List EntD), es.Pairwise (fun a b => Op.bytesLess a.key.toList b.key.toList = true) → ∀ e ∈ es, findE es e.key = some e.val
  | [], _, e, he => absurd he List.not_mem_nil
  | a :: r, hp, e, he => by
    rw [List.pairwise_cons] at hp
    simp only [findE]
    rcases List.mem_cons.1 he with rfl | he
    · rw [if_pos (beq_self_eq_true _)]
    · have hlt := hp.1 e he
      rw [if_neg]
      · exact find_pw r hp.2 e he
      · intro hh
        rw [eq_of_beq hh, less_irrefl] at hlt
        cases hlt
theorem find_none : ∀ (es : List EntD) (key : ByteArray), (∀ e ∈ es, e.key ≠ key) → findE es key = none
  | [], _, _ => rfl
  | a :: r, key, h => by
    simp only [findE]
    rw [if_neg]
    · exact find_none r key (fun e he => h e (List.mem_cons_of_mem _ he))
    · intro hh
      apply h a (List.mem_cons_self ..)
      have := eq_of_beq hh
      rw [ByteArray.toList_eq, ByteArray.toList_eq] at this
      apply ByteArray.ext
      exact Array.toList_inj.1 this
theorem drawTables_any (w : World) (ao : Option Addr) (len cap : Nat) (hlen : len ≤ 1048576) (hcode : Code w ao len) :
    Calls Try.prog 13 #[.slice ao len cap] w fun e w' => (∃ (es fs : List EntD) (v u : Value) (B : Nat), e = .returned (.tuple #[v, u]) ∧ (TabR es ∧ (∀ e ∈ es, e.val.til ≤ 40) ∧ (∀ e ∈ es, e.key.size ≤ 3)) ∧ (TabR fs ∧ (∀ e ∈ fs, e.val.til ≤ 40) ∧ (∀ e ∈ fs, e.key.size ≤ 3)) ∧ RowEnt w' w.heap.size v es ∧ RowEnt w' B u fs ∧ w.heap.size ≤ B) ∧ Below w.heap.size w w' := by
  have HC := hide hcode
  clear hcode
  go_enter Try.func13, Try.ntmps13
  go_wp2_with fail
  refine (new_any _ ao len cap hlen HC.out).mono ?_
  rintro e w1 ⟨g, rfl, c1⟩
  have C1 := hide c1
  clear c1
  go_wp2_with fail
  refine (l10Table_any w w1 g ao len cap hlen HC.out C1.out).mono ?_
  rintro e w2 ⟨⟨es, v, rfl, hes, hes2, hes3, r2⟩, c2, g2⟩
  have HES := hide (And.intro hes (And.intro hes2 hes3))
  have R2 := hide r2
  have C2 := hide c2
  have hg1 := cur_lt C1.out
  obtain ⟨av, cv, rfl, -⟩ := rowEnt_at r2
  clear hes hes2 hes3 r2 c2 g2
  go_wp2_with fail
  refine (l10Table_any w w2 g ao len cap hlen HC.out C2.out).mono ?_
  rintro e w3 ⟨⟨fs, u, rfl, hfs, hfs2, hfs3, r3⟩, c3, g3⟩
  have HFS := hide (And.intro hfs (And.intro hfs2 hfs3))
  have R3 := hide r3
  have G3 := hide g3
  have B3 := hide c3.1
  obtain ⟨au, cu, rfl, -⟩ := rowEnt_at r3
  clear hfs hfs2 hfs3 r3 c3 g3
  have hs1 := C1.out.1.size
  have hs2 := C2.out.1.size
  go_wp2
  go_ret2
  refine ⟨⟨es, fs, _, _, w2.heap.size, rfl, HES.out, HFS.out, ?_, R3.out, hs2⟩, B3.out⟩
  exact rowEnt_le (rowEnt_keep R2.out (fun b h1 h2 => G3.out.block b h2 (by simp; omega))) hs1
theorem tab_of {es : List EntD} (hl : es.length ≤ 20) (hv : ∀ e ∈ es, (1 ≤ e.key.size ∧ e.key.size ≤ 20) ∧ ValR e.val) (hp : es.Pairwise (fun a b => Op.bytesLess a.key.toList b.key.toList = true)) : TabR es := by
  refine ⟨hl, fun j hj _ => ?_⟩
  have h1 := hv es[j] (List.getElem_mem hj)
  refine ⟨h1.1, h1.2, fun h0 => ?_⟩
  exact (List.pairwise_iff_getElem.1 hp) (j - 1) j (by omega) hj (by omega)
theorem tab_live {es : List EntD} (now : Int) (h : TabR es) : TabR (liveDs now es) :=
  tab_of (Nat.le_trans (liveDs_len now es) h.1) (fun e he => tab_all h e (List.mem_filter.1 he).1) ((tab_pw h).filter _)
theorem tab_find {es : List EntD} (h : TabR es) {i : Nat} (hi : i < es.length) : findE es es[i].key = some es[i].val := find_pw es (tab_pw h) _ (List.getElem_mem hi)
theorem tab_find_live {es : List EntD} (now : Int) (h : TabR es) {i : Nat} (hi : i < es.length) : findE (liveDs now es) es[i].key = if aliveB now es[i] = true then some es[i].val else none := by
  split
  · rename_i ha
    exact find_pw _ (tab_pw (tab_live now h)) es[i] (List.mem_filter.2 ⟨List.getElem_mem hi, ha⟩)
  · rename_i ha
    refine find_none _ _ (fun e he hk => ?_)
    obtain ⟨h1, h2⟩ := List.mem_filter.1 he
    have h3 := find_pw es (tab_pw h) e h1
    have h4 := tab_find h hi
    rw [hk, h4] at h3
    have hv : es[i].val = e.val := Option.some.inj h3
    apply ha
    unfold aliveB at h2 ⊢
    rw [hv]
    exact h2
theorem tab_never {es : List EntD} {key : ByteArray} (h : ∀ e ∈ es, e.key.size ≤ 3) (hk : 3 < key.size) : findE es key = none :=
  find_none es key (fun e he hh => by have := h e he; rw [hh] at this; omega)
theorem Try.info3 : (Try.prog.info? 3).map (fun i => (i.zero, i.size, i.bytes)) = some (some (.int .i64 0), 1, 8) := by kernel_rfl
def iv (n : Nat) : Value := .int .i64 (n : Int)
theorem app_int {ops : Array Oper} {rest : List Oper} {o : Oper} {a : Act} {Q : Exit → Act → World → Prop} {x : Nat} (wr : World) (w : World) (B : Nat) (hgd : o.guard = none) (s y : Operand)
    (ho : o.op = .call { callee := .builtin .append, args := #[s, y], argTypes := #[34, 34] }) (v : Value) (l : List Nat) (hs : a.eval s = v)
    (hown : wr.ownsRow B 3 1 v l.length (l.map iv)) (hx : a.eval y = .slice (some ⟨wr.heap.size, 0, none⟩) 1 1)
    (hlen : l.length ≤ 1000000) (hbel : Below B w wr) (hbase : B ≤ wr.heap.size)
    (h : ∀ v' w', w'.ownsRow B 3 1 v' (l ++ [x]).length ((l ++ [x]).map iv) → Below B w w' → wr.heap.size ≤ w'.heap.size → wpList Try.prog ops Q rest (a.put o.dst v') w') :
    wpList Try.prog ops Q (o :: rest) a (wr.alloc (.cells #[.int .i64 (x : Int)] 3)) := by
  obtain ⟨i0, hi, hz0, hz1, hz2⟩ := info_parts Try.info3
  have hsz : wr.heap.size ≤ (wr.alloc (.cells #[.int .i64 (x : Int)] 3)).heap.size := by simp
  refine wpList_append_own _ hgd s y 34 ho B 3 i0 (.int .i64 0) 1 8 Try.underlying34 hi hz0 hz1 hz2 rfl (by decide) v l.length (l.map iv) hs (hown.alloc _) ⟨wr.heap.size, 0, none⟩ 1 1 [iv x] hx rfl
    (fun j u hj => cells_new wr #[.int .i64 (x : Int)] 3 j u hj) (by intro u hu; simp at hu; subst hu; rfl) (by unfold maxLen; omega) (by omega) (by omega) ?_
  intro v' w' hown' hgrow _
  have hlt := hown.lt
  have hb1 : Below B w (wr.alloc (.cells #[.int .i64 (x : Int)] 3)) := hbel.alloc hbase _
  refine h v' w' ?_ (hb1.grown hgrow (by omega) (fun k hk => (hlt k hk).1)) (Nat.le_trans hsz hgrow.size)
  rw [List.length_append, List.map_append]
  exact hown'
theorem drawPlaces_any (w : World) (ao : Option Addr) (len cap : Nat) (hlen : len ≤ 1048576) (hcode : Code w ao len) :
    Calls Try.prog 14 #[.slice ao len cap] w fun e w' => ∃ (v : Value) (zs : List Nat), e = .returned v ∧ zs.length = 12 ∧ (∀ z ∈ zs, z < 10000) ∧ w'.ownsRow w.heap.size 3 1 v 12 (zs.map iv) ∧ Below w.heap.size w w' := by
  have HC := hide hcode
  clear hcode
  go_enter Try.func14, Try.ntmps14
  go_wp2_with fail
  refine (new_any _ ao len cap hlen HC.out).mono ?_
  rintro e w1 ⟨g, rfl, hc1⟩
  have hgl := cur_lt hc1
  have hs1 := hc1.1.size
  have HU1 := hide hc1
  clear hc1
  go_wp2_with fail
  refine (byte_any w _ g ao len cap hlen HC.out HU1.out).mono ?_
  rintro e w2 ⟨x0, rfl, _, hc2, g2⟩
  have hs2 := g2.size
  have hgl2 := cur_lt hc2
  have HU2 := hide hc2
  clear hc2 g2
  go_wp2
  go_loopw [4, 5] (fun v ii wr => ∃ (k : Nat) (zs : List Nat), ii = .int .i64 k ∧ k ≤ 12 ∧ zs.length = k ∧ Hid (∀ z ∈ zs, z < 10000) ∧ wr.ownsRow w2.heap.size 3 1 v zs.length (zs.map iv) ∧ Hid (CurAt w wr g ao len cap) ∧ w2.heap.size ≤ wr.heap.size) (fun _ ii _ => 12 - (intOf ii).toNat)
  case atStart =>
    refine ⟨0, [], rfl, Nat.zero_le _, rfl, (fun z hz => by cases hz), World.ownsRow_lit w2 #[] 0 (Nat.le_refl _) (by unfold maxLen; omega) (by simp), cur_keep HU2.out ((Below.refl w2.heap.size w2).alloc (Nat.le_refl _) _) hgl2, by simp⟩
  case round =>
    obtain ⟨k, zs, rfl, hk, hl, HA, hown, HU3, hbs⟩ := hrel
    by_cases hlt : k < 12
    · have hlt' : decide ((k : Int) < 12) = true := by simp; omega
      have HO := hide hown
      have HLL := hide hl
      clear hown hl
      go_wp2_with fail
      refine (below_any w _ g ao len cap _ hlen (by omega) HC.out HU3.out).mono ?_
      rintro e w3 ⟨x, rfl, hx, _, hc3, g3⟩
      have hx' := hx (by omega)
      have hown3 := row_keep HO.out g3 hgl2
      have hs3 := g3.size
      have HU4 := hide hc3
      clear hc3 g3 hx
      have hll : zs.length ≤ 1000000 := by have := HLL.out; omega
      go_wp2_with (at_builtin; refine app_int w3 w3 w2.heap.size rfl _ _ rfl _ zs rfl hown3 rfl hll (Below.refl _ _) (by omega) ?_; intro v' w4 hown4 hb4 hs4)
      go_roundw
      case rel =>
        refine ⟨k + 1, zs ++ [x], by go_num, by omega, by have := HLL.out; simp; omega, ?_, hown4, cur_keep HU4.out hb4 hgl2, by omega⟩
        intro z hz
        rcases List.mem_append.1 hz with h | h
        · exact HA.out z h
        · simp only [List.mem_singleton] at h; omega
      case measure => simp [intOf]; omega
    · have hlt' : decide ((k : Int) < 12) = false := by simp; omega
      have hk12 : zs.length = 12 := by omega
      have HO := hide hown
      have HLL := hide hk12
      clear hown hl hk12
      go_wp2
      go_ret
      refine ⟨_, zs, rfl, HLL.out, HA.out, ?_, HU3.out.1⟩
      have := HO.out
      rw [HLL.out] at this
      exact ownsRow_mono this (by omega)
theorem kindR_one {v : ValD} (h : KindR v) : 1 ≤ v.kind ∧ v.kind ≤ 4 := by
  rcases h with h | h | h | h
  all_goals (have := h.1; omega)
theorem valR_bounds {v : ValD} (h : ValR v) : 1 ≤ v.kind ∧ v.kind ≤ 4 ∧ 0 ≤ v.til ∧ v.til ≤ 100000 ∧ v.text.size ≤ 60 ∧ v.items.length ≤ 24 ∧ ∀ s ∈ v.items, s.size ≤ 60 := by
  obtain ⟨h1, h2, h3⟩ := h
  have h4 := kindR_one h3
  refine ⟨h4.1, h4.2, h1, h2, ?_⟩
  rcases h3 with h | h | h | h
  · refine ⟨h.2.2, by omega, fun s hs => ?_⟩
    rw [List.eq_nil_of_length_eq_zero h.2.1] at hs
    exact absurd hs List.not_mem_nil
  · exact ⟨by omega, h.2.2.2.1, h.2.2.2.2⟩
  · exact ⟨by omega, h.2.2.1.2.1, h.2.2.1.2.2⟩
  · exact ⟨by omega, h.2.2.1.2.1, h.2.2.1.2.2⟩
structure ChangeD where
  key : ByteArray
  value : ByteArray
  gone : Bool
end Go.Proofs.Ytpibnhodlojajaa
