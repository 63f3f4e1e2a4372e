import Derived.Lib.SmallJoins
import Derived.OpenShut
import Derived.Test.YtmmchemgegmhhaaGreatDoorGv48
import Derived.Test.YtmmchemgegmhhaaGreatDoorGv43
import Derived.Test.YtmmchemgegmhhaaGreatDoorGv44
import Derived.Test.YtmmchemgegmhhaaGreatDoorGv24
import Derived.Test.YtmmchemgegmhhaaGreatDoorGv1
set_option maxRecDepth 100000
set_option maxHeartbeats 6400000
namespace Go.Proofs.YtmmchemgegmhhaaGreatDoor
open Go.RowKit
theorem told_take {D : List SpotD} {seg pos : Int} {k : Nat} (h : k < D.length) : toldB (D.take (k + 1)) seg pos = (toldB (D.take k) seg pos || ((D[k].seg == seg) && (D[k].pos == pos))) := by
  rw [List.take_succ_eq_append_getElem h, told_snoc]
theorem batChs_small (r : Option ByteArray) : ∀ A ∈ batChs r, A.key.size ≤ 1048576 ∧ A.value.size ≤ 1048576 := by
  cases r with
  | none => exact fun A h => (nomatch h)
  | some t =>
    show ∀ A ∈ rdChanges t, _
    cases h : rdOk t with
    | false => intro A hA; simp [rdChanges, h] at hA
    | true =>
      intro A hA
      have h1 := (textOk_small (rd_text h).1).2.2 A hA
      omega
def BatG (wn wx : World) (β : Nat) (q : Int) (a : Option Addr) (n c : Nat) (cs : List ChangeD) : Prop := wx.heap[β]? = some (.cells #[.int .i64 q, .slice a n c] 96 (0, 0)) ∧ Below wn.heap.size wn wx ∧ ChangesAt wx a cs
theorem batG_new {wn w2 : World} {B : Nat} {q : Int} {a : Option Addr} {n c : Nat} {cs : List ChangeD} (e2 : Below wn.heap.size wn w2) (hr : RowChange w2 B (.slice a n c) cs) : BatG wn (w2.alloc (.cells #[.int .i64 q, .slice a n c] 96)) w2.heap.size q a n c cs :=
  ⟨heap_alloc_new w2 _, e2.alloc e2.size _, changesAt_keep (rowChange_rows hr) ((Below.refl _ _).alloc (Nat.le_refl _) _)⟩
theorem batG_old {wn w2 : World} {β B : Nat} {q : Int} {a : Option Addr} {n c : Nat} {c0 c1 : Value} {cs : List ChangeD} (e2 : Below wn.heap.size wn w2) (hr : RowChange w2 B (.slice a n c) cs) (hB : β < B) (hb : w2.heap[β]? = some (.cells #[c0, c1] 96 (0, 0))) (wbb : wn.heap.size ≤ β) :
    BatG wn ((w2.setCell ⟨β, 0, none⟩ (.int .i64 q)).setCell ⟨β, 1, none⟩ (.slice a n c)) β q a n c cs := by
  have d0 := (heap_setCell_same w2 β 0 _ _ (.int .i64 q) hb).trans rfl
  have d1 := (heap_setCell_same _ β 1 _ _ (.slice a n c) d0).trans rfl
  refine ⟨by rw [d1]; rfl, (e2.setCell (p := ⟨β, 0, none⟩) wbb _).setCell (p := ⟨β, 1, none⟩) wbb _, ?_⟩
  refine rowChange_rows (rowChange_keep hr (fun g hg => ?_))
  have hne : g ≠ β := by have := (rowChange_lt hr g hg).1; omega
  exact (Below.heap_setCell _ _ _ _ hne).trans (Below.heap_setCell _ _ _ _ hne)
theorem two_c {W : World} {g : Nat} {a b : Value} {t : TypeId} (h : W.heap[g]? = some (.cells #[a, b] t (0, 0))) : W.cell? ⟨g, 0, none⟩ = some a ∧ W.cell? ⟨g, 1, none⟩ = some b ∧ W.frozen? ⟨g, 0, none⟩ = false ∧ W.frozen? ⟨g, 1, none⟩ = false :=
  ⟨(cell_of_row W g 0 _ _ (0, 0) h).trans rfl, (cell_of_row W g 1 _ _ (0, 0) h).trans rfl, frozen_of_row W g 0 _ _ h, frozen_of_row W g 1 _ _ h⟩
theorem specLiveBytes_any (fs : List FileD) (ao ad : Option Addr) (cap cd : Nat) (room act seq : Int) (dir : List SpotD) (w : World) (hl : fs.length ≤ 1048576) (hfs : FilesAt w ao fs) (hsz : ∀ F ∈ fs, F.name.size ≤ 1048576 ∧ F.text.size ≤ 1048576) (hld : dir.length ≤ 1048576) (hds : SpotsAt w ad dir) :
    Calls Tryz.prog 20 #[.agg #[.slice ao fs.length cap, .int .i64 room, .int .i64 act, .int .i64 seq, .slice ad dir.length cd]] w fun e w' => e = .returned (.int .i64 (liveE fs room act seq dir : Nat)) ∧ Below w.heap.size w w' := by
  have HEO := hide (fun W h1 h2 => specEngineOk_any fs ao ad cap cd room act seq dir W hl h1 hsz hld h2)
  have HBA := hide (fun seg pos W h => l07Batch_any fs ao cap seg pos W hl h hsz)
  have HF := hide hfs
  have HD := hide hds
  clear hfs hds hsz
  obtain ⟨wb, hwb⟩ : ∃ wb, wb = w.alloc (.cells #[.slice ao fs.length cap, .int .i64 room, .int .i64 act, .int .i64 seq, .slice ad dir.length cd] 30) := ⟨_, rfl⟩
  have HB0 : Hid (Below w.heap.size w wb) := by rw [hwb]; exact (Below.refl _ w).alloc (Nat.le_refl _) _
  have HBK : Hid (wb.heap[w.heap.size]? = some (.cells #[.slice ao fs.length cap, .int .i64 room, .int .i64 act, .int .i64 seq, .slice ad dir.length cd] 30 (0, 0))) := by rw [hwb]; exact heap_alloc_new w _
  obtain ⟨R, HR⟩ : ∃ R, Hid (liveE fs room act seq dir = R) := ⟨_, hide rfl⟩
  obtain ⟨K, HK⟩ : ∃ K, Hid (engOkB fs room act seq dir = K) := ⟨_, hide rfl⟩
  rw [HK.out] at HEO
  rw [HR.out]
  go_enter Tryz.func20, Tryz.ntmps20
  go_wp2_with fail
  rw [← hwb]
  obtain ⟨hz0, hz1, hz2, hz3, hz4, -⟩ := five_cells HBK.out
  clear hwb
  go_wp2_with fail
  refine (HEO.out _ (filesAt_keep HF.out HB0.out) (spotsAt_keep HD.out HB0.out)).mono ?_
  rintro e w1 ⟨rfl, b1⟩
  have HW1 := hide (HB0.out.trans (b1.mono HB0.out.size))
  have HBK1 := hide ((b1.block _ (heap_lt HBK.out)).trans HBK.out)
  clear hz0 hz1 hz2 hz3 hz4 b1
  obtain ⟨hy0, hy1, hy2, hy3, hy4, -⟩ := five_cells HBK1.out
  cases K with
  | true =>
    have hE := engOkB_iff.1 HK.out
    have hdd := hE.2.2.2.2.2
    have hdk := (soundB_segs hE.2.1).2.2.2.2.1
    have hR : Hid (liveN fs dir = R) := (liveE_yes HK.out).symm.trans HR.out
    have hdl : dir.length ≤ 1000000 := by rw [← hdd]; have := dirD_len fs; omega
    have HST : Hid (∀ k (h : k < dir.length), liveN fs (dir.take (k + 1)) = liveN fs (dir.take k) + (if toldB (dir.take k) dir[k].seg dir[k].pos then 0 else sizeD (batSeq (recAt fs dir[k].seg dir[k].pos)) (batChs (recAt fs dir[k].seg dir[k].pos))) ∧ batOk (recAt fs dir[k].seg dir[k].pos) = true) := by
      intro k h
      subst hdd
      exact ⟨(liveN_step h).1, (liveN_step h).2 hdk⟩
    have HBD : Hid (∀ k, liveN fs (dir.take k) ≤ 6667000000) := fun k => by
      have h1 := sumT_places_le (dir.take k) (segsL fs) (fun S hS => by have h1 := chsN_len S.bs (fun b hb => textOk_one (segsL_ok hS b hb)); have h2 := segsL_three hS; omega)
      have h2 := segsL_len fs
      unfold liveN
      omega
    have HL0 : Hid (liveN fs (dir.take 0) = 0) := sumT_nil _
    clear hE hdd hdk
    have HWQ : Hid (∀ q chs (a : Option Addr) c X, chs.length ≤ 40 → (∀ A ∈ chs, A.key.size ≤ 1048576 ∧ A.value.size ≤ 1048576) → ChangesAt X a chs → Calls Tryz.prog 59 #[.agg #[.int .i64 q, .slice a chs.length c]] X fun e w' => e = .returned (.int .i64 (sizeD q chs : Nat)) ∧ Below X.heap.size X w') := fun q chs a c X h1 h2 h3 => l07Size_any q chs a c X (by omega) h3 h2
    go_wp2_with fail
    go_loopg [3, 4] dir.length (fun gg vs ii wr => ∃ i : Nat, i + gg = dir.length ∧ vs = .int .i64 ((liveN fs (dir.take i) : Nat) : Int) ∧ ii = .int .i64 i ∧ i ≤ dir.length ∧ Hid (Below w1.heap.size w1 wr))
    case atStart => exact ⟨0, by omega, by rw [HL0.out]; rfl, rfl, Nat.zero_le _, Below.refl _ _⟩
    case round =>
      obtain ⟨i, hig, rfl, rfl, hi, HBr⟩ := hrel
      have hws := HBr.out.size
      have HWr : Hid (Below w.heap.size w wr) := HW1.out.trans (HBr.out.mono HW1.out.size)
      have HBKr := hide ((HBr.out.block _ (heap_lt HBK1.out)).trans HBK1.out)
      have hbd := HBD.out i
      cases gk with
      | zero =>
        have hlt' : decide ((i : Int) < (dir.length : Int)) = false := by rw [decide_eq_false_iff_not]; omega
        have hltn : decide (i < dir.length) = false := by rw [decide_eq_false_iff_not]; omega
        rw [List.take_of_length_le (show dir.length ≤ i by omega), hR.out]
        clear hy0 hy1 hy2 hy3 hy4
        obtain ⟨hx0, hx1, hx2, hx3, hx4, -⟩ := five_cells HBKr.out
        go_wp2
        go_ret
        exact ⟨rfl, HWr.out⟩
      | succ g0 =>
        obtain ⟨wO, hwO⟩ : ∃ wO, wO = wr := ⟨_, rfl⟩
        subst hwO
        have hlt : i < dir.length := by omega
        have hlt' : decide ((i : Int) < (dir.length : Int)) = true := by rw [decide_eq_true_eq]; omega
        have hltn : decide (i < dir.length) = true := by rw [decide_eq_true_eq]; omega
        have hi0 : (0 : Int) ≤ (i : Int) := by omega
        have hi1 : (i : Int) < (dir.length : Int) := by omega
        have HS1 := hide (HST.out i hlt).1
        have HS2 := hide (HST.out i hlt).2
        have HTo : Hid (∀ k (h : k < dir.length), toldB (dir.take (k + 1)) dir[i].seg dir[i].pos = (toldB (dir.take k) dir[i].seg dir[i].pos || ((dir[k].seg == dir[i].seg) && (dir[k].pos == dir[i].pos)))) := fun k h => told_take h
        have HCi : Hid (∀ W, Below w.heap.size w W → ∃ b off : Nat, ad = some ⟨b, off, none⟩ ∧ b < W.heap.size ∧ W.cell? ⟨b, off + i * 4, none⟩ = some (.string dir[i].key) ∧ W.cell? ⟨b, off + i * 4 + 1, none⟩ = some (.int .i64 dir[i].seg) ∧ W.cell? ⟨b, off + i * 4 + 2, none⟩ = some (.int .i64 dir[i].pos) ∧ W.cell? ⟨b, off + i * 4 + 3, none⟩ = some (.int .i64 dir[i].seq)) := fun W hW => spotsAt_keep HD.out hW i hlt
        generalize dir[i] = S at HS1 HS2 HTo HCi
        generalize liveN fs (dir.take i) = N at hbd HS1 ⊢
        clear hy0 hy1 hy2 hy3 hy4
        obtain ⟨hx0, hx1, hx2, hx3, hx4, -⟩ := five_cells HBKr.out
        go_wp2_with fail
        clear hlt' hltn hx0 hx1 hx2 hx3 hx4
        go_loopg [5, 6] i (fun g2 vs ii wy => ∃ q : Nat, q + g2 = i ∧ vs = .bool (toldB (dir.take q) S.seg S.pos) ∧ ii = .int .i64 q ∧ q ≤ i ∧ Hid (Below wO.heap.size wO wy))
        case atStart => exact ⟨0, by omega, rfl, rfl, Nat.zero_le _, Below.refl _ _⟩
        case round =>
          obtain ⟨q, hqg, rfl, rfl, hq, HBq⟩ := hrel
          have hwq := HBq.out.size
          have HWq : Hid (Below w.heap.size w wr) := HWr.out.trans (HBq.out.mono HWr.out.size)
          have HBKq := hide ((HBq.out.block _ (heap_lt HBKr.out)).trans HBKr.out)
          obtain ⟨bi, offi, hai, hbwi, hs0, hs1, hs2, hs3⟩ := HCi.out _ HWq.out
          subst hai
          obtain ⟨hx0, hx1, hx2, hx3, hx4, -⟩ := five_cells HBKq.out
          cases gk with
          | zero =>
            have hlt' : decide ((q : Int) < (i : Int)) = false := by rw [decide_eq_false_iff_not]; omega
            have hltn : decide (q < i) = false := by rw [decide_eq_false_iff_not]; omega
            have hqi : q = i := by omega
            subst hqi
            obtain ⟨wP, hwP⟩ : ∃ wO, wO = wr := ⟨_, rfl⟩
            subst hwP
            have hcs := batChs_len (recAt fs S.seg S.pos)
            have HCZ : Hid (∀ A ∈ batChs (recAt fs S.seg S.pos), A.key.size ≤ 1048576 ∧ A.value.size ≤ 1048576) := batChs_small (recAt fs S.seg S.pos)
            have hszl := sizeD_le (batSeq (recAt fs S.seg S.pos)) (batChs (recAt fs S.seg S.pos))
            have HBW : Hid (∀ X, Below wP.heap.size wP X → Calls Tryz.prog 58 #[.agg #[.slice ao fs.length cap], .int .i64 S.seg, .int .i64 S.pos] X fun e w' => (∃ v, e = .returned (.tuple #[.agg #[.int .i64 (batSeq (recAt fs S.seg S.pos)), v], .bool true]) ∧ RowChange w' X.heap.size v (batChs (recAt fs S.seg S.pos))) ∧ Below X.heap.size X w') := fun X hX => by
              have h := HBA.out S.seg S.pos X (filesAt_keep HF.out (HWq.out.trans (hX.mono HWq.out.size)))
              rw [HS2.out] at h
              exact h
            generalize batSeq (recAt fs S.seg S.pos) = bq at HS1 HBW hszl
            generalize batChs (recAt fs S.seg S.pos) = bc at HS1 HBW hszl hcs HCZ
            generalize toldB (dir.take q) S.seg S.pos = tb at HS1 ⊢
            have hwl : w.heap.size < wP.heap.size := heap_lt HBKq.out
            have KS : Hid (∀ X, Below wP.heap.size wP X → (X.cell? ⟨w.heap.size, 0, none⟩ = some (.slice ao fs.length cap) ∧ X.cell? ⟨w.heap.size, 4, none⟩ = some (.slice (some ⟨bi, offi, none⟩) dir.length cd) ∧ X.cell? ⟨bi, offi + q * 4 + 1, none⟩ = some (.int .i64 S.seg) ∧ X.cell? ⟨bi, offi + q * 4 + 2, none⟩ = some (.int .i64 S.pos))) := fun X hX => ⟨(hX.cell (p := ⟨w.heap.size, 0, none⟩) hwl).trans hx0, (hX.cell (p := ⟨w.heap.size, 4, none⟩) hwl).trans hx4, (hX.cell (p := ⟨bi, offi + q * 4 + 1, none⟩) hbwi).trans hs1, (hX.cell (p := ⟨bi, offi + q * 4 + 2, none⟩) hbwi).trans hs2⟩
            go_upto_region 20 with fail
            go_cut [7, 8] from 199 (fun s7 s8 wx => ∃ β a c, s7 = .pointer (some ⟨β, 0, none⟩) ∧ s8 = .bool true ∧ BatG wP wx β bq a bc.length c bc)
            case first =>
              rename_i hJ9 hK9
              go_region_held3 (fun w' => w'.cell? ⟨w.heap.size, 0, none⟩ = some (.slice ao fs.length cap) ∧ w'.cell? ⟨w.heap.size, 4, none⟩ = some (.slice (some ⟨bi, offi, none⟩) dir.length cd) ∧ w'.cell? ⟨bi, offi + q * 4 + 1, none⟩ = some (.int .i64 S.seg) ∧ w'.cell? ⟨bi, offi + q * 4 + 2, none⟩ = some (.int .i64 S.pos)) ((refine KS.out _ ?_; first | (exact (e2.setCell (p := ⟨_, 0, none⟩) wbb _).setCell (p := ⟨_, 1, none⟩) wbb _) | (exact e2) | (exact e2.alloc e2.size _) | (exact (Below.refl _ _).drew) | (exact ((Below.refl _ wP).alloc (Nat.le_refl _) _).drew) | fail)) ((first | (go_at_call 58; refine (HBW.out _ ?_).mono ?_; exact (Below.refl _ _).drew; rintro e w2 ⟨⟨v2, rfl, r2⟩, b2⟩; have e2 : Below wP.heap.size wP w2 := ((Below.refl _ _).drew).trans b2; obtain ⟨a2, c2, hv2, -⟩ := rowChange_at r2; subst hv2) | (go_at_call 58; refine (HBW.out _ ?_).mono ?_; exact ((Below.refl _ wP).alloc (Nat.le_refl _) _).drew; rintro e w2 ⟨⟨v2, rfl, r2⟩, b2⟩; have e2 : Below wP.heap.size wP w2 := (((Below.refl _ wP).alloc (Nat.le_refl _) _).drew).trans (b2.mono (by simp)); obtain ⟨a2, c2, hv2, -⟩ := rowChange_at r2; subst hv2; have q2 : Hid (w2.heap[wP.heap.size]? = some (.cells #[.int .i64 0, .slice none 0 0] 96 (0, 0))) := (b2.block _ (by simp)).trans (heap_alloc_new wP _); have wbb := Nat.le_refl wP.heap.size; have rq2 : Hid (RowChange w2 (wP.heap.size + 1) (.slice a2 bc.length c2) bc) := (by show RowChange w2 (wP.heap.size + 1) (.slice a2 bc.length c2) bc; simpa using r2); obtain ⟨xx0, xx1, ff0, ff1⟩ := two_c q2.out)))
              all_goals (refine hK9 _ _ (Met.intro (hJ9 _ _ ?_)); (repeat apply Exists.intro); refine ⟨?_, rfl⟩)
              all_goals (refine ⟨_, a2, c2, rfl, rfl, ?_⟩; first | (have qq := q2.out; exact batG_old e2 rq2.out (Nat.lt_succ_self _) qq wbb) | (exact batG_new e2 r2))
            case rest =>
              obtain ⟨β, a2, c2, rfl, rfl, hG1, hG2, hG3⟩ := hcut
              have BG := hide hG2
              have HG3 := hide hG3
              obtain ⟨hb0, hb1, -⟩ := two_c hG1
              clear hG1 hG2 hG3 KS HBW hx0 hx1 hx2 hx3 hx4 hs0 hs1 hs2 hs3
              cases tb with
              | true =>
                rw [if_pos rfl] at HS1
                go_wp2_with fail
                go_roundg g0
                case measure => omega
                case rel => exact ⟨q + 1, by omega, by rw [HS1.out]; rfl, by go_num, by omega, HBr.out.trans ((HBq.out.trans (BG.out.mono hwq)).mono hws)⟩
              | false =>
                rw [if_neg (by decide)] at HS1
                go_wp2_with fail
                refine (HWQ.out bq bc a2 c2 _ hcs HCZ.out HG3.out).mono ?_
                rintro e w5 ⟨rfl, b5⟩
                have B5 := hide (BG.out.trans (b5.mono BG.out.size))
                clear b5
                go_wp2_with fail
                go_roundg g0
                case measure => omega
                case rel => exact ⟨q + 1, by omega, by rw [HS1.out]; go_num, by go_num, by omega, HBr.out.trans ((HBq.out.trans (B5.out.mono hwq)).mono hws)⟩
          | succ g1 =>
            have hltq : q < dir.length := by omega
            have hlt' : decide ((q : Int) < (i : Int)) = true := by rw [decide_eq_true_eq]; omega
            have hltn : decide (q < i) = true := by rw [decide_eq_true_eq]; omega
            have hq0 : (0 : Int) ≤ (q : Int) := by omega
            have hq1 : (q : Int) < (dir.length : Int) := by omega
            obtain ⟨bq, offq, haq, hbwq, hr0, hr1, hr2, hr3⟩ := spotsAt_keep HD.out HWq.out q hltq
            cases haq
            have HTT := hide (HTo.out q hltq)
            generalize dir[q] = T at hr0 hr1 hr2 hr3 HTT
            generalize toldB (dir.take q) S.seg S.pos = tb at HTT ⊢
            cases tb with
            | true =>
              rw [Bool.true_or] at HTT
              go_wp2_with fail
              go_quiet (fail)
              go_wp2_with fail
              go_roundg g1
              case measure => omega
              case rel => exact ⟨q + 1, by omega, by rw [HTT.out], by go_num, by omega, below_drewN HBq.out _⟩
            | false =>
              rw [Bool.false_or] at HTT
              cases h1 : (T.seg == S.seg) with
              | false =>
                rw [h1, Bool.false_and] at HTT
                go_wp2_with fail
                go_quiet (fail)
                go_wp2_with fail
                go_roundg g1
                case measure => omega
                case rel => exact ⟨q + 1, by omega, by rw [HTT.out], by go_num, by omega, below_drewN HBq.out _⟩
              | true =>
                cases h2 : (T.pos == S.pos) with
                | false =>
                  rw [h1, h2, Bool.and_false] at HTT
                  go_wp2_with fail
                  go_quiet (fail)
                  go_wp2_with fail
                  go_roundg g1
                  case measure => omega
                  case rel => exact ⟨q + 1, by omega, by rw [HTT.out], by go_num, by omega, below_drewN HBq.out _⟩
                | true =>
                  rw [h1, h2, Bool.and_true] at HTT
                  go_wp2_with fail
                  go_quiet (fail)
                  go_wp2_with fail
                  go_roundg g1
                  case measure => omega
                  case rel => exact ⟨q + 1, by omega, by rw [HTT.out], by go_num, by omega, below_drewN HBq.out _⟩
  | false =>
    have hR : Hid (R = 0) := HR.out.symm.trans (liveE_no HK.out)
    go_wp2
    go_ret
    rw [hR.out]
    exact ⟨rfl, HW1.out⟩
theorem lawLiveBytes (fs : List FileD) (ao ad : Option Addr) (cap cd : Nat) (room act seq : Int) (dir : List SpotD) (w : World) (hl0 : fs.length ≤ maxLen) (hfs : FilesAt w ao fs) (hsz0 : ∀ F ∈ fs, F.name.size ≤ maxLen ∧ F.text.size ≤ maxLen) (hld0 : dir.length ≤ maxLen) (hds : SpotsAt w ad dir) (hszd : ∀ A ∈ dir, A.key.size ≤ maxLen) (hT : SumTab w) :
    Calls Tryz.prog 5 #[.agg #[.slice ao fs.length cap, .int .i64 room, .int .i64 act, .int .i64 seq, .slice ad dir.length cd]] w fun e w' => e = .returned (.bool true) ∧ Below w.heap.size w w' := by
  have HF := hide hfs
  have HD := hide hds
  have HT := hide hT
  have HSZ := hide (fun W h1 h2 => szEngine_any fs ao ad cap cd room act seq dir W hl0 h1 hsz0 hld0 h2 hszd)
  clear hfs hds hT
  obtain ⟨wA, hwA⟩ : ∃ wA, wA = w.alloc (.cells #[.slice ao fs.length cap, .int .i64 room, .int .i64 act, .int .i64 seq, .slice ad dir.length cd] 45) := ⟨_, rfl⟩
  have HA : Hid (Below w.heap.size w wA) := by rw [hwA]; exact (Below.refl _ w).alloc (Nat.le_refl _) _
  have HAK : Hid (wA.heap[w.heap.size]? = some (.cells #[.slice ao fs.length cap, .int .i64 room, .int .i64 act, .int .i64 seq, .slice ad dir.length cd] 45 (0, 0))) := by rw [hwA]; exact heap_alloc_new w _
  obtain ⟨hz0, hz1, hz2, hz3, hz4, -⟩ := five_cells HAK.out
  go_enter Tryz.func5, Tryz.ntmps5
  go_wp2_with fail
  rw [← hwA]
  clear hwA
  go_wp2_with fail
  refine (HSZ.out _ (filesAt_keep HF.out HA.out) (spotsAt_keep HD.out HA.out)).mono ?_
  rintro e w1 ⟨⟨r, rfl, hr⟩, b1⟩
  have HB1 := hide b1
  have HR := hide hr
  have HAK1 := hide ((b1.block _ (heap_lt HAK.out)).trans HAK.out)
  obtain ⟨hy0, hy1, hy2, hy3, hy4, -⟩ := five_cells HAK1.out
  have HW1 := hide (HA.out.trans (b1.mono HA.out.size))
  clear b1 hr hz0 hz1 hz2 hz3 hz4
  by_cases hneg : r < 0
  · have hneg' : decide (r < 0) = true := by simp; omega
    go_wp2
    go_ret
    exact ⟨rfl, HW1.out⟩
  · have hneg' : decide (r < 0) = false := by simp; omega
    obtain ⟨hl, hld, hz⟩ := HR.out (by omega)
    have HZ := hide hz
    clear hz HR
    go_wp2_with fail
    refine (toEngine_any fs ao ad cap cd room act seq dir _ hl (filesAt_keep HF.out HW1.out) hld (spotsAt_keep HD.out HW1.out)).mono ?_
    rintro e w2 ⟨⟨a2, d2, rfl, hf2, hd2⟩, b2⟩
    have HW2 := hide (HW1.out.trans (b2.mono HW1.out.size))
    have HAK2 := hide ((b2.block _ (heap_lt HAK1.out)).trans HAK1.out)
    have HF2 := hide hf2
    have HD2 := hide hd2
    clear b2 hf2 hd2 hy0 hy1 hy2 hy3 hy4
    go_wp2_with fail
    refine (specLiveBytes_any fs a2 d2 _ _ room act seq dir _ hl HF2.out HZ.out hld HD2.out).mono ?_
    rintro e w3 ⟨rfl, b3⟩
    have HW3 := hide (HW2.out.trans (b3.mono HW2.out.size))
    have HAK3 := hide ((b3.block _ (heap_lt HAK2.out)).trans HAK2.out)
    obtain ⟨hy0, hy1, hy2, hy3, hy4, -⟩ := five_cells HAK3.out
    clear b3 HF2 HD2
    go_wp2_with fail
    refine (toEngine_any fs ao ad cap cd room act seq dir _ hl (filesAt_keep HF.out HW3.out) hld (spotsAt_keep HD.out HW3.out)).mono ?_
    rintro e w4 ⟨⟨a4, d4, rfl, hf4, hd4⟩, b4⟩
    have HW4 := hide (HW3.out.trans (b4.mono HW3.out.size))
    have HAK4 := hide ((b4.block _ (heap_lt HAK3.out)).trans HAK3.out)
    have HF4 := hide hf4
    have HD4 := hide hd4
    clear b4 hf4 hd4 hy0 hy1 hy2 hy3 hy4
    obtain ⟨wX, hwX⟩ : ∃ wX, wX = w4.alloc (.cells #[.slice a4 fs.length fs.length, .int .i64 room, .int .i64 act, .int .i64 seq, .slice d4 dir.length dir.length] 30) := ⟨_, rfl⟩
    have HX : Hid (Below w4.heap.size w4 wX) := by rw [hwX]; exact (Below.refl _ w4).alloc (Nat.le_refl _) _
    have HXK : Hid (wX.heap[w4.heap.size]? = some (.cells #[.slice a4 fs.length fs.length, .int .i64 room, .int .i64 act, .int .i64 seq, .slice d4 dir.length dir.length] 30 (0, 0))) := by rw [hwX]; exact heap_alloc_new w4 _
    have HWX := hide (HW4.out.trans (HX.out.mono HW4.out.size))
    obtain ⟨hx0, hx1, hx2, hx3, hx4, -⟩ := five_cells HXK.out
    have HIM := hide (implLiveBytes_any fs a4 d4 fs.length dir.length room act seq dir wX hl (filesAt_keep HF4.out HX.out) HZ.out (spotsAt_keep HD4.out HX.out) (sumTab_later HWX.out HT.out))
    subst hwX
    go_wp2_with fail
    refine HIM.out.mono ?_
    rintro e w5 ⟨rfl, b5⟩
    have HX5 := hide (HX.out.trans (b5.mono HX.out.size))
    have HW5 := hide (HW4.out.trans (HX5.out.mono HW4.out.size))
    have HAK5 := hide ((HX5.out.block _ (heap_lt HAK4.out)).trans HAK4.out)
    have HXK5 := hide ((b5.block _ (heap_lt HXK.out)).trans HXK.out)
    obtain ⟨hy0, hy1, hy2, hy3, hy4, -⟩ := five_cells HAK5.out
    obtain ⟨hv0, hv1, hv2, hv3, hv4, -⟩ := five_cells HXK5.out
    have hzA : w.heap.size < w5.heap.size := heap_lt HAK5.out
    have hzX : w4.heap.size < w5.heap.size := heap_lt HXK5.out
    have HF5 := hide (filesAt_keep HF4.out HX5.out)
    have HD5 := hide (spotsAt_keep HD4.out HX5.out)
    have KS : Hid (∀ X, Below w5.heap.size w5 X → (X.cell? ⟨w.heap.size, 0, none⟩ = some (.slice ao fs.length cap) ∧ X.cell? ⟨w.heap.size, 1, none⟩ = some (.int .i64 room) ∧ X.cell? ⟨w.heap.size, 2, none⟩ = some (.int .i64 act) ∧ X.cell? ⟨w.heap.size, 3, none⟩ = some (.int .i64 seq) ∧ X.cell? ⟨w.heap.size, 4, none⟩ = some (.slice ad dir.length cd) ∧ X.cell? ⟨w4.heap.size, 0, none⟩ = some (.slice a4 fs.length fs.length) ∧ X.cell? ⟨w4.heap.size, 1, none⟩ = some (.int .i64 room) ∧ X.cell? ⟨w4.heap.size, 2, none⟩ = some (.int .i64 act) ∧ X.cell? ⟨w4.heap.size, 3, none⟩ = some (.int .i64 seq) ∧ X.cell? ⟨w4.heap.size, 4, none⟩ = some (.slice d4 dir.length dir.length))) := fun X hX => ⟨(hX.cell (p := ⟨w.heap.size, 0, none⟩) hzA).trans hy0, (hX.cell (p := ⟨w.heap.size, 1, none⟩) hzA).trans hy1, (hX.cell (p := ⟨w.heap.size, 2, none⟩) hzA).trans hy2, (hX.cell (p := ⟨w.heap.size, 3, none⟩) hzA).trans hy3, (hX.cell (p := ⟨w.heap.size, 4, none⟩) hzA).trans hy4, (hX.cell (p := ⟨w4.heap.size, 0, none⟩) hzX).trans hv0, (hX.cell (p := ⟨w4.heap.size, 1, none⟩) hzX).trans hv1, (hX.cell (p := ⟨w4.heap.size, 2, none⟩) hzX).trans hv2, (hX.cell (p := ⟨w4.heap.size, 3, none⟩) hzX).trans hv3, (hX.cell (p := ⟨w4.heap.size, 4, none⟩) hzX).trans hv4⟩
    have HTE : Hid (∀ X, Below w5.heap.size w5 X → Calls Tryz.prog 18 #[.agg #[.slice ao fs.length cap, .int .i64 room, .int .i64 act, .int .i64 seq, .slice ad dir.length cd]] X fun e w' => (∃ a1 a2 : Option Addr, e = .returned (.agg #[.slice a1 fs.length fs.length, .int .i64 room, .int .i64 act, .int .i64 seq, .slice a2 dir.length dir.length]) ∧ FilesAt w' a1 fs ∧ SpotsAt w' a2 dir) ∧ Below X.heap.size X w') := fun X hX => toEngine_any fs ao ad cap cd room act seq dir X hl (filesAt_keep HF.out (HW5.out.trans (hX.mono HW5.out.size))) hld (spotsAt_keep HD.out (HW5.out.trans (hX.mono HW5.out.size)))
    clear b5 hx0 hx1 hx2 hx3 hx4 HIM HXK HX HWX
    generalize liveE fs room act seq dir = R
    go_wp2_with fail
    go_region_held3 (fun w' => w'.cell? ⟨w.heap.size, 0, none⟩ = some (.slice ao fs.length cap) ∧ w'.cell? ⟨w.heap.size, 1, none⟩ = some (.int .i64 room) ∧ w'.cell? ⟨w.heap.size, 2, none⟩ = some (.int .i64 act) ∧ w'.cell? ⟨w.heap.size, 3, none⟩ = some (.int .i64 seq) ∧ w'.cell? ⟨w.heap.size, 4, none⟩ = some (.slice ad dir.length cd) ∧ w'.cell? ⟨w4.heap.size, 0, none⟩ = some (.slice a4 fs.length fs.length) ∧ w'.cell? ⟨w4.heap.size, 1, none⟩ = some (.int .i64 room) ∧ w'.cell? ⟨w4.heap.size, 2, none⟩ = some (.int .i64 act) ∧ w'.cell? ⟨w4.heap.size, 3, none⟩ = some (.int .i64 seq) ∧ w'.cell? ⟨w4.heap.size, 4, none⟩ = some (.slice d4 dir.length dir.length)) ((refine KS.out _ ?_; first | (exact e7) | (exact e6) | (exact (Below.refl _ _).drew) | fail)) ((first | (go_at_call 18; refine (HTE.out _ ?_).mono ?_; exact (Below.refl _ _).drew; rintro e w6 ⟨⟨a6, d6, rfl, hf6, hd6⟩, b6⟩; have e6 : Below w5.heap.size w5 w6 := ((Below.refl _ _).drew).trans b6) | (go_at_call 19; refine (eqEngine_same fs _ _ _ _ _ _ _ _ room act seq dir _ hl0 (filesAt_keep HF5.out e6) hf6 hld0 (spotsAt_keep HD5.out e6) hd6).mono ?_; rintro e w7 ⟨rfl, b7⟩; have e7 : Below w5.heap.size w5 w7 := e6.trans (b7.mono e6.size))))
    go_wp2
    go_ret
    exact ⟨rfl, HW5.out.trans (e7.mono HW5.out.size)⟩
end Go.Proofs.YtmmchemgegmhhaaGreatDoor
namespace Go.Proofs.YtmmchemgegmhhaaGreatDoor
open Go.RowKit Go.ChangeShapes Go.WideShapes Go.Deep
theorem file_of {H : Type} {enc : TypeId × Value → H} {w : World} {fuel : Nat} {cs : List Value} {x : DataW H × List MemPlace} (h : DataW.trod enc Tryz.prog w 0 (fun _ => true) true fuel 197 cs = some x) :
    ∃ F : FileD, cs = [.string F.name, .string F.text, .int .i64 F.kept] ∧ F.name.size ≤ maxLen ∧ F.text.size ≤ maxLen := by
  obtain ⟨y0, y1, y2, n, hx, hl, h0, h1, h2⟩ := trod_struct3 Tryz.underlying197 h
  have hc : Tryz.prog.cellsOf 197 = 3 := by kernel_rfl
  have k0 : Tryz.prog.cellsOf 9 = 1 := by kernel_rfl
  have k1 : Tryz.prog.cellsOf 3 = 1 := by kernel_rfl
  rw [hc] at hl
  match cs, hl with
  | [v0, v1, v2], _ =>
    simp only [k0, k1] at h0 h1 h2
    obtain ⟨s0, e0, _, z0⟩ := DataW.trod_string Tryz.underlying9 h0
    obtain ⟨s1, e1, _, z1⟩ := DataW.trod_string Tryz.underlying9 h1
    obtain ⟨x2, e2, _, _⟩ := DataW.trod_int Tryz.underlying3 h2
    simp at e0 e1 e2
    subst e0 e1 e2
    exact ⟨⟨s0, s1, x2⟩, rfl, z0, z1⟩
end Go.Proofs.YtmmchemgegmhhaaGreatDoor
