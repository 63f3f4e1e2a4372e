/- The program's readers of the segments of a disk. -/
import Derived.Test.YtmmchemgegmhhaaGreatDoorRowSeg
import Derived.Test.YtmmchemgegmhhaaGreatDoorSegI2
import Derived.Test.YtmmchemgegmhhaaGreatDoorFileAt
import Derived.Test.YtmmchemgegmhhaaGreatDoorDiskI
namespace Go.Proofs.YtmmchemgegmhhaaGreatDoor
open Go.RowKit Go.Shelf

theorem fileAt_none (fs : List FileD) (ao : Option Addr) (cap : Nat) (nm : ByteArray) (w : World) (hl : fs.length ≤ 1048576) (hfs : FilesAt w ao fs) (hsz : ∀ F ∈ fs, F.name.size ≤ 1048576 ∧ F.text.size ≤ 1048576) (h : fileD fs nm = none) :
    Calls Tryz.prog 171 #[.agg #[.slice ao fs.length cap], .string nm] w fun e w' => e = .returned (.tuple #[.string ⟨#[]⟩, .bool false]) ∧ Below w.heap.size w w' := by
  refine (fileAt_any fs ao cap nm w hl hfs hsz).mono ?_
  rintro e w' ⟨⟨-, rfl⟩ | ⟨F, hF, -⟩, hb⟩
  · exact ⟨rfl, hb⟩
  · rw [h] at hF; cases hF
theorem fileAt_some (fs : List FileD) (ao : Option Addr) (cap : Nat) (nm : ByteArray) (w : World) (F : FileD) (hl : fs.length ≤ 1048576) (hfs : FilesAt w ao fs) (hsz : ∀ F ∈ fs, F.name.size ≤ 1048576 ∧ F.text.size ≤ 1048576) (h : fileD fs nm = some F) :
    Calls Tryz.prog 171 #[.agg #[.slice ao fs.length cap], .string nm] w fun e w' => e = .returned (.tuple #[.string F.text, .bool true]) ∧ Below w.heap.size w w' := by
  refine (fileAt_any fs ao cap nm w hl hfs hsz).mono ?_
  rintro e w' ⟨⟨hn, -⟩ | ⟨G, hG, -, rfl⟩, hb⟩
  · rw [h] at hn; cases hn
  · rw [h] at hG; cases hG; exact ⟨rfl, hb⟩

set_option maxRecDepth 100000 in
set_option maxHeartbeats 1600000 in
theorem segmentFiles_any (fs : List FileD) (ao : Option Addr) (cap : Nat) (w : World) (hl : fs.length ≤ 1048576) (hfs : FilesAt w ao fs) (hsz : ∀ F ∈ fs, F.name.size ≤ 1048576 ∧ F.text.size ≤ 1048576) (hT : SumTab w) :
    Calls Tryz.prog 197 #[.agg #[.slice ao fs.length cap], .func (.func 85) #[] #[]] w fun e w' => (∃ v, e = .returned v ∧ BuildG w' w.heap.size w.heap.size v (segsTo fs 100)) ∧ Below w.heap.size w w' := by
  have HF := hide hfs
  have HS := hide hsz
  have HT := hide hT
  clear hfs hsz hT
  obtain ⟨wb, hwb⟩ : ∃ wb, wb = w.alloc (.cells #[.slice ao fs.length cap] 27) := ⟨_, rfl⟩
  have HB0 : Hid (Below w.heap.size w wb) := by rw [hwb]; exact (Below.refl _ w).alloc (Nat.le_refl _) _
  have hbs : w.heap.size + 1 ≤ wb.heap.size := by rw [hwb]; simp
  have HBC : Hid (wb.cell? ⟨w.heap.size, 0, none⟩ = some (.slice ao fs.length cap)) := by rw [hwb]; exact (cell_of_row _ _ 0 _ _ (0, 0) (heap_alloc_new w _)).trans rfl
  go_enter Tryz.func197, Tryz.ntmps197
  go_wp2_with fail
  rw [← hwb]
  clear hwb
  go_loopw [5, 9] (fun vo ii wr => ∃ (k : Nat), ii = .int .i64 k ∧ k ≤ 100 ∧ Hid (BuildG wr (w.heap.size + 1) (w.heap.size + 1) vo (segsTo fs k)) ∧ Hid (Below (w.heap.size + 1) wb wr)) (fun _ ii _ => 100 - (intOf ii).toNat)
  case atStart => exact ⟨0, rfl, Nat.zero_le _, buildG_nil _ _ _, Below.refl _ _⟩
  case round =>
    obtain ⟨k, rfl, hk, HG, HB⟩ := hrel
    have hws : w.heap.size + 1 ≤ wr.heap.size := by have := HB.out.size; omega
    have hlt0 : w.heap.size < wr.heap.size := by omega
    have HBw : Hid (Below w.heap.size w wr) := HB0.out.trans (HB.out.mono (by omega))
    by_cases hlt : k < 100
    · have hlt' : decide ((k : Int) < 100) = true := by simp; omega
      have hc0 : wr.cell? ⟨w.heap.size, 0, none⟩ = some (.slice ao fs.length cap) := (HB.out.cell (p := ⟨w.heap.size, 0, none⟩) (by show w.heap.size < _; omega)).trans HBC.out
      have hsl := segsTo_len fs k
      obtain ⟨NM, HNM⟩ : ∃ NM, Hid (segNm (k : Int) = NM) := ⟨_, rfl⟩
      have HN : Hid (∀ W : World, Calls Tryz.prog 85 #[.int .i64 (k : Int)] W fun e w' => e = .returned (.string NM) ∧ w' = W) := fun W => by rw [← HNM.out]; exact name_any (k : Int) W
      cases hf : fileD fs (segNm k) with
      | none =>
        have HE := hide (segsTo_none hf)
        have HFA : Hid (∀ W, Below wr.heap.size wr W → Calls Tryz.prog 171 #[.agg #[.slice ao fs.length cap], .string NM] W fun e w' => e = .returned (.tuple #[.string ⟨#[]⟩, .bool false]) ∧ Below W.heap.size W w') := fun W hW => fileAt_none fs ao cap NM W hl (filesAt_keep (filesAt_keep HF.out HBw.out) hW) HS.out (by rw [← HNM.out]; exact hf)
        clear hf
        obtain ⟨ag, cg, hvo⟩ := buildG_form HG.out
        subst hvo
        go_wp2_with fail
        go_region_held3 (fun w' => w'.cell? ⟨w.heap.size, 0, none⟩ = some (.slice ao fs.length cap)) (first | go_keep | (exact hc0) | (exact (b1.cell (p := ⟨w.heap.size, 0, none⟩) hlt0).trans hc0)) ((first | (go_at_call 85; refine (HN.out _).mono ?_; rintro e w' ⟨rfl, rfl⟩) | (go_at_call 171; refine (HFA.out _ (by first | exact Below.refl _ _ | exact (Below.refl _ _).drew)).mono ?_; rintro e w1 ⟨rfl, b1⟩)))
        have B1 : Hid (Below wr.heap.size wr w1) := (Below.refl _ _).drew.trans b1
        clear b1
        go_wp2_with fail
        go_roundw
        case rel => exact ⟨k + 1, by go_num, by omega, by show BuildG _ _ _ _ _; rw [HE.out]; exact buildG_below HG.out B1.out, HB.out.trans (B1.out.mono hws)⟩
        case measure => simp [intOf]; omega
      | some F =>
        have HE := hide (segsTo_some hf)
        have hFm := List.mem_of_find?_eq_some hf
        have hFs := (HS.out F hFm).2
        have HFA : Hid (∀ W, Below wr.heap.size wr W → Calls Tryz.prog 171 #[.agg #[.slice ao fs.length cap], .string NM] W fun e w' => e = .returned (.tuple #[.string F.text, .bool true]) ∧ Below W.heap.size W w') := fun W hW => fileAt_some fs ao cap NM W F hl (filesAt_keep (filesAt_keep HF.out HBw.out) hW) HS.out (by rw [← HNM.out]; exact hf)
        have HRS := hide (fun W hW => segmentOf_any (k : Int) F.text W hFs hW)
        unfold SegAns at HRS
        have HSO : Hid (segOfFile k F = ⟨k, segFrom (k : Int) F.text, segBatches (k : Int) F.text, segEnd (k : Int) F.text, segOk (k : Int) F.text, segTorn (k : Int) F.text⟩) := rfl
        have HPL := hide (segOfFile_pls k F)
        rw [HSO.out] at HPL
        rw [← HPL.out] at HRS
        clear hf hFm HPL
        generalize segFrom (k : Int) F.text = f0 at HRS HSO
        generalize segBatches (k : Int) F.text = bs0 at HRS HSO
        generalize segEnd (k : Int) F.text = en0 at HRS HSO
        generalize segOk (k : Int) F.text = ok0 at HRS HSO
        generalize segTorn (k : Int) F.text = tn0 at HRS HSO
        rw [HSO.out] at HE
        obtain ⟨ag, cg, hvo⟩ := buildG_form HG.out
        subst hvo
        go_wp2_with fail
        go_region_held3 (fun w' => w'.cell? ⟨w.heap.size, 0, none⟩ = some (.slice ao fs.length cap)) (first | go_keep | (exact hc0) | (exact (b1.cell (p := ⟨w.heap.size, 0, none⟩) hlt0).trans hc0)) ((first | (go_at_call 85; refine (HN.out _).mono ?_; rintro e w' ⟨rfl, rfl⟩) | (go_at_call 171; refine (HFA.out _ (by first | exact Below.refl _ _ | exact (Below.refl _ _).drew)).mono ?_; rintro e w1 ⟨rfl, b1⟩)))
        have B1 : Hid (Below wr.heap.size wr w1) := (Below.refl _ _).drew.trans b1
        clear b1
        go_wp2_with fail
        refine (HRS.out _ (sumTab_later (HBw.out.trans (B1.out.mono HBw.out.size)) HT.out)).mono ?_
        rintro e w2 ⟨⟨v2, p2, rfl, r2, q2⟩, b2⟩
        obtain ⟨a2, c2, rfl, -⟩ := rowBatch_at r2
        obtain ⟨a3, c3, rfl⟩ := rowNat_form q2
        have R2 := hide r2
        have Q2 := hide q2
        have B2 := hide (B1.out.trans (b2.mono B1.out.size))
        clear r2 q2 b2
        have hw2 : wr.heap.size ≤ w2.heap.size := B2.out.size
        have hw1 : wr.heap.size ≤ w1.heap.size := B1.out.size
        go_wp2_with (at_builtin; refine app_seg _ (w.heap.size + 1) (w.heap.size + 1) (by rfl) _ _ (by rfl) (.slice ag (segsTo fs k).length cg) (.slice a2 bs0.length c2) (.slice a3 (SegD.pls ⟨k, f0, bs0, en0, ok0, tn0⟩).length c3) (segsTo fs k) ⟨k, f0, bs0, en0, ok0, tn0⟩ (by rfl) (buildG_below HG.out (B2.out.alloc hw2 _)) (by simp; omega) (rowBatch_below (rowBatch_le R2.out (by omega)) ((Below.refl _ _).alloc (Nat.le_refl _) _)) (rowNat_below (rowNat_le Q2.out (by omega)) ((Below.refl _ _).alloc (Nat.le_refl _) _)) w2.heap.size (by rfl) (heap_alloc_new w2 _) (by omega) ?_; intro g3 cap3 w3 hg3 hb3 hgr3; have G3 := hide hg3; have B3 := hide hb3; clear hg3 hb3 hgr3)
        go_roundw
        case rel =>
          refine ⟨k + 1, by go_num, by omega, ?_, (HB.out.trans ((B2.out.mono hws).alloc (by omega) _)).trans B3.out⟩
          show BuildG _ _ _ _ _
          rw [HE.out]
          exact G3.out
        case measure => simp [intOf]; omega
    · have hlt' : decide ((k : Int) < 100) = false := by simp; omega
      have hke : k = 100 := by omega
      subst hke
      go_wp2
      go_ret
      exact ⟨⟨_, rfl, buildG_mono HG.out (by omega) (by omega)⟩, HBw.out⟩

theorem greatestFrom_any (l : List SegD) (v : Value) (B K : Nat) (w : World) (hl : l.length ≤ 100) (hf : ∀ s ∈ l, s.frm ≤ 99) (h : BuildG w B K v l) :
    Calls Tryz.prog 198 #[v] w fun e w' => e = .returned (.int .i64 (topFrom l : Int)) ∧ Below w.heap.size w w' := by
  obtain ⟨ao, cap, rfl⟩ := buildG_form h
  have HG := hide h
  have HFR := hide hf
  clear h hf
  go_enter Tryz.func198, Tryz.ntmps198
  go_wp2_with fail
  go_loopw [3, 8] (fun vm ii wr => ∃ (k : Nat), vm = .int .i64 (topFrom (l.take k) : Int) ∧ ii = .int .i64 k ∧ k ≤ l.length ∧ Hid (Below w.heap.size w wr)) (fun _ ii _ => l.length - (intOf ii).toNat)
  case atStart => exact ⟨0, rfl, rfl, Nat.zero_le _, Below.refl _ _⟩
  case round =>
    obtain ⟨k, rfl, rfl, hk, HB⟩ := hrel
    by_cases hlt : k < l.length
    · have hlt' : decide ((k : Int) < (l.length : Int)) = true := by simp; omega
      have hi0 : (0 : Int) ≤ (k : Int) := by omega
      have hi1 : (k : Int) < (l.length : Int) := by omega
      obtain ⟨g, rfl, hgw, hc0, hc1, ⟨a, c, hc2, -⟩, ⟨a', c', hc3, -⟩, hc4, hc5, hc6⟩ := buildG_at (buildG_below HG.out HB.out) k hlt
      have hfr := HFR.out l[k] (List.getElem_mem hlt)
      have htk := hide (show topFrom (l.take (k + 1)) = max (topFrom (l.take k)) l[k].frm by rw [List.take_succ_eq_append_getElem hlt, topFrom_snoc])
      have htl := topFrom_le (l.take k) 99 (fun s hs => HFR.out s (List.mem_of_mem_take hs))
      generalize topFrom (l.take k) = M at htk htl
      generalize l[k] = F at hc0 hc1 hc2 hc3 hc4 hc5 hc6 hfr htk
      have hx := heap_alloc_new wr (.cells #[.int .i64 (F.num : Int), .int .i64 (F.frm : Int), .slice a F.bs.length c, .slice a' F.pls.length c', .int .i64 (F.fin : Int), .bool F.right, .bool F.torn] 161)
      have hx1 : (wr.alloc (.cells #[.int .i64 (F.num : Int), .int .i64 (F.frm : Int), .slice a F.bs.length c, .slice a' F.pls.length c', .int .i64 (F.fin : Int), .bool F.right, .bool F.torn] 161)).cell? ⟨wr.heap.size, 1, none⟩ = some (.int .i64 (F.frm : Int)) := (cell_of_row _ _ 1 _ _ (0, 0) hx).trans rfl
      clear hx
      go_wp2_with fail
      go_roundw
      case rel =>
        refine ⟨k + 1, ?_, by go_num, by omega, HB.out.alloc HB.out.size _⟩
        rw [htk.out]
        congr 1
        omega
      case measure => simp [intOf]; omega
    · have hlt' : decide ((k : Int) < (l.length : Int)) = false := by simp; omega
      have hke : k = l.length := by omega
      subst hke
      have hE := hide (show topFrom (l.take l.length) = topFrom l by rw [List.take_length])
      rw [hE.out]
      go_wp2
      go_ret
      exact ⟨rfl, HB.out⟩
end Go.Proofs.YtmmchemgegmhhaaGreatDoor
