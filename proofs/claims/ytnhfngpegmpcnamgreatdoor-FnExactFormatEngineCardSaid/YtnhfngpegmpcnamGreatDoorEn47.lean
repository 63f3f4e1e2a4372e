import Derived.Test.YtnhfngpegmpcnamGreatDoorEn40
import Derived.Test.YtnhfngpegmpcnamGreatDoorEn43
import Derived.Test.YtnhfngpegmpcnamGreatDoorEn4
import Derived.Test.YtnhfngpegmpcnamGreatDoorEn8
import Derived.Test.YtnhfngpegmpcnamGreatDoorEn9
import Derived.Test.YtnhfngpegmpcnamGreatDoorEn26
import Derived.Test.YtnhfngpegmpcnamGreatDoorEn12
set_option maxRecDepth 100000
set_option maxHeartbeats 1600000
namespace Go.Proofs.YtnhfngpegmpcnamGreatDoor
open Go.RowKit
theorem implOpenEngine_any (fs : List FileD) (ao : Option Addr) (cap : Nat) (room : Int) (w : World) (hl : fs.length ≤ 1048576) (hfs : FilesAt w ao fs) (hsz : ∀ F ∈ fs, F.name.size ≤ 1048576 ∧ F.text.size ≤ 1048576) (hT : SumTab w) :
    Calls Tryz.prog 16 #[.agg #[.slice ao fs.length cap], .int .i64 room] w fun e w' => Below w.heap.size w w' ∧
      ((openIB fs room = true ∧ ∃ vd vr va, e = .returned (.tuple #[.agg #[vd, .int .i64 room, .int .i64 ((lastG fs).num : Int), .int .i64 (seqD (segsL fs)), vr], va, .bool true]) ∧ RowF w' w.heap.size vd (actsF fs (actsI fs)).1 ∧ RowSpot w' w.heap.size vr (dirD fs) ∧ w'.ownsRow w.heap.size 94 4 va (actsI fs).length (cellsAct (actsI fs))) ∨
       (openIB fs room = false ∧ e = .returned (.tuple #[.agg #[.slice none 0 0, .int .i64 0, .int .i64 0, .int .i64 0, .slice none 0 0], .slice none 0 0, .bool false]))) := by
  have HF := hide hfs
  have HT := hide hT
  have HOS := hide (fun W hW hT => openStore_any fs ao cap room W hl hW hsz hT)
  clear hfs hsz hT
  obtain ⟨wb, hwb⟩ : ∃ wb, wb = (w.alloc (.cells #[.slice ao fs.length cap] 24)).alloc (.cells #[.slice none 0 0, .int .i64 0, .int .i64 0, .int .i64 0, .slice none 0 0] 27) := ⟨_, rfl⟩
  have HB0 : Hid (Below w.heap.size w wb) := by rw [hwb]; exact ((Below.refl _ w).alloc (Nat.le_refl _) _).alloc (by simp) _
  have HBE : Hid (wb.heap[w.heap.size + 1]? = some (.cells #[.slice none 0 0, .int .i64 0, .int .i64 0, .int .i64 0, .slice none 0 0] 27 (0, 0))) := by
    show _ = _
    rw [hwb, show w.heap.size + 1 = (w.alloc (.cells #[.slice ao fs.length cap] 24)).heap.size from by simp]
    exact heap_alloc_new _ _
  go_enter Tryz.func16, Tryz.ntmps16
  go_wp2_with fail
  rw [← hwb]
  clear hwb
  refine (HOS.out _ (filesAt_keep HF.out HB0.out) (sumTab_later HB0.out HT.out)).mono ?_
  rintro e w1 ⟨b1, ⟨ho, g, vd, vr, vs, va, rfl, hst, hac⟩ | ⟨ho, s1, rfl⟩⟩
  · have B1 := hide (HB0.out.trans (b1.mono HB0.out.size))
    have HE1 := hide ((b1.block _ (heap_lt HBE.out)).trans HBE.out)
    obtain ⟨ad3, cd3, hvd, -⟩ := rowF_at hst.disk
    obtain ⟨ar3, cr3, hvr, -⟩ := rowSpot_at hst.dir
    subst hvd hvr
    obtain ⟨k0, k1, k2, k3, k4, k5, k6, k7, -⟩ := eight_cells hst.blk
    have HRF := hide (rowF_le hst.disk HB0.out.size)
    have HRS := hide (rowSpot_le hst.dir HB0.out.size)
    have HAC := hide hac
    have HO := hide ho
    clear hst hac ho b1
    obtain ⟨z0, z1, z2, z3, z4, f0, f1, f2, f3, f4⟩ := five_cells HE1.out
    go_wp2
    clear z0 z1 z2 z3 z4 f0 f1 f2 f3 f4
    obtain ⟨y0, y1, y2⟩ := box5 (.slice ad3 (actsF fs (actsI fs)).1.length cd3) (.int .i64 room) (.int .i64 ((lastG fs).num : Int)) (.int .i64 (seqD (segsL fs))) (.slice ar3 (dirD fs).length cr3) HE1.out B1.out (Nat.le_succ _) _ rfl
    obtain ⟨x0, x1, x2, x3, x4, -⟩ := five_cells y0
    refine bodyPost_ret (v := .tuple #[.agg #[.slice ad3 (actsF fs (actsI fs)).1.length cd3, .int .i64 room, .int .i64 ((lastG fs).num : Int), .int .i64 (seqD (segsL fs)), .slice ar3 (dirD fs).length cr3], va, .bool true]) ?_ rfl ?_
    · simp [results, Tryz.results16, go_sem, x0, x1, x2, x3, x4]
    · exact ⟨y1, .inl ⟨HO.out, _, _, _, rfl, files_box HRF.out HE1.out y2, spots_box HRS.out HE1.out y2, acts_box (ownsRow_mono HAC.out HB0.out.size) HE1.out y2⟩⟩
  · have B1 := hide (HB0.out.trans (b1.mono HB0.out.size))
    have HE1 := hide ((b1.block _ (heap_lt HBE.out)).trans HBE.out)
    have HO := hide ho
    clear ho b1
    obtain ⟨z0, z1, z2, z3, z4, f0, f1, f2, f3, f4⟩ := five_cells HE1.out
    go_wp2
    clear z0 z1 z2 z3 z4 f0 f1 f2 f3 f4
    obtain ⟨y0, y1, y2⟩ := box5 (.slice none 0 0) (.int .i64 0) (.int .i64 0) (.int .i64 0) (.slice none 0 0) HE1.out B1.out (Nat.le_succ _) _ rfl
    obtain ⟨x0, x1, x2, x3, x4, -⟩ := five_cells y0
    refine bodyPost_ret (v := .tuple #[.agg #[.slice none 0 0, .int .i64 0, .int .i64 0, .int .i64 0, .slice none 0 0], .slice none 0 0, .bool false]) ?_ rfl ?_
    · simp [results, Tryz.results16, go_sem, x0, x1, x2, x3, x4]
    · exact ⟨y1, .inr ⟨HO.out, rfl⟩⟩
abbrev file (L : List UInt8) : ByteArray := ⟨L.toArray⟩
theorem file_size (L : List UInt8) : (file L).size = L.length := rfl
theorem file_extract (L : List UInt8) (a b : Nat) : (file L).extract a b = file ((L.drop a).take (b - a)) := by
  apply ByteArray.ext
  apply Array.toList_inj.1
  simp [List.extract_eq_take_drop]
def frameL (t : List UInt8) : List UInt8 := Wd.varF 5 t.length ++ four (sumL 4294967295 t) ++ t
theorem frameL_of (t : List UInt8) : frameB (file t) = file (frameL t) := by
  apply ByteArray.ext
  apply Array.toList_inj.1
  rw [frameB_list]
  rfl
theorem frameL_len (t : List UInt8) : (frameL t).length = (Wd.varF 5 t.length).length + 4 + t.length := by
  unfold frameL
  rw [List.length_append, List.length_append]
  rfl
theorem frB_at (a t b : List UInt8) (h1 : 1 ≤ t.length) (h2 : t.length ≤ 9000) :
    ∃ x : Nat × Nat, frB (file (a ++ frameL t ++ b)) a.length = some x ∧ x.2 = a.length + (frameL t).length ∧ ((file (a ++ frameL t ++ b)).extract x.1 x.2).data.toList = t := by
  have e : a ++ frameL t ++ b = a ++ Wd.varF 5 t.length ++ (four (sumL 4294967295 t) ++ t ++ b) := by
    unfold frameL; simp only [List.append_assoc]
  have hlen := frameL_len t
  have hr : Wd.rv (file (a ++ frameL t ++ b)) a.length = some (t.length, a.length + (Wd.varF 5 t.length).length) := by
    have := rvI_at a (four (sumL 4294967295 t) ++ t ++ b) t.length (by omega) (a.length : Int) rfl
    rw [← e] at this
    unfold Wd.rvI at this
    rw [if_neg (by
      have : (⟨(a ++ frameL t ++ b).toArray⟩ : ByteArray).size = a.length + (frameL t).length + b.length := by
        show (a ++ frameL t ++ b).length = _
        rw [List.length_append, List.length_append]
      rw [this]; omega), Int.toNat_natCast] at this
    exact this
  have hsz : (file (a ++ frameL t ++ b)).size = a.length + (frameL t).length + b.length := by
    rw [file_size, List.length_append, List.length_append]
  have x1 : (file (a ++ frameL t ++ b)).extract (a.length + (Wd.varF 5 t.length).length) (a.length + (Wd.varF 5 t.length).length + 4) = file (four (sumL 4294967295 t)) := by
    rw [file_extract, e, ← List.length_append, List.drop_left, Nat.add_sub_cancel_left, List.append_assoc (four (sumL 4294967295 t)), List.take_left' (show (four (sumL 4294967295 t)).length = 4 from rfl)]
  have x2 : (file (a ++ frameL t ++ b)).extract (a.length + (Wd.varF 5 t.length).length + 4) (a.length + (Wd.varF 5 t.length).length + 4 + t.length) = file t := by
    rw [file_extract, e, Nat.add_sub_cancel_left]
    have : a ++ Wd.varF 5 t.length ++ (four (sumL 4294967295 t) ++ t ++ b) = (a ++ Wd.varF 5 t.length ++ four (sumL 4294967295 t)) ++ (t ++ b) := by simp only [List.append_assoc]
    rw [this, List.drop_left' (by rw [List.length_append, List.length_append]; rfl), List.take_left' rfl]
  refine ⟨_, frB_yes _ _ _ _ hr ⟨h1, h2, by rw [hsz, hlen]; omega, ?_⟩, by show _ = _; rw [hlen]; omega, ?_⟩
  · rw [x1, x2]; rfl
  · show ((file (a ++ frameL t ++ b)).extract (a.length + (Wd.varF 5 t.length).length + 4) (a.length + (Wd.varF 5 t.length).length + 4 + t.length)).data.toList = t
    rw [x2]
def framesL : List (List UInt8) → List UInt8
  | [] => []
  | t :: ts => frameL t ++ framesL ts
theorem back_file (t : ByteArray) (L : List UInt8) (h : t.data.toList = L) : t = file L := by
  subst h
  cases t
  rfl
def risingT : Int → List (List UInt8) → Prop
  | _, [] => True
  | last, t :: r => rdOk (file t) = true ∧ last < rdSeq (file t) ∧ risingT (rdSeq (file t)) r
def bsT (ts : List (List UInt8)) : List BatchD := ts.map fun t => ⟨rdSeq (file t), rdChanges (file t)⟩
def endOr (e : Nat) (l : List (Nat × Nat)) : Nat := match l.getLast? with
  | some x => x.2
  | none => e
theorem endOr_cons (e : Nat) (x : Nat × Nat) (r : List (Nat × Nat)) : endOr e (x :: r) = endOr x.2 r := by
  unfold endOr
  rw [List.getLast?_cons]
  cases r.getLast? <;> rfl
theorem ris_T (s : ByteArray) : ∀ (l : List (Nat × Nat)) (ts : List (List UInt8)) (last : Int) (e : Nat), recs s l = ts → risingT last ts → ris s l last e = (bsT ts, endOr e l)
  | [], ts, last, e, h, _ => by
    obtain rfl : ts = [] := h.symm
    rfl
  | x :: r, ts, last, e, h, hr => by
    cases ts with
    | nil => simp [recs] at h
    | cons t q =>
      have h1 : (s.extract x.1 x.2).data.toList = t := by simp [recs] at h; simpa using h.1
      have h2 : recs s r = q := by simp only [recs, List.map_cons, List.cons.injEq] at h; exact h.2
      have hx := back_file _ _ h1
      obtain ⟨k1, k2, k3⟩ := hr
      rw [ris_more (by rw [hx]; exact k1) (by rw [hx]; exact k2), hx, ris_T s r q _ x.2 h2 k3, endOr_cons]
      rfl
theorem frs_tail (b : List UInt8) : ∀ (ts : List (List UInt8)) (a : List UInt8) (f : Nat), (∀ t ∈ ts, 1 ≤ t.length ∧ t.length ≤ 9000) → ts.length < f → frB (file (a ++ framesL ts ++ b)) (a ++ framesL ts).length = none →
    recs (file (a ++ framesL ts ++ b)) (frs (file (a ++ framesL ts ++ b)) f a.length) = ts ∧ endOr a.length (frs (file (a ++ framesL ts ++ b)) f a.length) = (a ++ framesL ts).length
  | [], a, f, _, _, hn => by
    have e : a ++ framesL [] = a := by simp [framesL]
    rw [e] at hn ⊢
    rw [frs_none _ f _ hn]
    exact ⟨rfl, rfl⟩
  | t :: r, a, 0, _, hf, _ => absurd hf (by simp)
  | t :: r, a, f + 1, ht, hf, hn => by
    have e : a ++ framesL (t :: r) = a ++ frameL t ++ framesL r := by simp [framesL, List.append_assoc]
    have htt := ht t (by simp)
    rw [e] at hn ⊢
    obtain ⟨x, hx, hx2, hx3⟩ := frB_at a t (framesL r ++ b) htt.1 htt.2
    rw [show a ++ frameL t ++ (framesL r ++ b) = a ++ frameL t ++ framesL r ++ b by simp only [List.append_assoc]] at hx hx3
    have ih := frs_tail b r (a ++ frameL t) f (fun u hu => ht u (by simp [hu])) (by simpa using hf) hn
    have hxl : x.2 = (a ++ frameL t).length := by rw [hx2, List.length_append]
    rw [frs_some _ f _ x hx, endOr_cons, hxl]
    refine ⟨?_, ih.2⟩
    show ((file (a ++ frameL t ++ framesL r ++ b)).extract x.1 x.2).data.toList :: recs _ _ = _
    rw [hx3, ih.1]
theorem headL_len (n f : Nat) : 1 ≤ (headL n f).length ∧ (headL n f).length ≤ 11 := by
  have h1 := Wd.varF_len 5 n
  have h2 := Wd.varF_len 5 f
  unfold headL
  rw [List.length_append, List.length_append]
  simp only [List.length_cons, List.length_nil]
  omega
theorem hd_file (n f : Nat) (hn : n ≤ 99) (hf : f ≤ n) : hdFrom (n : Int) (file (headL n f)) = some f := (hdFrom_iff _ _ _).2 ⟨by omega, by omega, by omega, by rw [Int.toNat_natCast]⟩
theorem seg_read {n f : Nat} (hn : n ≤ 99) (hf : f ≤ n) {ts : List (List UInt8)} (hts : risingT (-1) ts) {s : ByteArray} (hs : recs s (unf s) = headL n f :: ts) : segRead (n : Int) s = some (f, bsT ts, endOf (unf s)) := by
  cases hu : unf s with
  | nil => rw [hu] at hs; simp [recs] at hs
  | cons x r =>
    rw [hu] at hs
    have h1 : (s.extract x.1 x.2).data.toList = headL n f := by simp only [recs, List.map_cons, List.cons.injEq] at hs; exact hs.1
    have h2 : recs s r = ts := by simp only [recs, List.map_cons, List.cons.injEq] at hs; exact hs.2
    have hx := back_file _ _ h1
    rw [segRead_some hu (f := f) (by rw [hx]; exact hd_file n f hn hf), ris_T s r ts (-1) x.2 h2 hts]
    have : endOf (x :: r) = endOr x.2 r := by
      have := endOr_cons 0 x r
      rw [← this]
      unfold endOf endOr
      cases (x :: r).getLast? <;> rfl
    rw [this]
theorem seg_whole (n f : Nat) (hn : n ≤ 99) (hf : f ≤ n) (ts : List (List UInt8)) (hts : risingT (-1) ts) (hl : ∀ t ∈ ts, 1 ≤ t.length ∧ t.length ≤ 9000) (b : List UInt8) (hsz : (framesL (headL n f :: ts) ++ b).length ≤ 20000)
    (hb : frB (file (framesL (headL n f :: ts) ++ b)) (framesL (headL n f :: ts)).length = none) : segRead (n : Int) (file (framesL (headL n f :: ts) ++ b)) = some (f, bsT ts, (framesL (headL n f :: ts)).length) := by
  have hH := headL_len n f
  have hall : ∀ t ∈ headL n f :: ts, 1 ≤ t.length ∧ t.length ≤ 9000 := by
    intro t ht
    rcases List.mem_cons.1 ht with rfl | ht
    · omega
    · exact hl t ht
  obtain ⟨F, hF⟩ : ∃ F, F = (headL n f :: ts).length + (file (framesL (headL n f :: ts) ++ b)).size + 1 := ⟨_, rfl⟩
  have hu : unf (file (framesL (headL n f :: ts) ++ b)) = frs (file (framesL (headL n f :: ts) ++ b)) F 0 := by
    unfold unf
    rw [if_pos (by rw [file_size]; exact hsz)]
    exact frs_same _ _ _ 0 (by omega) (by omega)
  have ht := frs_tail b (headL n f :: ts) [] F hall (by omega) (by simpa using hb)
  simp only [List.nil_append, List.length_nil] at ht
  have h := seg_read hn hf hts (s := file (framesL (headL n f :: ts) ++ b)) (by rw [hu]; exact ht.1)
  rw [h, hu]
  have : ∀ l, endOf l = endOr 0 l := fun l => by unfold endOf endOr; cases l.getLast? <;> rfl
  rw [this, ht.2]
theorem end_none (L : List UInt8) : frB (file (L ++ [])) L.length = none := frB_num _ _ (Wd.rv_at_end _ _ (by rw [file_size]; simp))
def fmtF : FileD := ⟨segNm 0, headT 0 0, ((headT 0 0).size : Int)⟩
theorem fmt_text : headT 0 0 = file (framesL [headL 0 0] ++ []) := by
  have h := headT_in 0 0 (by omega) (by omega)
  rw [show ((0 : Nat) : Int) = 0 from rfl] at h
  rw [h, show framesL [headL 0 0] ++ [] = frameL (headL 0 0) from by simp [framesL]]
  exact frameL_of _
theorem fmt_len : (framesL [headL 0 0]).length ≤ 100 ∧ 1 ≤ (framesL [headL 0 0]).length := by
  have h := headL_len 0 0
  have h1 := Wd.varF_len 5 (headL 0 0).length
  have h2 : (framesL [headL 0 0]).length = (frameL (headL 0 0)).length := by simp [framesL]
  rw [h2]
  unfold frameL
  rw [List.length_append, List.length_append]
  have h3 : (four (sumL 4294967295 (headL 0 0))).length = 4 := by first | rfl | simp [four]
  omega
theorem fmt_size : (headT 0 0).size = (framesL [headL 0 0]).length := by
  rw [fmt_text, file_size]
  simp
theorem fmt_read : segRead (0 : Int) (headT 0 0) = some (0, [], (headT 0 0).size) := by
  have h := seg_whole 0 0 (by omega) (by omega) [] (by trivial) (by simp) [] (by have := fmt_len; simp only [List.append_nil]; omega) (end_none _)
  rw [fmt_size, fmt_text]
  exact h
theorem fmt_names : ∀ k : Fin 100, 0 < k.val → (Wd.decS (k.val : Int) == Wd.decS 0) = false := by decide
theorem fmt_other (k : Nat) (h0 : 0 < k) (hk : k ≤ 99) : ((segNm 0).toList == (segNm (k : Int)).toList) = false := by
  have h := fmt_names ⟨k, by omega⟩ h0
  cases hq : ((segNm 0).toList == (segNm (k : Int)).toList) with
  | false => rfl
  | true =>
    rw [beq_iff_eq] at hq
    rw [ByteArray.toList_eq, ByteArray.toList_eq] at hq
    have e : segNm 0 = segNm (k : Int) := ByteArray.ext (Array.toList_inj.1 hq)
    unfold segNm at e
    rw [if_pos (by omega), if_pos (by omega)] at e
    have e2 := congrArg (fun b : ByteArray => b.data.toList) e
    simp at e2
    rw [← e2] at h
    simp at h
theorem fmt_to (k : Nat) (hk : k ≤ 99) : segsTo [fmtF] (k + 1) = [segOfFile 0 fmtF] := by
  induction k with
  | zero =>
    rw [segsTo_some (F := fmtF) (by unfold fileD; simp [fmtF])]
    rfl
  | succ k ih =>
    rw [segsTo_none (by unfold fileD; simp only [List.find?_cons, List.find?_nil]; rw [show (fmtF.name.toList == (segNm ((k + 1 : Nat) : Int)).toList) = false from fmt_other (k + 1) (by omega) hk])]
    exact ih (by omega)
theorem fmt_seg : segOfFile 0 fmtF = ⟨0, 0, [], (headT 0 0).size, true, false⟩ := by
  unfold segOfFile segTorn segFrom segBatches segEnd segOk
  show SegD.mk 0 (((segRead (0 : Int) (headT 0 0)).map _).getD 0) (((segRead (0 : Int) (headT 0 0)).map _).getD []) (((segRead (0 : Int) (headT 0 0)).map _).getD 0) (segRead (0 : Int) (headT 0 0)).isSome ((segRead (0 : Int) (headT 0 0)).isSome && decide (((segRead (0 : Int) (headT 0 0)).map _).getD 0 < (headT 0 0).size)) = _
  rw [fmt_read]
  simp
theorem fmt_disk : diskOkD [fmtF] = true := by
  have h1 := fmt_len
  have h2 := fmt_size
  unfold diskOkD okFrom okFrom fileOkD nameOkD fmtF
  have h3 : (segNm 0).size = 2 := by unfold segNm; rw [if_pos (by omega)]; rfl
  simp only [h3]
  simp
  omega
theorem fmt_segs : segsOk [fmtF] = true ∧ segsL [fmtF] = [⟨0, 0, [], (headT 0 0).size, true, false⟩] := by
  have h := fmt_to 99 (by omega)
  have hC : segsC [fmtF] = [⟨0, 0, [], (headT 0 0).size, true, false⟩] := by
    unfold segsC
    rw [h, fmt_seg]
    rfl
  have hr : allRight (segsC [fmtF]) = true := by rw [hC]; rfl
  have h2 := segsOk_rest fmt_disk hr
  rw [h2.1, h2.2, hC]
  exact ⟨by decide, rfl⟩
theorem fmt_eng (room : Int) (hr : roomB room = true) : engB [fmtF] room 0 0 [] := by
  obtain ⟨h1, h2⟩ := fmt_segs
  refine ⟨hr, ?_, ?_, ?_, ?_, ?_⟩
  · unfold soundB seqsRise wholeB allKeptD keptD
    rw [h1, h2, fmt_disk]
    simp [seqsOf, riseI, fmtF]
  · have hg : firstG [fmtF] = 0 := by unfold firstG; rw [h2]; rfl
    have hd : dropsI (firstG [fmtF]) [fmtF] = [] := by
      rw [hg, dropsI_empty]
      intro F hF
      obtain rfl : F = fmtF := by simpa using hF
      have hn : ((segNm 0).toList == nmNew.toList) = false := by rw [ByteArray.toList_eq, ByteArray.toList_eq]; unfold segNm; rw [if_pos (by omega)]; rfl
      unfold goesB isNew fmtF
      rw [isBelow_zero]
      simp only [hn]
      rfl
    have hm : mendA [fmtF] = [] := by unfold mendA lastG; rw [h2]; rfl
    unfold calmB actsI
    rw [hd, hm]
    rfl
  · unfold lastG; rw [h2]; rfl
  · rw [h2]; rfl
  · unfold dirD; rw [h2]; rfl
theorem fmt_small : ∀ F ∈ [fmtF], F.name.size ≤ 1048576 ∧ F.text.size ≤ 1048576 := by
  intro F hF
  obtain rfl : F = fmtF := by simpa using hF
  have h1 := fmt_len
  have h2 := fmt_size
  exact ⟨segNm_size 0, by show (headT 0 0).size ≤ _; omega⟩
theorem fmt_calm (room : Int) : openIB [fmtF] room = roomB room ∧ actsI [fmtF] = [] ∧ (actsF [fmtF] (actsI [fmtF])).1 = [fmtF] ∧ (lastG [fmtF]).num = 0 ∧ seqD (segsL [fmtF]) = 0 ∧ dirD [fmtF] = [] := by
  obtain ⟨-, h2, h3, h4, h5, h6⟩ := fmt_eng 100 (by decide)
  have hA := calm_acts h3
  refine ⟨?_, hA, by rw [hA]; rfl, by omega, h5, h6⟩
  rw [open_calm h3, h2, Bool.and_true]
theorem implFormat_any (room : Int) (w : World) (hT : SumTab w) :
    Calls Tryz.prog 9 #[.int .i64 room] w fun e w' => Below w.heap.size w w' ∧
      ((roomB room = true ∧ ∃ vd vr, e = .returned (.tuple #[.agg #[vd, .int .i64 room, .int .i64 0, .int .i64 0, vr], .bool true]) ∧ RowF w' w.heap.size vd [fmtF] ∧ RowSpot w' w.heap.size vr []) ∨
       (roomB room = false ∧ e = .returned (.tuple #[.agg #[.slice none 0 0, .int .i64 0, .int .i64 0, .int .i64 0, .slice none 0 0], .bool false]))) := by
  have HT := hide hT
  have HOE := hide (fun ao cap W hW hT => implOpenEngine_any [fmtF] ao cap room W (by simp) hW fmt_small hT)
  obtain ⟨hc1, hc2, hc3, hc4, hc5, hc6⟩ := fmt_calm room
  rw [hc1, hc3, hc4, hc5, hc6] at HOE
  have HHT := hide (fun W hT => implHeadText_any 0 0 W hT)
  have HSN := hide (fun W => implSegName_any 0 W)
  have hF : fmtF = ⟨segNm 0, headT 0 0, ((headT 0 0).size : Int)⟩ := rfl
  have hts : (headT 0 0).size ≤ 1048576 := (fmt_small fmtF (by simp)).2
  rw [hF] at HOE ⊢
  clear hc1 hc2 hc3 hc4 hc5 hc6 hT hF
  generalize headT 0 0 = T at HOE HHT hts ⊢
  generalize segNm 0 = NM at HOE HSN ⊢
  obtain ⟨wb, hwb⟩ : ∃ wb, wb = w.alloc (.cells #[.slice none 0 0, .int .i64 0, .int .i64 0, .int .i64 0, .slice none 0 0] 27) := ⟨_, rfl⟩
  have HB0 : Hid (Below w.heap.size w wb) := by rw [hwb]; exact (Below.refl _ w).alloc (Nat.le_refl _) _
  have HBE : Hid (wb.heap[w.heap.size]? = some (.cells #[.slice none 0 0, .int .i64 0, .int .i64 0, .int .i64 0, .slice none 0 0] 27 (0, 0))) := by rw [hwb]; exact heap_alloc_new _ _
  go_enter Tryz.func9, Tryz.ntmps9
  go_wp2_with fail
  rw [← hwb]
  clear hwb
  refine (HHT.out _ (sumTab_later HB0.out HT.out)).mono ?_
  rintro e w1 ⟨rfl, b1⟩
  have B1 := hide (HB0.out.trans (b1.mono HB0.out.size))
  have HE1 := hide ((b1.block _ (heap_lt HBE.out)).trans HBE.out)
  clear b1
  go_wp2_with fail
  refine (HSN.out _).mono ?_
  rintro e w2 ⟨rfl, rfl⟩
  go_wp2_with fail
  obtain ⟨w3, hw3⟩ : ∃ w3, w3 = (w2.alloc (.cells #[.string NM, .string T, .int .i64 (T.size : Int)] 61)).alloc (.cells #[.slice (some ⟨w2.heap.size, 0, none⟩) 1 1] 24) := ⟨_, rfl⟩
  have B3 : Hid (Below w2.heap.size w2 w3) := by rw [hw3]; exact ((Below.refl _ w2).alloc (Nat.le_refl _) _).alloc (by simp) _
  have HK3 : Hid (w3.heap[w2.heap.size]? = some (.cells #[.string NM, .string T, .int .i64 (T.size : Int)] 61 (0, 0))) := by
    show _ = _
    rw [hw3]
    exact (Below.heap_alloc _ _ _ (by simp)).trans (heap_alloc_new _ _)
  have HF3 : Hid (FilesAt w3 (some ⟨w2.heap.size, 0, none⟩) [⟨NM, T, (T.size : Int)⟩]) := by
    intro j hj
    obtain rfl : j = 0 := by simpa using hj
    exact ⟨w2.heap.size, 0, rfl, heap_lt HK3.out, (cell_of_row w3 _ 0 _ _ (0, 0) HK3.out).trans rfl, (cell_of_row w3 _ 1 _ _ (0, 0) HK3.out).trans rfl, (cell_of_row w3 _ 2 _ _ (0, 0) HK3.out).trans rfl⟩
  have BW3 := hide (B1.out.trans (B3.out.mono B1.out.size))
  rw [← hw3]
  clear hw3
  refine (HOE.out (some ⟨w2.heap.size, 0, none⟩) 1 _ HF3.out (sumTab_later BW3.out HT.out)).mono ?_
  have HE3 := hide ((B3.out.block _ (heap_lt HE1.out)).trans HE1.out)
  rintro e w4 ⟨b4, ⟨hr, vd, vr, va, rfl, hrf, hrs, hac⟩ | ⟨hr, rfl⟩⟩
  · obtain ⟨ad3, cd3, hvd, -⟩ := rowF_at hrf
    obtain ⟨ar3, cr3, hvr, -⟩ := rowSpot_at hrs
    obtain ⟨aa, ca, hva⟩ := slice_form hac
    subst hvd hvr hva
    have BW4 := hide (BW3.out.trans (b4.mono BW3.out.size))
    have HE4 := hide ((b4.block _ (heap_lt HE3.out)).trans HE3.out)
    have HRF := hide (rowF_le hrf BW3.out.size)
    have HRS := hide (rowSpot_le hrs BW3.out.size)
    clear hrf hrs hac b4
    have HE5 : Hid ((w4.alloc (.cells #[.slice ad3 1 cd3, .int .i64 room, .int .i64 0, .int .i64 0, .slice ar3 0 cr3] 27)).heap[w.heap.size]? = some (.cells #[.slice none 0 0, .int .i64 0, .int .i64 0, .int .i64 0, .slice none 0 0] 27 (0, 0))) := (Below.heap_alloc _ _ _ (heap_lt HE4.out)).trans HE4.out
    have BW5 : Hid (Below w.heap.size w (w4.alloc (.cells #[.slice ad3 1 cd3, .int .i64 room, .int .i64 0, .int .i64 0, .slice ar3 0 cr3] 27))) := BW4.out.alloc BW4.out.size _
    obtain ⟨z0, z1, z2, z3, z4, f0, f1, f2, f3, f4⟩ := five_cells HE5.out
    go_wp2
    clear z0 z1 z2 z3 z4 f0 f1 f2 f3 f4
    obtain ⟨y0, y1, y2⟩ := box5 (.slice ad3 1 cd3) (.int .i64 room) (.int .i64 0) (.int .i64 0) (.slice ar3 0 cr3) HE5.out BW5.out (Nat.le_refl _) _ rfl
    obtain ⟨x0, x1, x2, x3, x4, -⟩ := five_cells y0
    refine bodyPost_ret (v := .tuple #[.agg #[.slice ad3 1 cd3, .int .i64 room, .int .i64 0, .int .i64 0, .slice ar3 0 cr3], .bool true]) ?_ rfl ?_
    · simp [results, Tryz.results9, go_sem, x0, x1, x2, x3, x4]
    · exact ⟨y1, .inl ⟨hr, _, _, rfl, files_box (rowF_below HRF.out ((Below.refl _ _).alloc (Nat.le_refl _) _)) HE5.out y2, spots_box (rowSpot_below HRS.out ((Below.refl _ _).alloc (Nat.le_refl _) _)) HE5.out y2⟩⟩
  · have BW4 := hide (BW3.out.trans (b4.mono BW3.out.size))
    have HE4 := hide ((b4.block _ (heap_lt HE3.out)).trans HE3.out)
    clear b4
    have HE5 : Hid ((w4.alloc (.cells #[.slice none 0 0, .int .i64 0, .int .i64 0, .int .i64 0, .slice none 0 0] 27)).heap[w.heap.size]? = some (.cells #[.slice none 0 0, .int .i64 0, .int .i64 0, .int .i64 0, .slice none 0 0] 27 (0, 0))) := (Below.heap_alloc _ _ _ (heap_lt HE4.out)).trans HE4.out
    have BW5 : Hid (Below w.heap.size w (w4.alloc (.cells #[.slice none 0 0, .int .i64 0, .int .i64 0, .int .i64 0, .slice none 0 0] 27))) := BW4.out.alloc BW4.out.size _
    obtain ⟨z0, z1, z2, z3, z4, f0, f1, f2, f3, f4⟩ := five_cells HE5.out
    go_wp2
    clear z0 z1 z2 z3 z4 f0 f1 f2 f3 f4
    obtain ⟨y0, y1, y2⟩ := box5 (.slice none 0 0) (.int .i64 0) (.int .i64 0) (.int .i64 0) (.slice none 0 0) HE5.out BW5.out (Nat.le_refl _) _ rfl
    obtain ⟨x0, x1, x2, x3, x4, -⟩ := five_cells y0
    refine bodyPost_ret (v := .tuple #[.agg #[.slice none 0 0, .int .i64 0, .int .i64 0, .int .i64 0, .slice none 0 0], .bool false]) ?_ rfl ?_
    · simp [results, Tryz.results9, go_sem, x0, x1, x2, x3, x4]
    · exact ⟨y1, .inr ⟨hr, rfl⟩⟩
theorem specFormat_any (room : Int) (w : World) :
    Calls Tryz.prog 8 #[.int .i64 room] w fun e w' => Below w.heap.size w w' ∧
      ((roomB room = true ∧ ∃ vd vr, e = .returned (.tuple #[.agg #[vd, .int .i64 room, .int .i64 0, .int .i64 0, vr], .bool true]) ∧ RowF w' w.heap.size vd [fmtF] ∧ RowSpot w' w.heap.size vr []) ∨
       (roomB room = false ∧ e = .returned (.tuple #[.agg #[.slice none 0 0, .int .i64 0, .int .i64 0, .int .i64 0, .slice none 0 0], .bool false]))) := by
  have HHT := hide (fun W => specHeadText_any 0 0 W)
  have HSN := hide (fun W => specSegName_any 0 W)
  have HIN := hide (fun W => l01In_any room 100 20000 W)
  have hF : fmtF = ⟨segNm 0, headT 0 0, ((headT 0 0).size : Int)⟩ := rfl
  have hts : (headT 0 0).size ≤ 1048576 := (fmt_small fmtF (by simp)).2
  rw [hF]
  clear hF
  generalize headT 0 0 = T at HHT hts ⊢
  generalize segNm 0 = NM at HSN ⊢
  obtain ⟨R, HR⟩ : ∃ R, Hid (roomB room = R) := ⟨_, hide rfl⟩
  have HR2 : (decide (100 ≤ room) && decide (room ≤ 20000)) = R := HR.out
  rw [HR2] at HIN
  rw [HR.out]
  clear HR2
  obtain ⟨wb, hwb⟩ : ∃ wb, wb = w.alloc (.cells #[.slice none 0 0, .int .i64 0, .int .i64 0, .int .i64 0, .slice none 0 0] 27) := ⟨_, rfl⟩
  have HB0 : Hid (Below w.heap.size w wb) := by rw [hwb]; exact (Below.refl _ w).alloc (Nat.le_refl _) _
  have HBE : Hid (wb.heap[w.heap.size]? = some (.cells #[.slice none 0 0, .int .i64 0, .int .i64 0, .int .i64 0, .slice none 0 0] 27 (0, 0))) := by rw [hwb]; exact heap_alloc_new _ _
  go_enter Tryz.func8, Tryz.ntmps8
  go_wp2_with fail
  rw [← hwb]
  clear hwb
  refine (HIN.out _).mono ?_
  rintro e w0 ⟨rfl, rfl⟩
  cases R with
  | false =>
    obtain ⟨z0, z1, z2, z3, z4, f0, f1, f2, f3, f4⟩ := five_cells HBE.out
    go_wp2
    clear z0 z1 z2 z3 z4 f0 f1 f2 f3 f4
    obtain ⟨y0, y1, y2⟩ := box5 (.slice none 0 0) (.int .i64 0) (.int .i64 0) (.int .i64 0) (.slice none 0 0) HBE.out HB0.out (Nat.le_refl _) _ rfl
    obtain ⟨x0, x1, x2, x3, x4, -⟩ := five_cells y0
    refine bodyPost_ret (v := .tuple #[.agg #[.slice none 0 0, .int .i64 0, .int .i64 0, .int .i64 0, .slice none 0 0], .bool false]) ?_ rfl ?_
    · simp [results, Tryz.results8, go_sem, x0, x1, x2, x3, x4]
    · first | exact ⟨y1, .inr ⟨rfl, rfl⟩⟩ | exact ⟨y1, rfl⟩
  | true =>
    go_wp2_with fail
    refine (HHT.out _).mono ?_
    rintro e w1 ⟨rfl, b1⟩
    have B1 := hide (HB0.out.trans (b1.mono HB0.out.size))
    have HE1 := hide ((b1.block _ (heap_lt HBE.out)).trans HBE.out)
    clear b1
    go_wp2_with fail
    refine (HSN.out _).mono ?_
    rintro e w2 ⟨rfl, b2⟩
    have B2 := hide (B1.out.trans (b2.mono B1.out.size))
    have HE2 := hide ((b2.block _ (heap_lt HE1.out)).trans HE1.out)
    clear b2
    have HE3 : Hid ((w2.alloc (.cells #[.string NM, .string T, .int .i64 (T.size : Int)] 61)).heap[w.heap.size]? = some (.cells #[.slice none 0 0, .int .i64 0, .int .i64 0, .int .i64 0, .slice none 0 0] 27 (0, 0))) := (Below.heap_alloc _ _ _ (heap_lt HE2.out)).trans HE2.out
    have B3 : Hid (Below w.heap.size w (w2.alloc (.cells #[.string NM, .string T, .int .i64 (T.size : Int)] 61))) := B2.out.alloc B2.out.size _
    have HK3 := heap_alloc_new w2 (.cells #[.string NM, .string T, .int .i64 (T.size : Int)] 61)
    have HRF : Hid (RowF (w2.alloc (.cells #[.string NM, .string T, .int .i64 (T.size : Int)] 61)) w.heap.size (.slice (some ⟨w2.heap.size, 0, none⟩) 1 1) [⟨NM, T, (T.size : Int)⟩]) := by
      refine .inr ⟨w2.heap.size, 1, _, rfl, B2.out.size, HK3, by simp, ?_⟩
      intro j hj _
      obtain rfl : j = 0 := by simpa using hj
      exact ⟨rfl, rfl, rfl⟩
    clear HK3
    obtain ⟨z0, z1, z2, z3, z4, f0, f1, f2, f3, f4⟩ := five_cells HE3.out
    go_wp2
    clear z0 z1 z2 z3 z4 f0 f1 f2 f3 f4
    obtain ⟨y0, y1, y2⟩ := box5 (.slice (some ⟨w2.heap.size, 0, none⟩) 1 1) (.int .i64 room) (.int .i64 0) (.int .i64 0) (.slice none 0 0) HE3.out B3.out (Nat.le_refl _) _ rfl
    obtain ⟨x0, x1, x2, x3, x4, -⟩ := five_cells y0
    refine bodyPost_ret (v := .tuple #[.agg #[.slice (some ⟨w2.heap.size, 0, none⟩) 1 1, .int .i64 room, .int .i64 0, .int .i64 0, .slice none 0 0], .bool true]) ?_ rfl ?_
    · simp [results, Tryz.results8, go_sem, x0, x1, x2, x3, x4]
    · have r9 := files_box HRF.out HE3.out y2
      first | exact ⟨y1, .inl ⟨rfl, _, _, rfl, r9, .inl ⟨rfl, rfl⟩⟩⟩ | exact ⟨y1, _, _, rfl, r9, .inl ⟨rfl, rfl⟩⟩
end Go.Proofs.YtnhfngpegmpcnamGreatDoor
