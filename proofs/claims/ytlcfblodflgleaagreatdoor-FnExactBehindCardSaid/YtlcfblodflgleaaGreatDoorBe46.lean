import Derived.Test.YtlcfblodflgleaaGreatDoorBe29
import Derived.Test.YtlcfblodflgleaaGreatDoorBe14
import Derived.Test.YtlcfblodflgleaaGreatDoorBe45
import Derived.Test.YtlcfblodflgleaaGreatDoorBe41
import Derived.Test.YtlcfblodflgleaaGreatDoorBe43
set_option maxRecDepth 100000
set_option maxHeartbeats 3200000
namespace Go.Proofs.YtlcfblodflgleaaGreatDoor
open Go.RowKit
theorem disk_without {fs : List FileD} (nm : ByteArray) (h : diskOkD fs = true) : diskOkD (withoutD fs nm) = true := by
  rw [disk_iff] at h ⊢
  refine ⟨Nat.le_trans (List.length_filter_le _ _) h.1, fun F hF => h.2.1 F (List.mem_filter.1 hF).1, srt_without nm h.2.2⟩
theorem drop_one {fs : List FileD} {F : FileD} (h : diskOkD fs = true) (hF : F ∈ fs) : actD fs (dropA F.name) = some (withoutD fs F.name) := by
  have hn : nameOkD F.name = true := by
    have := ((disk_iff fs).1 h).2.1 F hF
    unfold fileOkD at this
    simp only [Bool.and_eq_true] at this
    exact this.1
  have hs : (fileD fs F.name).isSome = true := by
    rw [fileD_some_iff, List.any_eq_true]
    exact ⟨F, hF, beq_self_eq_true _⟩
  refine actD_yes ?_ ?_ (disk_without F.name h)
  · unfold actOk dropA
    simp only [h, hn, Bool.true_and]
    rw [show (⟨#[]⟩ : ByteArray).toList = [] from by rw [ByteArray.toList_eq]]
    rfl
  · unfold rawD
    have e1 : (dropA F.name).kind = 4 := rfl
    have e2 : (dropA F.name).name = F.name := rfl
    rw [e1, e2, hs]
    simp
theorem actsF_app : ∀ (a b : List ActD) (fs : List FileD), (actsF fs a).2 = a.length → actsF fs (a ++ b) = ((actsF (actsF fs a).1 b).1, a.length + (actsF (actsF fs a).1 b).2)
  | [], b, fs, _ => by simp [actsF]
  | A :: r, b, fs, h => by
    cases hA : actD fs A with
    | none =>
      have h2 : actsF fs (A :: r) = (fs, 0) := by simp only [actsF, hA]
      rw [h2] at h
      simp at h
    | some g =>
      have h2 : ∀ q, actsF fs (A :: q) = ((actsF g q).1, (actsF g q).2 + 1) := fun q => by simp only [actsF, hA]
      rw [h2] at h
      simp only [List.length_cons, Nat.add_right_cancel_iff] at h
      rw [List.cons_append, h2, h2, actsF_app r b g h, List.length_cons]
      simp only [Prod.mk.injEq, true_and]
      omega
def oneOf (ns : List ByteArray) (F : FileD) : Bool := ns.any fun n => F.name.toList == n.toList
theorem drops_all : ∀ (ns : List ByteArray) (fs : List FileD), diskOkD fs = true → ns.Pairwise (fun a b => a.toList ≠ b.toList) → (∀ n ∈ ns, ∃ F ∈ fs, F.name = n) → actsF fs (ns.map dropA) = (fs.filter (fun F => !oneOf ns F), ns.length)
  | [], fs, _, _, _ => by
    have h : fs.filter (fun F => !oneOf [] F) = fs := List.filter_eq_self.2 (fun F _ => rfl)
    rw [h]
    rfl
  | n :: r, fs, h, hp, hm => by
    obtain ⟨F, hF, rfl⟩ := hm n List.mem_cons_self
    have h1 := drop_one h hF
    have hp2 := List.pairwise_cons.1 hp
    have ih := drops_all r (withoutD fs F.name) (disk_without F.name h) hp2.2 (fun m hmr => by
      obtain ⟨G, hG, rfl⟩ := hm m (List.mem_cons_of_mem _ hmr)
      refine ⟨G, List.mem_filter.2 ⟨hG, ?_⟩, rfl⟩
      unfold otherF
      have := hp2.1 G.name hmr
      simp only [Bool.not_eq_true', beq_eq_false_iff_ne]
      exact fun e => this e.symm)
    rw [List.map_cons]
    unfold actsF
    rw [h1]
    simp only [ih, List.length_cons]
    congr 1
    unfold withoutD
    rw [List.filter_filter]
    congr 1
    funext G
    unfold oneOf otherF
    rw [List.any_cons, Bool.not_or, Bool.and_comm]
theorem names_apart {fs : List FileD} (h : srt fs) : (fs.map FileD.name).Pairwise (fun a b => a.toList ≠ b.toList) := by
  rw [List.pairwise_map]
  refine List.Pairwise.imp ?_ h
  intro a b hab e
  rw [e, less_irrefl] at hab
  cases hab
theorem new_no_segment (m : Nat) : isBelow m nmNew = false := by
  unfold isBelow
  rw [List.any_eq_false]
  intro n _ e
  have h1 := eq_of_beq e
  rw [show nmNew.toList = [109, 43] from by rw [ByteArray.toList_eq]] at h1
  by_cases h : 0 ≤ (n : Int) ∧ (n : Int) ≤ 99
  · unfold segNm at h1
    rw [if_pos h, ByteArray.toList_eq] at h1
    simp at h1
  · rw [segNm_out _ (by omega), ByteArray.toList_eq] at h1
    simp at h1
theorem goes_name {m : Nat} {F G : FileD} (h : F.name.toList = G.name.toList) : goesB m F = goesB m G := by
  have e : F.name = G.name := by
    have : (F.name.toList == G.name.toList) = true := by rw [h]; exact beq_self_eq_true _
    exact Decidable.byContradiction fun hne => by rw [(toList_ne).2 hne] at this; cases this
  unfold goesB
  rw [e]
theorem drops_I {fs : List FileD} (m : Nat) (h : diskOkD fs = true) : actsF fs (dropsI m fs) = (fs.filter (fun F => !goesB m F), (dropsI m fs).length) := by
  have hs := ((disk_iff fs).1 h).2.2
  have e : dropsI m fs = ((fs.filter (goesB m)).map FileD.name).map dropA := by unfold dropsI; rw [List.map_map]; rfl
  rw [e, drops_all _ fs h (names_apart (List.Pairwise.filter _ hs)) (fun n hn => by
    obtain ⟨F, hF, rfl⟩ := List.mem_map.1 hn
    exact ⟨F, (List.mem_filter.1 hF).1, rfl⟩)]
  congr 1
  · refine List.filter_congr (fun F hF => ?_)
    congr 1
    unfold oneOf
    cases hg : goesB m F with
    | true =>
      rw [List.any_eq_true]
      exact ⟨F.name, List.mem_map.2 ⟨F, List.mem_filter.2 ⟨hF, hg⟩, rfl⟩, beq_self_eq_true _⟩
    | false =>
      rw [List.any_eq_false]
      intro n hn e
      obtain ⟨G, hG, rfl⟩ := List.mem_map.1 hn
      rw [goes_name (eq_of_beq e), (List.mem_filter.1 hG).2] at hg
      cases hg
  · simp
theorem dropsS_eq (m : Nat) (fs : List FileD) : dropsS m fs = ((if (fileD fs nmNew).isSome then [nmNew] else []) ++ (fs.filter fun F => isBelow m F.name).map FileD.name).map dropA := by
  unfold dropsS
  rw [List.map_append, List.map_map]
  congr 1
  split <;> rfl
theorem name_eq {a b : ByteArray} (h : a.toList = b.toList) : a = b :=
  Decidable.byContradiction fun hne => by
    have h1 := (toList_ne).2 hne
    rw [h, beq_self_eq_true] at h1
    cases h1
theorem drops_S {fs : List FileD} (m : Nat) (h : diskOkD fs = true) : actsF fs (dropsS m fs) = (fs.filter (fun F => !goesB m F), (dropsS m fs).length) := by
  have hs := ((disk_iff fs).1 h).2.2
  rw [dropsS_eq, drops_all _ fs h ?_ ?_]
  · congr 1
    · refine List.filter_congr (fun F hF => ?_)
      congr 1
      unfold oneOf
      rw [List.any_append]
      unfold goesB
      congr 1
      · unfold isNew
        cases hn : (F.name.toList == nmNew.toList) with
        | true =>
          have : (fileD fs nmNew).isSome = true := by rw [fileD_some_iff, List.any_eq_true]; exact ⟨F, hF, hn⟩
          rw [this, if_pos rfl, List.any_cons, hn]
          rfl
        | false =>
          split
          · rw [List.any_cons, hn]
            rfl
          · rfl
      · cases hb : isBelow m F.name with
        | true =>
          rw [List.any_eq_true]
          exact ⟨F.name, List.mem_map.2 ⟨F, List.mem_filter.2 ⟨hF, hb⟩, rfl⟩, beq_self_eq_true _⟩
        | false =>
          rw [List.any_eq_false]
          intro n hn e
          obtain ⟨G, hG, rfl⟩ := List.mem_map.1 hn
          have h1 := (List.mem_filter.1 hG).2
          rw [← name_eq (eq_of_beq e), hb] at h1
          cases h1
    · simp
  · rw [List.pairwise_append]
    refine ⟨by split <;> simp, names_apart (List.Pairwise.filter _ hs), ?_⟩
    intro a ha b hb e
    obtain ⟨G, hG, rfl⟩ := List.mem_map.1 hb
    have h1 := (List.mem_filter.1 hG).2
    split at ha
    · rw [List.mem_singleton] at ha
      subst ha
      rw [← name_eq e, new_no_segment] at h1
      cases h1
    · exact absurd ha List.not_mem_nil
  · intro n hn
    rcases List.mem_append.1 hn with hn | hn
    · split at hn
      · rename_i hsome
        rw [List.mem_singleton] at hn
        subst hn
        rw [fileD_some_iff, List.any_eq_true] at hsome
        obtain ⟨F, hF, e⟩ := hsome
        exact ⟨F, hF, name_eq (eq_of_beq e)⟩
      · exact absurd hn List.not_mem_nil
    · obtain ⟨F, hF, rfl⟩ := List.mem_map.1 hn
      exact ⟨F, (List.mem_filter.1 hF).1, rfl⟩
theorem acts_same {fs : List FileD} (h : diskOkD fs = true) : (actsF fs (actsI fs)).1 = (actsF fs (actsS fs)).1 ∧ ((actsF fs (actsI fs)).2 = (actsI fs).length ↔ (actsF fs (actsS fs)).2 = (actsS fs).length) := by
  have hI := drops_I (firstG fs) h
  have hS := drops_S (firstG fs) h
  unfold actsI actsS
  rw [actsF_app _ _ fs (by rw [hI]), actsF_app _ _ fs (by rw [hS]), hI, hS, List.length_append, List.length_append]
  refine ⟨rfl, ?_⟩
  simp only
  omega
theorem open_same (fs : List FileD) (room : Int) : openIB fs room = openSB fs room := by
  unfold openIB openSB
  cases hs : soundB fs with
  | false => simp
  | true =>
    have h := (acts_same (soundB_segs hs).2.2.2.2.1).2
    congr 2
    exact decide_eq_decide.2 h
theorem open_disk {fs : List FileD} {room : Int} (h : openIB fs room = true) : (actsF fs (actsI fs)).1 = (actsF fs (actsS fs)).1 := by
  unfold openIB at h
  simp only [Bool.and_eq_true] at h
  exact (acts_same (soundB_segs h.2.1).2.2.2.2.1).1
theorem cutD_ok {fs r : List FileD} {qs : List ActD} {wh : Int} {ls : List Int} (h : cutD fs qs wh ls = some r) : ∃ g, diskOkD g = true ∧ r = lostD g ls := by
  unfold cutD at h
  split at h
  · cases h
  · split at h
    · cases h
    · split at h
      · rename_i hg
        exact ⟨_, hg, (Option.some.inj h).symm⟩
      · cases h
theorem lostF_small {F : FileD} (n : Int) (h : fileOkD F = true) : (lostF F n).name.size ≤ 1048576 ∧ (lostF F n).text.size ≤ 1048576 := by
  unfold fileOkD at h
  simp only [Bool.and_eq_true, decide_eq_true_eq] at h
  have h1 : F.name.size ≤ 1048576 := by
    have := h.1
    unfold nameOkD at this
    simp only [Bool.and_eq_true, decide_eq_true_eq] at this
    omega
  refine ⟨h1, ?_⟩
  show (F.text.extract 0 (staysI F n).toNat).size ≤ 1048576
  rw [ByteArray.size_extract]
  omega
theorem lostD_small : ∀ (g : List FileD) (ls : List Int), (∀ F ∈ g, fileOkD F = true) → ∀ F ∈ lostD g ls, F.name.size ≤ 1048576 ∧ F.text.size ≤ 1048576
  | [], _, _, F, hF => absurd hF List.not_mem_nil
  | G :: r, [], h, F, hF => by
    rcases List.mem_cons.1 hF with e | hF
    · rw [e]; exact lostF_small 0 (h G (by simp))
    · exact lostD_small r [] (fun X hX => h X (by simp [hX])) F hF
  | G :: r, n :: l, h, F, hF => by
    rcases List.mem_cons.1 hF with e | hF
    · rw [e]; exact lostF_small n (h G (by simp))
    · exact lostD_small r l (fun X hX => h X (by simp [hX])) F hF
theorem cut_small {fs r : List FileD} {qs : List ActD} {wh : Int} {ls : List Int} (h : cutD fs qs wh ls = some r) : r.length ≤ 30 ∧ ∀ F ∈ r, F.name.size ≤ 1048576 ∧ F.text.size ≤ 1048576 := by
  obtain ⟨g, hg, rfl⟩ := cutD_ok h
  have h1 := (disk_iff g).1 hg
  exact ⟨by rw [lostD_length]; exact h1.1, lostD_small g ls h1.2.1⟩
def behOk (fs : List FileD) (qs : List ActD) (wh : Int) (ls : List Int) (room : Int) : Bool := match cutD fs qs wh ls with
  | none => false
  | some g => openSB g room
def behG (fs : List FileD) (qs : List ActD) (wh : Int) (ls : List Int) : List FileD := (cutD fs qs wh ls).getD []
def behFs (fs : List FileD) (qs : List ActD) (wh : Int) (ls : List Int) (room : Int) : List FileD := bif behOk fs qs wh ls room then (actsF (behG fs qs wh ls) (actsS (behG fs qs wh ls))).1 else []
def behDir (fs : List FileD) (qs : List ActD) (wh : Int) (ls : List Int) (room : Int) : List SpotD := bif behOk fs qs wh ls room then dirD (behG fs qs wh ls) else []
def behRoom (fs : List FileD) (qs : List ActD) (wh : Int) (ls : List Int) (room : Int) : Int := bif behOk fs qs wh ls room then room else 0
def behAct (fs : List FileD) (qs : List ActD) (wh : Int) (ls : List Int) (room : Int) : Int := bif behOk fs qs wh ls room then ((lastG (behG fs qs wh ls)).num : Int) else 0
def behSeq (fs : List FileD) (qs : List ActD) (wh : Int) (ls : List Int) (room : Int) : Int := bif behOk fs qs wh ls room then seqD (segsL (behG fs qs wh ls)) else 0
theorem implOpenEngine_any (fs : List FileD) (ao : Option Addr) (cap : Nat) (room : Int) (w : World) (hl : fs.length ≤ 1048576) (hfs : FilesAt w ao fs) (hsz : ∀ F ∈ fs, F.name.size ≤ 1048576 ∧ F.text.size ≤ 1048576) (hT : SumTab w) :
    Calls Tryz.prog 45 #[.agg #[.slice ao fs.length cap], .int .i64 room] w fun e w' => Below w.heap.size w w' ∧
      ((openIB fs room = true ∧ ∃ vd vr va, e = .returned (.tuple #[.agg #[vd, .int .i64 room, .int .i64 ((lastG fs).num : Int), .int .i64 (seqD (segsL fs)), vr], va, .bool true]) ∧ RowF w' w.heap.size vd (actsF fs (actsI fs)).1 ∧ RowSpot w' w.heap.size vr (dirD fs) ∧ w'.ownsRow w.heap.size 61 4 va (actsI fs).length (cellsAct (actsI fs))) ∨
       (openIB fs room = false ∧ e = .returned (.tuple #[.agg #[.slice none 0 0, .int .i64 0, .int .i64 0, .int .i64 0, .slice none 0 0], .slice none 0 0, .bool false]))) := by
  have HF := hide hfs
  have HT := hide hT
  have HOS := hide (fun W hW hT => openStore_any fs ao cap room W hl hW hsz hT)
  clear hfs hsz hT
  obtain ⟨wb, hwb⟩ : ∃ wb, wb = (w.alloc (.cells #[.slice ao fs.length cap] 31)).alloc (.cells #[.slice none 0 0, .int .i64 0, .int .i64 0, .int .i64 0, .slice none 0 0] 34) := ⟨_, rfl⟩
  have HB0 : Hid (Below w.heap.size w wb) := by rw [hwb]; exact ((Below.refl _ w).alloc (Nat.le_refl _) _).alloc (by simp) _
  have HBE : Hid (wb.heap[w.heap.size + 1]? = some (.cells #[.slice none 0 0, .int .i64 0, .int .i64 0, .int .i64 0, .slice none 0 0] 34 (0, 0))) := by
    show _ = _
    rw [hwb, show w.heap.size + 1 = (w.alloc (.cells #[.slice ao fs.length cap] 31)).heap.size from by simp]
    exact heap_alloc_new _ _
  go_enter Tryz.func45, Tryz.ntmps45
  go_wp2_with fail
  rw [← hwb]
  clear hwb
  refine (HOS.out _ (filesAt_keep HF.out HB0.out) (sumTab_later HB0.out HT.out)).mono ?_
  rintro e w1 ⟨b1, ⟨ho, g, vd, vr, vs, va, rfl, hst, hac⟩ | ⟨ho, s1, rfl⟩⟩
  · have B1 := hide (HB0.out.trans (b1.mono HB0.out.size))
    have HE1 := hide ((b1.block _ (heap_lt HBE.out)).trans HBE.out)
    obtain ⟨ad3, cd3, hvd, -⟩ := rowF_at hst.disk
    obtain ⟨ar3, cr3, hvr, -⟩ := rowSpot_at hst.dir
    subst hvd hvr
    obtain ⟨k0, k1, k2, k3, k4, k5, k6, k7, -⟩ := eight_cells hst.blk
    have HRF := hide (rowF_le hst.disk HB0.out.size)
    have HRS := hide (rowSpot_le hst.dir HB0.out.size)
    have HAC := hide hac
    have HO := hide ho
    clear hst hac ho b1
    obtain ⟨z0, z1, z2, z3, z4, f0, f1, f2, f3, f4⟩ := five_cells HE1.out
    go_wp2
    clear z0 z1 z2 z3 z4 f0 f1 f2 f3 f4
    obtain ⟨y0, y1, y2⟩ := box5 (.slice ad3 (actsF fs (actsI fs)).1.length cd3) (.int .i64 room) (.int .i64 ((lastG fs).num : Int)) (.int .i64 (seqD (segsL fs))) (.slice ar3 (dirD fs).length cr3) HE1.out B1.out (Nat.le_succ _) _ rfl
    obtain ⟨x0, x1, x2, x3, x4, -⟩ := five_cells y0
    refine bodyPost_ret (v := .tuple #[.agg #[.slice ad3 (actsF fs (actsI fs)).1.length cd3, .int .i64 room, .int .i64 ((lastG fs).num : Int), .int .i64 (seqD (segsL fs)), .slice ar3 (dirD fs).length cr3], va, .bool true]) ?_ rfl ?_
    · simp [results, Tryz.results45, go_sem, x0, x1, x2, x3, x4]
    · exact ⟨y1, .inl ⟨HO.out, _, _, _, rfl, files_box HRF.out HE1.out y2, spots_box HRS.out HE1.out y2, acts_box (ownsRow_mono HAC.out HB0.out.size) HE1.out y2⟩⟩
  · have B1 := hide (HB0.out.trans (b1.mono HB0.out.size))
    have HE1 := hide ((b1.block _ (heap_lt HBE.out)).trans HBE.out)
    have HO := hide ho
    clear ho b1
    obtain ⟨z0, z1, z2, z3, z4, f0, f1, f2, f3, f4⟩ := five_cells HE1.out
    go_wp2
    clear z0 z1 z2 z3 z4 f0 f1 f2 f3 f4
    obtain ⟨y0, y1, y2⟩ := box5 (.slice none 0 0) (.int .i64 0) (.int .i64 0) (.int .i64 0) (.slice none 0 0) HE1.out B1.out (Nat.le_succ _) _ rfl
    obtain ⟨x0, x1, x2, x3, x4, -⟩ := five_cells y0
    refine bodyPost_ret (v := .tuple #[.agg #[.slice none 0 0, .int .i64 0, .int .i64 0, .int .i64 0, .slice none 0 0], .slice none 0 0, .bool false]) ?_ rfl ?_
    · simp [results, Tryz.results45, go_sem, x0, x1, x2, x3, x4]
    · exact ⟨y1, .inr ⟨HO.out, rfl⟩⟩
def BehPost (fs : List FileD) (qs : List ActD) (wh : Int) (ls : List Int) (room : Int) (w : World) (e : Ending) (w' : World) : Prop :=
  (∃ vd vr, e = .returned (.tuple #[.agg #[vd, .int .i64 (behRoom fs qs wh ls room), .int .i64 (behAct fs qs wh ls room), .int .i64 (behSeq fs qs wh ls room), vr], .bool (behOk fs qs wh ls room)]) ∧ RowF w' w.heap.size vd (behFs fs qs wh ls room) ∧ RowSpot w' w.heap.size vr (behDir fs qs wh ls room)) ∧ Below w.heap.size w w'
theorem beh_no {fs : List FileD} {qs : List ActD} {wh : Int} {ls : List Int} {room : Int} {w w' : World} (h : behOk fs qs wh ls room = false) (b : Below w.heap.size w w') : BehPost fs qs wh ls room w (.returned (.tuple #[.agg #[.slice none 0 0, .int .i64 0, .int .i64 0, .int .i64 0, .slice none 0 0], .bool false])) w' := by
  refine ⟨⟨.slice none 0 0, .slice none 0 0, ?_, ?_, ?_⟩, b⟩
  · unfold behRoom behAct behSeq; rw [h]; rfl
  · unfold behFs; rw [h]; exact .inl ⟨rfl, rfl⟩
  · unfold behDir; rw [h]; exact .inl ⟨rfl, rfl⟩
theorem beh_yes {fs g : List FileD} {qs : List ActD} {wh : Int} {ls : List Int} {room : Int} {w w' : World} {vd vr : Value} (hg : cutD fs qs wh ls = some g) (h : openSB g room = true) (b : Below w.heap.size w w') (h1 : RowF w' w.heap.size vd (actsF g (actsS g)).1) (h2 : RowSpot w' w.heap.size vr (dirD g)) :
    BehPost fs qs wh ls room w (.returned (.tuple #[.agg #[vd, .int .i64 room, .int .i64 ((lastG g).num : Int), .int .i64 (seqD (segsL g)), vr], .bool true])) w' := by
  have e1 : behG fs qs wh ls = g := by unfold behG; rw [hg]; rfl
  have e2 : behOk fs qs wh ls room = true := by unfold behOk; rw [hg]; exact h
  refine ⟨⟨vd, vr, ?_, ?_, ?_⟩, b⟩
  · unfold behRoom behAct behSeq; rw [e1, e2]; rfl
  · unfold behFs; rw [e1, e2]; exact h1
  · unfold behDir; rw [e1, e2]; exact h2
theorem implBehind_any (fs : List FileD) (ao ad : Option Addr) (cap dl cd : Nat) (room act seq : Int) (qs : List ActD) (ba offa capa : Nat) (wh : Int) (ls : List Int) (al : Option Addr) (capl : Nat) (w : World) (hl : fs.length ≤ 1048576) (hfs : FilesAt w ao fs) (hsz : ∀ F ∈ fs, F.name.size ≤ 1048576 ∧ F.text.size ≤ 1048576)
    (hla : qs.length ≤ 1048576) (has : ActsAt w (some ⟨ba, offa, none⟩) qs) (hsa : ∀ A ∈ qs, A.name.size ≤ 1048576 ∧ A.text.size ≤ 1048576 ∧ A.toN.size ≤ 1048576) (hls : IntsAt w al ls) (hca : qs.length ≤ capa) (hT : SumTab w) :
    Calls Tryz.prog 19 #[.agg #[.slice ao fs.length cap, .int .i64 room, .int .i64 act, .int .i64 seq, .slice ad dl cd], .slice (some ⟨ba, offa, none⟩) qs.length capa, .int .i64 wh, .slice al ls.length capl] w fun e w' => BehPost fs qs wh ls room w e w' := by
  have HT := hide hT
  have HCU := hide (fun W hW => cut_any fs ao cap qs ba offa capa wh ls al capl W hl (filesAt_keep hfs hW) hsz hla (actsAt_keep has hW) hsa (intsAt_keep hls hW) hca)
  clear hT hfs hsz has hsa hls
  obtain ⟨wb, hwb⟩ : ∃ wb, wb = (w.alloc (.cells #[.slice ao fs.length cap, .int .i64 room, .int .i64 act, .int .i64 seq, .slice ad dl cd] 34)).alloc (.cells #[.slice none 0 0, .int .i64 0, .int .i64 0, .int .i64 0, .slice none 0 0] 34) := ⟨_, rfl⟩
  have HB0 : Hid (Below w.heap.size w wb) := by rw [hwb]; exact ((Below.refl _ w).alloc (Nat.le_refl _) _).alloc (by simp) _
  have HBE : Hid (wb.heap[w.heap.size + 1]? = some (.cells #[.slice none 0 0, .int .i64 0, .int .i64 0, .int .i64 0, .slice none 0 0] 34 (0, 0))) := by
    show _ = _
    rw [hwb, show w.heap.size + 1 = (w.alloc (.cells #[.slice ao fs.length cap, .int .i64 room, .int .i64 act, .int .i64 seq, .slice ad dl cd] 34)).heap.size from by simp]
    exact heap_alloc_new _ _
  have HBK : Hid (wb.heap[w.heap.size]? = some (.cells #[.slice ao fs.length cap, .int .i64 room, .int .i64 act, .int .i64 seq, .slice ad dl cd] 34 (0, 0))) := by
    show _ = _
    rw [hwb]
    exact (((Below.refl _ _).alloc (Nat.le_refl _) _).block _ (by simp)).trans (heap_alloc_new w _)
  obtain ⟨hz0, hz1, hz2, hz3, hz4, -⟩ := five_cells HBK.out
  go_enter Tryz.func19, Tryz.ntmps19
  go_wp2_with fail
  rw [← hwb]
  clear hwb
  refine (HCU.out _ HB0.out).mono ?_
  rintro e w1 ⟨v1, rfl, r1, b1⟩
  have B1 := hide (HB0.out.trans (b1.mono HB0.out.size))
  have HE1 := hide ((b1.block _ (heap_lt HBE.out)).trans HBE.out)
  have HK1 := hide ((b1.block _ (heap_lt HBK.out)).trans HBK.out)
  cases hc : cutD fs qs wh ls with
  | none =>
    have hno : behOk fs qs wh ls room = false := by unfold behOk; rw [hc]
    rw [hc] at r1
    obtain ⟨a1, c1, rfl, -⟩ := rowF_at r1
    clear r1 b1
    obtain ⟨wD, hwD⟩ : ∃ wD, wD = w1.alloc (.cells #[.slice a1 0 c1] 31) := ⟨_, rfl⟩
    have bD : Below w1.heap.size w1 wD := by rw [hwD]; exact (Below.refl _ _).alloc (Nat.le_refl _) _
    have BD := hide (B1.out.trans (bD.mono B1.out.size))
    have HED := hide ((bD.block _ (heap_lt HE1.out)).trans HE1.out)
    clear bD
    obtain ⟨z0, z1, z2, z3, z4, f0, f1, f2, f3, f4⟩ := five_cells HED.out
    subst hwD
    simp only [Option.isSome_none, Option.getD_none, List.length_nil]
    go_wp2
    clear z0 z1 z2 z3 z4 f0 f1 f2 f3 f4
    obtain ⟨y0, y1, y2⟩ := box5 (.slice none 0 0) (.int .i64 0) (.int .i64 0) (.int .i64 0) (.slice none 0 0) HED.out BD.out (Nat.le_succ _) _ rfl
    obtain ⟨x0, x1, x2, x3, x4, -⟩ := five_cells y0
    refine bodyPost_ret (v := .tuple #[.agg #[.slice none 0 0, .int .i64 0, .int .i64 0, .int .i64 0, .slice none 0 0], .bool false]) ?_ rfl ?_
    · simp [results, Tryz.results19, go_sem, x0, x1, x2, x3, x4]
    · exact beh_no hno y1
  | some g =>
    have HG := hide hc
    rw [hc] at r1
    obtain ⟨a1, c1, rfl, hf1⟩ := rowF_at r1
    obtain ⟨hg1, hg2⟩ := cut_small hc
    obtain ⟨wD, hwD⟩ : ∃ wD, wD = w1.alloc (.cells #[.slice a1 g.length c1] 31) := ⟨_, rfl⟩
    have bD : Below w1.heap.size w1 wD := by rw [hwD]; exact (Below.refl _ _).alloc (Nat.le_refl _) _
    have BD := hide (B1.out.trans (bD.mono B1.out.size))
    have HED := hide ((bD.block _ (heap_lt HE1.out)).trans HE1.out)
    have HKD := hide ((bD.block _ (heap_lt HK1.out)).trans HK1.out)
    have HOE := hide (implOpenEngine_any g a1 c1 room wD (by omega) (filesAt_keep hf1 bD) hg2 (sumTab_later BD.out HT.out))
    clear r1 b1 hf1 hg2 bD
    obtain ⟨hx0, hx1, hx2, hx3, hx4, -⟩ := five_cells HKD.out
    simp only [Option.isSome_some, Option.getD_some]
    subst hwD
    go_wp2_with fail
    refine HOE.out.mono ?_
    rintro e w2 ⟨b2, ⟨ho, vd, vr, va, rfl, hrd, hrs, hra⟩ | ⟨ho, rfl⟩⟩
    · have hsm : openSB g room = true := (open_same g room).symm.trans ho
      rw [open_disk ho] at hrd
      obtain ⟨a2, c2, rfl, -⟩ := rowF_at hrd
      obtain ⟨d2, e2, rfl, -⟩ := rowSpot_at hrs
      have B2 := hide (BD.out.trans (b2.mono BD.out.size))
      have HE2 := hide ((b2.block _ (heap_lt HED.out)).trans HED.out)
      have HR := hide (rowF_le hrd BD.out.size)
      have HS := hide (rowSpot_le hrs BD.out.size)
      clear b2 hrd hrs hra ho
      generalize hFx : (actsF g (actsS g)).1 = Fx at HR ⊢
      generalize hLn : ((lastG g).num : Int) = Ln
      generalize hSq : seqD (segsL g) = Sq
      generalize hDx : dirD g = Dx at HS ⊢
      obtain ⟨wE, hwE⟩ : ∃ wE, wE = w2.alloc (.cells #[.slice a2 Fx.length c2, .int .i64 room, .int .i64 Ln, .int .i64 Sq, .slice d2 Dx.length e2] 34) := ⟨_, rfl⟩
      have bE : Below w2.heap.size w2 wE := by rw [hwE]; exact (Below.refl _ _).alloc (Nat.le_refl _) _
      have BE := hide (B2.out.trans (bE.mono B2.out.size))
      have HEE := hide ((bE.block _ (heap_lt HE2.out)).trans HE2.out)
      have HR2 := hide (rowF_below HR.out bE)
      have HS2 := hide (rowSpot_below HS.out bE)
      clear bE
      obtain ⟨z0, z1, z2, z3, z4, f0, f1, f2, f3, f4⟩ := five_cells HEE.out
      subst hwE
      go_wp2
      clear z0 z1 z2 z3 z4 f0 f1 f2 f3 f4
      obtain ⟨y0, y1, y2⟩ := box5 (.slice a2 Fx.length c2) (.int .i64 room) (.int .i64 Ln) (.int .i64 Sq) (.slice d2 Dx.length e2) HEE.out BE.out (Nat.le_succ _) _ rfl
      obtain ⟨x0, x1, x2, x3, x4, -⟩ := five_cells y0
      refine bodyPost_ret (v := .tuple #[.agg #[.slice a2 Fx.length c2, .int .i64 room, .int .i64 Ln, .int .i64 Sq, .slice d2 Dx.length e2], .bool true]) ?_ rfl ?_
      · simp [results, Tryz.results19, go_sem, x0, x1, x2, x3, x4]
      · subst hFx hLn hSq hDx
        exact beh_yes HG.out hsm y1 (files_box HR2.out HEE.out y2) (spots_box HS2.out HEE.out y2)
    · have hsm : openSB g room = false := (open_same g room).symm.trans ho
      have hno : behOk fs qs wh ls room = false := by unfold behOk; rw [hc]; exact hsm
      have B2 := hide (BD.out.trans (b2.mono BD.out.size))
      have HE2 := hide ((b2.block _ (heap_lt HED.out)).trans HED.out)
      clear b2 ho
      obtain ⟨wE, hwE⟩ : ∃ wE, wE = w2.alloc (.cells #[.slice none 0 0, .int .i64 0, .int .i64 0, .int .i64 0, .slice none 0 0] 34) := ⟨_, rfl⟩
      have bE : Below w2.heap.size w2 wE := by rw [hwE]; exact (Below.refl _ _).alloc (Nat.le_refl _) _
      have BE := hide (B2.out.trans (bE.mono B2.out.size))
      have HEE := hide ((bE.block _ (heap_lt HE2.out)).trans HE2.out)
      clear bE
      obtain ⟨z0, z1, z2, z3, z4, f0, f1, f2, f3, f4⟩ := five_cells HEE.out
      subst hwE
      go_wp2
      clear z0 z1 z2 z3 z4 f0 f1 f2 f3 f4
      obtain ⟨y0, y1, y2⟩ := box5 (.slice none 0 0) (.int .i64 0) (.int .i64 0) (.int .i64 0) (.slice none 0 0) HEE.out BE.out (Nat.le_succ _) _ rfl
      obtain ⟨x0, x1, x2, x3, x4, -⟩ := five_cells y0
      refine bodyPost_ret (v := .tuple #[.agg #[.slice none 0 0, .int .i64 0, .int .i64 0, .int .i64 0, .slice none 0 0], .bool false]) ?_ rfl ?_
      · simp [results, Tryz.results19, go_sem, x0, x1, x2, x3, x4]
      · exact beh_no hno y1
end Go.Proofs.YtlcfblodflgleaaGreatDoor
