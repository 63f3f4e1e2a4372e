/- The order in which files are dropped changes nothing. -/
import Derived.Test.YtmmchemgegmhhaaGreatDoorEngP
import Derived.Test.YtmmchemgegmhhaaGreatDoorSegN
namespace Go.Proofs.YtmmchemgegmhhaaGreatDoor
open Go.RowKit

theorem disk_without {fs : List FileD} (nm : ByteArray) (h : diskOkD fs = true) : diskOkD (withoutD fs nm) = true := by
  rw [disk_iff] at h ⊢
  refine ⟨Nat.le_trans (List.length_filter_le _ _) h.1, fun F hF => h.2.1 F (List.mem_filter.1 hF).1, srt_without nm h.2.2⟩
theorem drop_one {fs : List FileD} {F : FileD} (h : diskOkD fs = true) (hF : F ∈ fs) : actD fs (dropA F.name) = some (withoutD fs F.name) := by
  have hn : nameOkD F.name = true := by
    have := ((disk_iff fs).1 h).2.1 F hF
    unfold fileOkD at this
    simp only [Bool.and_eq_true] at this
    exact this.1
  have hs : (fileD fs F.name).isSome = true := by
    rw [fileD_some_iff, List.any_eq_true]
    exact ⟨F, hF, beq_self_eq_true _⟩
  refine actD_yes ?_ ?_ (disk_without F.name h)
  · unfold actOk dropA
    simp only [h, hn, Bool.true_and]
    rw [show (⟨#[]⟩ : ByteArray).toList = [] from by rw [ByteArray.toList_eq]]
    rfl
  · unfold rawD
    have e1 : (dropA F.name).kind = 4 := rfl
    have e2 : (dropA F.name).name = F.name := rfl
    rw [e1, e2, hs]
    simp
/-- Acts behind acts that are all true. -/
theorem actsF_app : ∀ (a b : List ActD) (fs : List FileD), (actsF fs a).2 = a.length → actsF fs (a ++ b) = ((actsF (actsF fs a).1 b).1, a.length + (actsF (actsF fs a).1 b).2)
  | [], b, fs, _ => by simp [actsF]
  | A :: r, b, fs, h => by
    cases hA : actD fs A with
    | none =>
      have h2 : actsF fs (A :: r) = (fs, 0) := by simp only [actsF, hA]
      rw [h2] at h
      simp at h
    | some g =>
      have h2 : ∀ q, actsF fs (A :: q) = ((actsF g q).1, (actsF g q).2 + 1) := fun q => by simp only [actsF, hA]
      rw [h2] at h
      simp only [List.length_cons, Nat.add_right_cancel_iff] at h
      rw [List.cons_append, h2, h2, actsF_app r b g h, List.length_cons]
      simp only [Prod.mk.injEq, true_and]
      omega
/-- A name is one of these. -/
def oneOf (ns : List ByteArray) (F : FileD) : Bool := ns.any fun n => F.name.toList == n.toList
theorem drops_all : ∀ (ns : List ByteArray) (fs : List FileD), diskOkD fs = true → ns.Pairwise (fun a b => a.toList ≠ b.toList) → (∀ n ∈ ns, ∃ F ∈ fs, F.name = n) → actsF fs (ns.map dropA) = (fs.filter (fun F => !oneOf ns F), ns.length)
  | [], fs, _, _, _ => by
    have h : fs.filter (fun F => !oneOf [] F) = fs := List.filter_eq_self.2 (fun F _ => rfl)
    rw [h]
    rfl
  | n :: r, fs, h, hp, hm => by
    obtain ⟨F, hF, rfl⟩ := hm n List.mem_cons_self
    have h1 := drop_one h hF
    have hp2 := List.pairwise_cons.1 hp
    have ih := drops_all r (withoutD fs F.name) (disk_without F.name h) hp2.2 (fun m hmr => by
      obtain ⟨G, hG, rfl⟩ := hm m (List.mem_cons_of_mem _ hmr)
      refine ⟨G, List.mem_filter.2 ⟨hG, ?_⟩, rfl⟩
      unfold otherF
      have := hp2.1 G.name hmr
      simp only [Bool.not_eq_true', beq_eq_false_iff_ne]
      exact fun e => this e.symm)
    rw [List.map_cons]
    unfold actsF
    rw [h1]
    simp only [ih, List.length_cons]
    congr 1
    unfold withoutD
    rw [List.filter_filter]
    congr 1
    funext G
    unfold oneOf otherF
    rw [List.any_cons, Bool.not_or, Bool.and_comm]
theorem names_apart {fs : List FileD} (h : srt fs) : (fs.map FileD.name).Pairwise (fun a b => a.toList ≠ b.toList) := by
  rw [List.pairwise_map]
  refine List.Pairwise.imp ?_ h
  intro a b hab e
  rw [e, less_irrefl] at hab
  cases hab
theorem new_no_segment (m : Nat) : isBelow m nmNew = false := by
  unfold isBelow
  rw [List.any_eq_false]
  intro n _ e
  have h1 := eq_of_beq e
  rw [show nmNew.toList = [109, 43] from by rw [ByteArray.toList_eq]] at h1
  by_cases h : 0 ≤ (n : Int) ∧ (n : Int) ≤ 99
  · unfold segNm at h1
    rw [if_pos h, ByteArray.toList_eq] at h1
    simp at h1
  · rw [segNm_out _ (by omega), ByteArray.toList_eq] at h1
    simp at h1
theorem goes_name {m : Nat} {F G : FileD} (h : F.name.toList = G.name.toList) : goesB m F = goesB m G := by
  have e : F.name = G.name := by
    have : (F.name.toList == G.name.toList) = true := by rw [h]; exact beq_self_eq_true _
    exact Decidable.byContradiction fun hne => by rw [(toList_ne).2 hne] at this; cases this
  unfold goesB
  rw [e]
theorem drops_I {fs : List FileD} (m : Nat) (h : diskOkD fs = true) : actsF fs (dropsI m fs) = (fs.filter (fun F => !goesB m F), (dropsI m fs).length) := by
  have hs := ((disk_iff fs).1 h).2.2
  have e : dropsI m fs = ((fs.filter (goesB m)).map FileD.name).map dropA := by unfold dropsI; rw [List.map_map]; rfl
  rw [e, drops_all _ fs h (names_apart (List.Pairwise.filter _ hs)) (fun n hn => by
    obtain ⟨F, hF, rfl⟩ := List.mem_map.1 hn
    exact ⟨F, (List.mem_filter.1 hF).1, rfl⟩)]
  congr 1
  · refine List.filter_congr (fun F hF => ?_)
    congr 1
    unfold oneOf
    cases hg : goesB m F with
    | true =>
      rw [List.any_eq_true]
      exact ⟨F.name, List.mem_map.2 ⟨F, List.mem_filter.2 ⟨hF, hg⟩, rfl⟩, beq_self_eq_true _⟩
    | false =>
      rw [List.any_eq_false]
      intro n hn e
      obtain ⟨G, hG, rfl⟩ := List.mem_map.1 hn
      rw [goes_name (eq_of_beq e), (List.mem_filter.1 hG).2] at hg
      cases hg
  · simp
theorem dropsS_eq (m : Nat) (fs : List FileD) : dropsS m fs = ((if (fileD fs nmNew).isSome then [nmNew] else []) ++ (fs.filter fun F => isBelow m F.name).map FileD.name).map dropA := by
  unfold dropsS
  rw [List.map_append, List.map_map]
  congr 1
  split <;> rfl
theorem name_eq {a b : ByteArray} (h : a.toList = b.toList) : a = b :=
  Decidable.byContradiction fun hne => by
    have h1 := (toList_ne).2 hne
    rw [h, beq_self_eq_true] at h1
    cases h1
theorem drops_S {fs : List FileD} (m : Nat) (h : diskOkD fs = true) : actsF fs (dropsS m fs) = (fs.filter (fun F => !goesB m F), (dropsS m fs).length) := by
  have hs := ((disk_iff fs).1 h).2.2
  rw [dropsS_eq, drops_all _ fs h ?_ ?_]
  · congr 1
    · refine List.filter_congr (fun F hF => ?_)
      congr 1
      unfold oneOf
      rw [List.any_append]
      unfold goesB
      congr 1
      · unfold isNew
        cases hn : (F.name.toList == nmNew.toList) with
        | true =>
          have : (fileD fs nmNew).isSome = true := by rw [fileD_some_iff, List.any_eq_true]; exact ⟨F, hF, hn⟩
          rw [this, if_pos rfl, List.any_cons, hn]
          rfl
        | false =>
          split
          · rw [List.any_cons, hn]
            rfl
          · rfl
      · cases hb : isBelow m F.name with
        | true =>
          rw [List.any_eq_true]
          exact ⟨F.name, List.mem_map.2 ⟨F, List.mem_filter.2 ⟨hF, hb⟩, rfl⟩, beq_self_eq_true _⟩
        | false =>
          rw [List.any_eq_false]
          intro n hn e
          obtain ⟨G, hG, rfl⟩ := List.mem_map.1 hn
          have h1 := (List.mem_filter.1 hG).2
          rw [← name_eq (eq_of_beq e), hb] at h1
          cases h1
    · simp
  · rw [List.pairwise_append]
    refine ⟨by split <;> simp, names_apart (List.Pairwise.filter _ hs), ?_⟩
    intro a ha b hb e
    obtain ⟨G, hG, rfl⟩ := List.mem_map.1 hb
    have h1 := (List.mem_filter.1 hG).2
    split at ha
    · rw [List.mem_singleton] at ha
      subst ha
      rw [← name_eq e, new_no_segment] at h1
      cases h1
    · exact absurd ha List.not_mem_nil
  · intro n hn
    rcases List.mem_append.1 hn with hn | hn
    · split at hn
      · rename_i hsome
        rw [List.mem_singleton] at hn
        subst hn
        rw [fileD_some_iff, List.any_eq_true] at hsome
        obtain ⟨F, hF, e⟩ := hsome
        exact ⟨F, hF, name_eq (eq_of_beq e)⟩
      · exact absurd hn List.not_mem_nil
    · obtain ⟨F, hF, rfl⟩ := List.mem_map.1 hn
      exact ⟨F, (List.mem_filter.1 hF).1, rfl⟩
/-- A disk is opened as the specification opens it, but for the order of what is dropped. -/
theorem acts_same {fs : List FileD} (h : diskOkD fs = true) : (actsF fs (actsI fs)).1 = (actsF fs (actsS fs)).1 ∧ ((actsF fs (actsI fs)).2 = (actsI fs).length ↔ (actsF fs (actsS fs)).2 = (actsS fs).length) := by
  have hI := drops_I (firstG fs) h
  have hS := drops_S (firstG fs) h
  unfold actsI actsS
  rw [actsF_app _ _ fs (by rw [hI]), actsF_app _ _ fs (by rw [hS]), hI, hS, List.length_append, List.length_append]
  refine ⟨rfl, ?_⟩
  simp only
  omega
theorem open_same (fs : List FileD) (room : Int) : openIB fs room = openSB fs room := by
  unfold openIB openSB
  cases hs : soundB fs with
  | false => simp
  | true =>
    have h := (acts_same (soundB_segs hs).2.2.2.2.1).2
    congr 2
    exact decide_eq_decide.2 h
theorem open_disk {fs : List FileD} {room : Int} (h : openIB fs room = true) : (actsF fs (actsI fs)).1 = (actsF fs (actsS fs)).1 := by
  unfold openIB at h
  simp only [Bool.and_eq_true] at h
  exact (acts_same (soundB_segs h.2.1).2.2.2.2.1).1
end Go.Proofs.YtmmchemgegmhhaaGreatDoor
