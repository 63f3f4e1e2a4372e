/- The program's shelfOf: a right disk as a shelf. -/
import Derived.Test.YtmmchemgegmhhaaGreatDoorShelf
namespace Go.Proofs.YtmmchemgegmhhaaGreatDoor
open Go.RowKit Go.Maps

theorem put_len_new {gs : List FileD} {F : FileD} (h : ∀ G ∈ gs, G.name ≠ F.name) : (putD gs F).length = gs.length + 1 := by
  have key : ∀ l : List FileD, (∀ G ∈ l, G.name ≠ F.name) → (l.filter (lessF F.name)).length + (l.filter (moreF F.name)).length = l.length := by
    intro l
    induction l with
    | nil => intro _; rfl
    | cons G r ih =>
      intro h
      have hr := ih (fun X hX => h X (List.mem_cons_of_mem _ hX))
      have hG := h G List.mem_cons_self
      simp only [List.filter_cons]
      cases hl : Op.bytesLess G.name.toList F.name.toList
      · have h1 : lessF F.name G = false := hl
        have h2 : moreF F.name G = true := by rw [moreF, hl, toList_ne.2 hG]; rfl
        rw [h1, h2]
        simp
        omega
      · have h1 : lessF F.name G = true := hl
        have h2 : moreF F.name G = false := by rw [moreF, hl]; rfl
        rw [h1, h2]
        simp
        omega
  have := key gs h
  simp only [putD, List.length_append, List.length_singleton]
  omega

theorem less_ne {a b : ByteArray} (h : Op.bytesLess a.toList b.toList = true) : a ≠ b := by
  rintro rfl
  rw [less_irrefl] at h
  cases h

/-- Behind all others. -/
theorem putD_last {gs : List FileD} {F : FileD} (h : ∀ G ∈ gs, Op.bytesLess G.name.toList F.name.toList = true) : putD gs F = gs ++ [F] := by
  have h1 : gs.filter (lessF F.name) = gs := List.filter_eq_self.2 h
  have h2 : gs.filter (moreF F.name) = [] := List.filter_eq_nil_iff.2 (fun G hG => by rw [moreF, h G hG]; simp)
  rw [putD, h1, h2, List.append_nil]

theorem srt_take {fs : List FileD} {k : Nat} (h : srt fs) (hk : k < fs.length) : ∀ G ∈ fs.take k, Op.bytesLess G.name.toList fs[k].name.toList = true := by
  intro G hG
  obtain ⟨i, hi, rfl⟩ := List.getElem_of_mem hG
  rw [List.length_take] at hi
  rw [List.getElem_take]
  exact List.pairwise_iff_getElem.1 h i k (by omega) hk (by omega)

theorem Tryz.keyS (s : ByteArray) (h : s.size ≤ maxLen) : keyOf Tryz.prog 9 (.string s) = some (kl s) := WideMaps.keyOf_string_mk Tryz.underlying9 h

set_option maxRecDepth 100000 in
set_option maxHeartbeats 4000000 in
theorem shelfOf_any (fs : List FileD) (ao : Option Addr) (cap : Nat) (w : World) (hok : diskOkD fs = true) (hfs : FilesAt w ao fs) :
    Calls Tryz.prog 160 #[.agg #[.slice ao fs.length cap]] w fun e w' => ∃ mb, e = .returned (.map (some mb)) ∧ w.heap.size ≤ mb ∧ ShelfAt w' w.heap.size mb fs ∧ Below w.heap.size w w' := by
  have HF := hide hfs
  have HOK := hide (disk_files hok)
  have HSR := hide ((disk_iff fs).1 hok).2.2
  have hl : fs.length ≤ 30 := (disk_files hok).1
  clear hfs
  have HB0 : Hid (Below w.heap.size w ((w.alloc (.cells #[.slice ao fs.length cap] 27)).alloc (.map #[] 0))) := ((Below.refl _ w).alloc (Nat.le_refl _) _).alloc (by simp) _
  have HM0 : Hid (ShelfD ((w.alloc (.cells #[.slice ao fs.length cap] 27)).alloc (.map #[] 0)) w.heap.size (w.heap.size + 1) [] (.map []) (fun _ => 0)) := by
    refine ⟨?_, rfl, fun s => by simp [has], fun F hF => absurd hF List.not_mem_nil, fun F hF => absurd hF List.not_mem_nil⟩
    have h := World.ownsMap_made (H := Unit) (w.alloc (.cells #[.slice ao fs.length cap] 27)) Tryz.prog 9 ptrElem
    rw [show (w.alloc (.cells #[.slice ao fs.length cap] 27)).heap.size = w.heap.size + 1 from by simp] at h
    exact h
  go_enter Tryz.func160, Tryz.ntmps160
  have hmm := @run_makeMap Tryz.prog
  go_wp2_with fail
  clear hmm
  go_loopw [10] (fun ii wr => ∃ (k : Nat) (D : DataW Unit) (pt : ByteArray → Nat), ii = .int .i64 k ∧ k ≤ fs.length ∧ Hid (ShelfD wr w.heap.size (w.heap.size + 1) (fs.take k) D pt) ∧ Hid (Below w.heap.size w wr)) (fun ii _ => fs.length - (intOf ii).toNat)
  case atStart => exact ⟨0, _, _, rfl, Nat.zero_le _, HM0, HB0⟩
  case round =>
    obtain ⟨k, D, pt, rfl, hk, HD, HB⟩ := hrel
    by_cases hlt : k < fs.length
    · have hlt' : decide ((k : Int) < (fs.length : Int)) = true := by simp; omega
      obtain ⟨b, off, rfl, hbw, hc0, hc1, hc2⟩ := filesAt_keep HF.out HB.out k hlt
      have HT : Hid (fs.take (k + 1) = putD (fs.take k) fs[k]) := by show _ = _; rw [putD_last (srt_take HSR.out hlt), List.take_add_one, List.getElem?_eq_getElem hlt]; rfl
      have HNE : Hid (∀ G ∈ fs.take k, G.name ≠ fs[k].name) := fun G hG => less_ne (srt_take HSR.out hlt G hG)
      have hnm := (HOK.out.2 fs[k] (List.getElem_mem hlt)).2.1
      obtain ⟨F, HFk⟩ : ∃ F, Hid (fs[k] = F) := ⟨fs[k], hide rfl⟩
      rw [HFk.out] at hc0 hc1 hc2 HT HNE hnm
      have hi0 : (0 : Int) ≤ (k : Int) := by omega
      have hi1 : (k : Int) < (fs.length : Int) := by omega
      have HK := hide (Tryz.keyS F.name (by unfold maxLen; omega))
      obtain ⟨wp, hwp⟩ : ∃ wp, wp = (wr.alloc (.cells #[.string F.name, .string F.text, .int .i64 F.kept] 74)).alloc (.cells #[.string F.name, .string F.text, .int .i64 F.kept] 74) := ⟨_, rfl⟩
      have bp : Below wr.heap.size wr wp := by rw [hwp]; exact ((Below.refl _ _).alloc (Nat.le_refl _) _).alloc (by simp) _
      have hpb : wp.heap[wr.heap.size + 1]? = some (fileObj F) := by
        rw [hwp, show wr.heap.size + 1 = (wr.alloc (.cells #[.string F.name, .string F.text, .int .i64 F.kept] 74)).heap.size from by simp]
        exact heap_alloc_new _ _
      have HDp := hide (shelfD_below HD.out bp)
      have hmlt := HD.out.1.lt
      have hsz : size D ≤ 30 := by rw [HD.out.2.1, List.length_take]; omega
      go_wp2_with (at_mapUpdate; rw [← hwp]; refine wpList_mapUpdate_own _ rfl _ _ _ 218 rfl 9 247 (string_keyed Tryz.underlying9) Tryz.underlying218 ptrElem (w.heap.size + 1) (size D) D rfl HDp.out.1 (by unfold maxLen; omega) _ _ _ rfl rfl HK.out (.lit (.int .i64 ((wr.heap.size + 1 : Nat) : Int))) [] rfl ?_; intro w1 hown1 hgrow1)
      go_roundw
      case rel =>
        have hno : has D (kl F.name) = false := by
          cases h : has D (kl F.name) with
          | false => rfl
          | true =>
            obtain ⟨G, hG, e⟩ := (HD.out.2.2.1 F.name).1 h
            exact absurd e (HNE.out G hG)
        have hlen : (putD (fs.take k) F).length = size (D.put (kl F.name) (.lit (.int .i64 ((wr.heap.size + 1 : Nat) : Int)))) := by
          rw [put_len_new HNE.out, size_put (HD.out.1.tidy (string_keyed Tryz.underlying9)), hno, HD.out.2.1]
          rfl
        have hap : ∀ G ∈ fs.take k, G.name ≠ F.name → pt G.name ≠ wr.heap.size + 1 := fun G hG _ e => by
          have := (Array.getElem?_eq_some_iff.1 (HD.out.2.2.2.1 G hG).2.2.2).1
          omega
        have hws := HB.out.size
        have hsh := shelf_put HDp.out hpb (by omega) (by omega) hap hown1 hgrow1 hlen
        rw [← HT.out] at hsh
        exact ⟨k + 1, _, _, by go_num, by omega, hsh, (HB.out.trans (bp.mono hws)).grown hgrow1 (by have := bp.size; omega) (fun j hj => by cases hj; omega)⟩
      case measure => simp [intOf]; omega
    · have hlt' : decide ((k : Int) < (fs.length : Int)) = false := by simp; omega
      have hke : Hid (fs.take k = fs) := by show _ = _; exact List.take_of_length_le (by omega)
      go_wp2
      go_ret
      refine ⟨_, rfl, by omega, ⟨D, pt, ?_⟩, HB.out⟩
      rw [← hke.out]
      exact HD.out
end Go.Proofs.YtmmchemgegmhhaaGreatDoor
