/- What the specification asks of a command: plainly, and ArityOk. -/
import Derived.Test.YteidjnmfjkpolaaDoorL13S
import Derived.Test.YteidjnmfjkpolaaDoorNmA
import Derived.Test.YteidjnmfjkpolaaDoorLawCmds
import Derived.Deep.RegionHeld3
import Derived.BigQuiet
namespace Go.Proofs.YteidjnmfjkpolaaDoor
open Go.RowKit

/-- A text in great letters. -/
def upT (s : ByteArray) : ByteArray := ⟨(s.data.toList.map upB).toArray⟩
def takes0 : List ByteArray := [⟨#[80, 73, 78, 71]⟩, ⟨#[75, 69, 89, 83]⟩, ⟨#[68, 66, 83, 73, 90, 69]⟩, ⟨#[70, 76, 85, 83, 72, 65, 76, 76]⟩]
def takes2 : List ByteArray := [⟨#[83, 69, 84]⟩, ⟨#[83, 69, 84, 78, 88]⟩, ⟨#[71, 69, 84, 83, 69, 84]⟩, ⟨#[65, 80, 80, 69, 78, 68]⟩, ⟨#[73, 78, 67, 82, 66, 89]⟩, ⟨#[68, 69, 67, 82, 66, 89]⟩, ⟨#[69, 88, 80, 73, 82, 69]⟩, ⟨#[76, 73, 78, 68, 69, 88]⟩, ⟨#[72, 71, 69, 84]⟩, ⟨#[83, 73, 83, 77, 69, 77, 66, 69, 82]⟩]
def takes3 : List ByteArray := [⟨#[76, 82, 65, 78, 71, 69]⟩, ⟨#[72, 83, 69, 84]⟩]
def takes4 : List ByteArray := [⟨#[77, 71, 69, 84]⟩, ⟨#[68, 69, 76]⟩, ⟨#[69, 88, 73, 83, 84, 83]⟩]
def takes5 : List ByteArray := [⟨#[76, 80, 85, 83, 72]⟩, ⟨#[82, 80, 85, 83, 72]⟩, ⟨#[72, 68, 69, 76]⟩, ⟨#[83, 65, 68, 68]⟩, ⟨#[83, 82, 69, 77]⟩]
def msetT : ByteArray := ⟨#[77, 83, 69, 84]⟩
theorem mset_list : msetT.toList = [77, 83, 69, 84] := by rw [ByteArray.toList_eq]; rfl
/-- How many arguments a name takes, by its kind. -/
def kindS (x : ByteArray) : Int := if inB takes0 x then 0 else if inB takes2 x then 2 else if inB takes3 x then 3 else if inB takes4 x then 4 else if inB takes5 x then 5 else if x = msetT then 6 else 1
def takesK (k : Int) (n : Int) : Bool := if k = 4 then decide (1 ≤ n) else if k = 5 then decide (2 ≤ n) else if k = 6 then (n == 2 || n == 4 || n == 6) else (n == k)
/-- Whether the first of the texts is a command. -/
def knownS (ts : List ByteArray) : Bool := match ts with | [] => false | x :: _ => inB cmdsL (upT x)
def okS (ts : List ByteArray) : Bool := match ts with | [] => false | x :: r => inB cmdsL (upT x) && takesK (kindS (upT x)) (r.length : Int)
theorem kinds_alike : ∀ p ∈ cmdsL.zip cmdsK, kindS p.1 = p.2.1 := by decide +kernel

theorem textsAt_lit (W : World) (L : List ByteArray) : TextsAt (W.alloc (.cells (L.map Value.string).toArray 9)) (some ⟨W.heap.size, 0, none⟩) L := by
  refine textsAt_in (heap_alloc_new W _) ?_
  intro j hj _
  simp [hj]
theorem upT_size (s : ByteArray) : (upT s).size = s.size := by
  show ((s.data.toList.map upB).toArray).size = s.size
  rw [List.size_toArray, List.length_map]
  exact Array.length_toList

theorem takesK_iff (x : ByteArray) (n : Int) : takesK (kindS x) n = if inB takes0 x then (n == 0) else if inB takes2 x then (n == 2) else if inB takes3 x then (n == 3) else if inB takes4 x then decide (1 ≤ n) else if inB takes5 x then decide (2 ≤ n) else if x = msetT then (n == 2 || n == 4 || n == 6) else (n == 1) := by
  unfold kindS
  repeat' split
  all_goals simp [takesK]

set_option maxRecDepth 100000 in
set_option maxHeartbeats 2000000 in
theorem specArity_nil (cap : Nat) (ao : Option Addr) (w : World) : Calls Tryd.prog 13 #[.slice ao 0 cap] w fun e w' => e = .returned (.bool false) ∧ Below w.heap.size w w' := by
  go_enter Tryd.func13, Tryd.ntmps13
  go_wp2_with fail
  go_quiet (fail)
  go_wp2
  go_ret
  exact ⟨rfl, drewN_below _ _⟩

/-- What every call of the row's world leaves. -/
def CmdsAt (W : World) (e : Ending) (w' : World) : Prop := ∃ (a1 : Option Addr) (c1 : Nat), e = .returned (.slice a1 cmdsL.length c1) ∧ TextsAt w' a1 cmdsL ∧ Below W.heap.size W w'
theorem cmds_at (W : World) : Calls Tryd.prog 7 #[] W (CmdsAt W) := by
  refine (specCmds_row W).mono ?_
  rintro e w' ⟨v, rfl, r, b⟩
  obtain ⟨a1, c1, rfl, t1⟩ := rowText_at r
  exact ⟨a1, c1, rfl, t1, b⟩

set_option maxRecDepth 100000 in
set_option maxHeartbeats 4000000 in
theorem specArity_cons (x : ByteArray) (r : List ByteArray) (ao : Option Addr) (cap : Nat) (w : World) (hl : r.length ≤ 1048575) (hts : TextsAt w ao (x :: r)) (hz : x.size ≤ 1048576) :
    Calls Tryd.prog 13 #[.slice ao (r.length + 1) cap] w fun e w' => e = .returned (.bool (okS (x :: r))) ∧ Below w.heap.size w w' := by
  obtain ⟨b, off, rfl, hb, hcell⟩ := hts 0 (by simp)
  rw [Nat.add_zero] at hcell
  have hcell : w.cell? ⟨b, off, none⟩ = some (.string x) := hcell
  have HC := hide hcell
  have KS : Hid (∀ W, Below w.heap.size w W → W.cell? ⟨b, off, none⟩ = some (.string x)) := fun W hW => (hW.cell (p := ⟨b, off, none⟩) hb).trans HC.out
  have SU := hide (fun W => specUpper_any x W hz)
  have SC := hide (fun W => cmds_at W)
  have h0 : (((r.length : Nat) : Int) + 1 == 0) = false := by rw [beq_eq_false_iff_ne]; omega
  have h1m : ((r.length : Nat) : Int) + 1 - 1 = (r.length : Int) := by omega
  obtain ⟨X, HX⟩ : ∃ X, Hid (upT x = X) := ⟨_, rfl⟩
  have e0 : (⟨(x.data.toList.map upB).toArray⟩ : ByteArray) = X := HX.out
  rw [e0] at SU
  have HOK : Hid (okS (x :: r) = (inB cmdsL X && takesK (kindS X) (r.length : Int))) := by
    show (inB cmdsL (upT x) && takesK (kindS (upT x)) (r.length : Int)) = _
    rw [HX.out]
  rw [takesK_iff] at HOK
  generalize okS (x :: r) = R at HOK ⊢
  clear hts e0
  go_enter Tryd.func13, Tryd.ntmps13
  go_wp2_with fail
  go_region_held3 (fun W => W.cell? ⟨b, off, none⟩ = some (.string x)) (first | (exact KS.out _ (Below.refl _ _)) | (exact KS.out _ (Below.refl _ _).drew) | (exact KS.out _ c2) | (exact KS.out _ c1) | fail) ((first | (go_at_call 7; refine (SC.out _).mono ?_; rintro e w1 ⟨a1, cc1, rfl, t1, b1⟩; have c1 : Below w.heap.size w w1 := (Below.refl _ _).drew.trans b1) | (go_at_call 24; refine (SU.out _).mono ?_; rintro e w2 ⟨rfl, b2⟩; have c2 : Below w.heap.size w w2 := c1.trans (b2.mono c1.size)) | (go_at_call 23; refine (l13In_any cmdsL X a1 cc1 _ (by decide) (textsAt_keep t1 b2)).mono ?_; rintro e w3 ⟨rfl, rfl⟩)))
  have B3 := hide c2
  clear c1 c2 b1 b2 t1
  cases hk : inB cmdsL X with
  | false =>
    rw [hk] at HOK
    go_wp2
    go_ret
    exact ⟨by rw [HOK.out]; rfl, B3.out⟩
  | true =>
    rw [hk, Bool.true_and] at HOK
    go_wp2_with fail
    refine (SU.out _).mono ?_
    rintro e w4 ⟨rfl, b4⟩
    have B4 := hide (B3.out.trans (b4.mono B3.out.size))
    clear b4
    have B5 := hide (B4.out.alloc B4.out.size (.cells (takes0.map Value.string).toArray 9))
    go_wp2_with fail
    refine (l13In_any takes0 X _ _ _ (by decide) (textsAt_lit _ takes0)).mono ?_
    rintro e w5 ⟨rfl, ew5⟩
    replace B5 : Hid (Below w.heap.size w w5) := by show Below _ _ _; rw [ew5]; exact B5.out
    clear ew5
    cases hq0 : inB takes0 X with
    | true =>
      rw [hq0] at HOK
      go_wp2
      go_ret
      exact ⟨by rw [HOK.out]; rfl, B5.out⟩
    | false =>
      rw [hq0] at HOK
      have B6 := hide (B5.out.alloc B5.out.size (.cells (takes2.map Value.string).toArray 9))
      go_wp2_with fail
      refine (l13In_any takes2 X _ _ _ (by decide) (textsAt_lit _ takes2)).mono ?_
      rintro e w6 ⟨rfl, ew6⟩
      replace B6 : Hid (Below w.heap.size w w6) := by show Below _ _ _; rw [ew6]; exact B6.out
      clear ew6
      cases hq1 : inB takes2 X with
      | true =>
        rw [hq1] at HOK
        go_wp2
        go_ret
        exact ⟨by rw [HOK.out]; rfl, B6.out⟩
      | false =>
        rw [hq1] at HOK
        have B7 := hide (B6.out.alloc B6.out.size (.cells (takes3.map Value.string).toArray 9))
        go_wp2_with fail
        refine (l13In_any takes3 X _ _ _ (by decide) (textsAt_lit _ takes3)).mono ?_
        rintro e w7 ⟨rfl, ew7⟩
        replace B7 : Hid (Below w.heap.size w w7) := by show Below _ _ _; rw [ew7]; exact B7.out
        clear ew7
        cases hq2 : inB takes3 X with
        | true =>
          rw [hq2] at HOK
          go_wp2
          go_ret
          exact ⟨by rw [HOK.out]; rfl, B7.out⟩
        | false =>
          rw [hq2] at HOK
          have B8 := hide (B7.out.alloc B7.out.size (.cells (takes4.map Value.string).toArray 9))
          go_wp2_with fail
          refine (l13In_any takes4 X _ _ _ (by decide) (textsAt_lit _ takes4)).mono ?_
          rintro e w8 ⟨rfl, ew8⟩
          replace B8 : Hid (Below w.heap.size w w8) := by show Below _ _ _; rw [ew8]; exact B8.out
          clear ew8
          cases hq3 : inB takes4 X with
          | true =>
            rw [hq3] at HOK
            go_wp2
            go_ret
            exact ⟨by rw [HOK.out]; rfl, B8.out⟩
          | false =>
            rw [hq3] at HOK
            have B9 := hide (B8.out.alloc B8.out.size (.cells (takes5.map Value.string).toArray 9))
            go_wp2_with fail
            refine (l13In_any takes5 X _ _ _ (by decide) (textsAt_lit _ takes5)).mono ?_
            rintro e w9 ⟨rfl, ew9⟩
            replace B9 : Hid (Below w.heap.size w w9) := by show Below _ _ _; rw [ew9]; exact B9.out
            clear ew9
            cases hq4 : inB takes5 X with
            | true =>
              rw [hq4] at HOK
              go_wp2
              go_ret
              exact ⟨by rw [HOK.out]; rfl, B9.out⟩
            | false =>
              rw [hq4] at HOK
              simp only [Bool.false_eq_true, if_false] at HOK
              by_cases hm : X = msetT
              · have hm' := txt_eq hm
                rw [if_pos hm] at HOK
                rw [mset_list] at hm'
                clear hm
                cases e2 : ((r.length : Int) == 2) <;> cases e4 : ((r.length : Int) == 4) <;> cases e6 : ((r.length : Int) == 6) <;> rw [e2, e4, e6] at HOK <;> (go_wp2; go_ret; exact ⟨by rw [HOK.out]; rfl, B9.out⟩)
              · have hm' := txt_ne hm
                rw [if_neg hm] at HOK
                rw [mset_list] at hm'
                clear hm
                go_wp2
                go_ret
                exact ⟨by rw [HOK.out]; rfl, B9.out⟩
end Go.Proofs.YteidjnmfjkpolaaDoor
