/- The specification's Writes and Unknown. -/
import Derived.Test.YteidjnmfjkpolaaDoorL13A
import Derived.Test.YteidjnmfjkpolaaDoorRepW
namespace Go.Proofs.YteidjnmfjkpolaaDoor
open Go.RowKit

/-- The commands that change nothing. -/
def readsL : List ByteArray := [⟨#[80, 73, 78, 71]⟩, ⟨#[69, 67, 72, 79]⟩, ⟨#[71, 69, 84]⟩, ⟨#[83, 84, 82, 76, 69, 78]⟩, ⟨#[77, 71, 69, 84]⟩, ⟨#[69, 88, 73, 83, 84, 83]⟩, ⟨#[84, 89, 80, 69]⟩, ⟨#[84, 84, 76]⟩, ⟨#[75, 69, 89, 83]⟩, ⟨#[68, 66, 83, 73, 90, 69]⟩, ⟨#[76, 76, 69, 78]⟩, ⟨#[76, 82, 65, 78, 71, 69]⟩, ⟨#[76, 73, 78, 68, 69, 88]⟩, ⟨#[72, 71, 69, 84]⟩, ⟨#[72, 76, 69, 78]⟩, ⟨#[72, 71, 69, 84, 65, 76, 76]⟩, ⟨#[72, 75, 69, 89, 83]⟩, ⟨#[83, 73, 83, 77, 69, 77, 66, 69, 82]⟩, ⟨#[83, 67, 65, 82, 68]⟩, ⟨#[83, 77, 69, 77, 66, 69, 82, 83]⟩]
def writesS (ts : List ByteArray) : Bool := match ts with | [] => false | x :: _ => inB cmdsL (upT x) && !inB readsL (upT x)
def effS (x : ByteArray) : Int := if inB readsL x then 0 else 1
theorem effs_alike : ∀ p ∈ cmdsL.zip cmdsK, effS p.1 = p.2.2 := by decide +kernel
def unkT : ByteArray := ⟨#[69, 82, 82, 32, 117, 110, 107, 110, 111, 119, 110]⟩
def argT : ByteArray := ⟨#[69, 82, 82, 32, 97, 114, 103, 117, 109, 101, 110, 116, 115]⟩
/-- What Unknown answers. -/
def unkS (ts : List ByteArray) : ByteArray := if knownS ts then (if okS ts then ⟨#[]⟩ else lineB ⟨#[45]⟩ argT) else lineB ⟨#[45]⟩ unkT

theorem specArity_any (ts : List ByteArray) (ao : Option Addr) (cap : Nat) (w : World) (hl : ts.length ≤ 1048576) (hts : TextsAt w ao ts) (hz : ∀ x ∈ ts, x.size ≤ 1048576) :
    Calls Tryd.prog 13 #[.slice ao ts.length cap] w fun e w' => e = .returned (.bool (okS ts)) ∧ Below w.heap.size w w' := by
  cases ts with
  | nil => exact specArity_nil cap ao w
  | cons x r => exact specArity_cons x r ao cap w (by simpa using hl) hts (hz x List.mem_cons_self)

set_option maxRecDepth 100000 in
set_option maxHeartbeats 2000000 in
theorem specWrites_nil (cap : Nat) (ao : Option Addr) (w : World) : Calls Tryd.prog 16 #[.slice ao 0 cap] w fun e w' => e = .returned (.bool false) ∧ Below w.heap.size w w' := by
  go_enter Tryd.func16, Tryd.ntmps16
  go_wp2_with fail
  go_quiet (fail)
  go_wp2
  go_ret
  exact ⟨rfl, drewN_below _ _⟩

set_option maxRecDepth 100000 in
set_option maxHeartbeats 4000000 in
theorem specWrites_cons (x : ByteArray) (r : List ByteArray) (ao : Option Addr) (cap : Nat) (w : World) (hl : r.length ≤ 1048575) (hts : TextsAt w ao (x :: r)) (hz : x.size ≤ 1048576) :
    Calls Tryd.prog 16 #[.slice ao (r.length + 1) cap] w fun e w' => e = .returned (.bool (writesS (x :: r))) ∧ Below w.heap.size w w' := by
  obtain ⟨b, off, rfl, hb, hcell⟩ := hts 0 (by simp)
  rw [Nat.add_zero] at hcell
  have hcell : w.cell? ⟨b, off, none⟩ = some (.string x) := hcell
  have HC := hide hcell
  have KS : Hid (∀ W, Below w.heap.size w W → W.cell? ⟨b, off, none⟩ = some (.string x)) := fun W hW => (hW.cell (p := ⟨b, off, none⟩) hb).trans HC.out
  have SU := hide (fun W => specUpper_any x W hz)
  have SC := hide (fun W => cmds_at W)
  have h0 : (((r.length : Nat) : Int) + 1 == 0) = false := by rw [beq_eq_false_iff_ne]; omega
  obtain ⟨X, HX⟩ : ∃ X, Hid (upT x = X) := ⟨_, rfl⟩
  have e0 : (⟨(x.data.toList.map upB).toArray⟩ : ByteArray) = X := HX.out
  rw [e0] at SU
  have HOK : Hid (writesS (x :: r) = (inB cmdsL X && !inB readsL X)) := by
    show (inB cmdsL (upT x) && !inB readsL (upT x)) = _
    rw [HX.out]
  generalize writesS (x :: r) = R at HOK ⊢
  clear hts e0
  go_enter Tryd.func16, Tryd.ntmps16
  go_wp2_with fail
  go_region_held3 (fun W => W.cell? ⟨b, off, none⟩ = some (.string x)) (first | (exact KS.out _ (Below.refl _ _)) | (exact KS.out _ (Below.refl _ _).drew) | (exact KS.out _ c2) | (exact KS.out _ c1) | fail) ((first | (go_at_call 7; refine (SC.out _).mono ?_; rintro e w1 ⟨a1, cc1, rfl, t1, b1⟩; have c1 : Below w.heap.size w w1 := (Below.refl _ _).drew.trans b1) | (go_at_call 24; refine (SU.out _).mono ?_; rintro e w2 ⟨rfl, b2⟩; have c2 : Below w.heap.size w w2 := c1.trans (b2.mono c1.size)) | (go_at_call 23; refine (l13In_any cmdsL X a1 cc1 _ (by decide) (textsAt_keep t1 b2)).mono ?_; rintro e w3 ⟨rfl, rfl⟩)))
  have B3 := hide c2
  have hc3 := KS.out _ c2
  clear c1 c2 b1 b2 t1
  cases hk : inB cmdsL X with
  | false =>
    rw [hk] at HOK
    go_wp2
    go_ret
    exact ⟨by rw [HOK.out]; rfl, B3.out⟩
  | true =>
    rw [hk, Bool.true_and] at HOK
    have B4 := hide (B3.out.alloc B3.out.size (.cells (readsL.map Value.string).toArray 9))
    have hc4 := fun o => KS.out _ (B3.out.alloc B3.out.size o)
    go_wp2_with fail
    refine (SU.out _).mono ?_
    rintro e w4 ⟨rfl, b4⟩
    have t4 := textsAt_keep (textsAt_lit _ readsL) b4
    have B5 := hide (B4.out.trans (b4.mono B4.out.size))
    clear b4
    go_wp2_with fail
    refine (l13In_any readsL X _ _ _ (by decide) t4).mono ?_
    rintro e w5 ⟨rfl, rfl⟩
    go_wp2
    go_ret
    exact ⟨by rw [HOK.out]; rfl, B5.out⟩

set_option maxRecDepth 100000 in
set_option maxHeartbeats 2000000 in
theorem specUnknown_nil (cap : Nat) (ao : Option Addr) (w : World) : Calls Tryd.prog 18 #[.slice ao 0 cap] w fun e w' => e = .returned (.string (unkS [])) ∧ Below w.heap.size w w' := by
  go_enter Tryd.func18, Tryd.ntmps18
  go_wp2_with fail
  go_quiet (fail)
  go_wp2_with fail
  refine (specFault_any unkT _ (by decide)).mono ?_
  rintro e w4 ⟨rfl, rfl⟩
  go_wp2
  go_ret
  exact ⟨rfl, drewN_below _ _⟩

set_option maxRecDepth 100000 in
set_option maxHeartbeats 4000000 in
theorem specUnknown_cons (x : ByteArray) (r : List ByteArray) (ao : Option Addr) (cap : Nat) (w : World) (hl : r.length ≤ 1048575) (hts : TextsAt w ao (x :: r)) (hz : ∀ y ∈ x :: r, y.size ≤ 1048576) :
    Calls Tryd.prog 18 #[.slice ao (r.length + 1) cap] w fun e w' => e = .returned (.string (unkS (x :: r))) ∧ Below w.heap.size w w' := by
  have SA := hide (fun W (h : TextsAt W ao (x :: r)) => specArity_any (x :: r) ao cap W (by simpa using hl) h hz)
  have HT := hide hts
  obtain ⟨b, off, rfl, hb, hcell⟩ := hts 0 (by simp)
  rw [Nat.add_zero] at hcell
  have hcell : w.cell? ⟨b, off, none⟩ = some (.string x) := hcell
  have HC := hide hcell
  have KS : Hid (∀ W, Below w.heap.size w W → W.cell? ⟨b, off, none⟩ = some (.string x)) := fun W hW => (hW.cell (p := ⟨b, off, none⟩) hb).trans HC.out
  have SU := hide (fun W => specUpper_any x W (hz x List.mem_cons_self))
  have SC := hide (fun W => cmds_at W)
  have h0 : (((r.length : Nat) : Int) + 1 == 0) = false := by rw [beq_eq_false_iff_ne]; omega
  obtain ⟨X, HX⟩ : ∃ X, Hid (upT x = X) := ⟨_, rfl⟩
  have e0 : (⟨(x.data.toList.map upB).toArray⟩ : ByteArray) = X := HX.out
  rw [e0] at SU
  have HOK : Hid (unkS (x :: r) = if inB cmdsL X then (if okS (x :: r) then ⟨#[]⟩ else lineB ⟨#[45]⟩ argT) else lineB ⟨#[45]⟩ unkT) := by
    show (if inB cmdsL (upT x) then _ else _) = _
    rw [HX.out]
  generalize unkS (x :: r) = R at HOK ⊢
  generalize okS (x :: r) = K0 at HOK SA
  clear hts e0
  go_enter Tryd.func18, Tryd.ntmps18
  go_wp2_with fail
  go_region_held3 (fun W => W.cell? ⟨b, off, none⟩ = some (.string x)) (first | (exact KS.out _ (Below.refl _ _)) | (exact KS.out _ (Below.refl _ _).drew) | (exact KS.out _ c2) | (exact KS.out _ c1) | fail) ((first | (go_at_call 7; refine (SC.out _).mono ?_; rintro e w1 ⟨a1, cc1, rfl, t1, b1⟩; have c1 : Below w.heap.size w w1 := (Below.refl _ _).drew.trans b1) | (go_at_call 24; refine (SU.out _).mono ?_; rintro e w2 ⟨rfl, b2⟩; have c2 : Below w.heap.size w w2 := c1.trans (b2.mono c1.size)) | (go_at_call 23; refine (l13In_any cmdsL X a1 cc1 _ (by decide) (textsAt_keep t1 b2)).mono ?_; rintro e w3 ⟨rfl, rfl⟩)))
  have B3 := hide c2
  have hc3 := KS.out _ c2
  clear c1 c2 b1 b2 t1
  cases hk : inB cmdsL X with
  | false =>
    rw [hk] at HOK
    simp only [Bool.false_eq_true, if_false] at HOK
    go_wp2_with fail
    refine (specFault_any unkT _ (by decide)).mono ?_
    rintro e w4 ⟨rfl, rfl⟩
    go_wp2
    go_ret
    exact ⟨by rw [HOK.out]; rfl, B3.out⟩
  | true =>
    rw [hk] at HOK
    simp only [if_true] at HOK
    have HT3 := hide (textsAt_keep HT.out B3.out)
    go_wp2_with fail
    refine (SA.out _ HT3.out).mono ?_
    rintro e w4 ⟨rfl, b4⟩
    have B4 := hide (B3.out.trans (b4.mono B3.out.size))
    clear b4
    cases hK : K0 with
    | true =>
      rw [hK] at HOK
      simp only [if_true] at HOK
      go_wp2
      go_ret
      exact ⟨by rw [HOK.out]; rfl, B4.out⟩
    | false =>
      rw [hK] at HOK
      simp only [Bool.false_eq_true, if_false] at HOK
      go_wp2_with fail
      refine (specFault_any argT _ (by decide)).mono ?_
      rintro e w5 ⟨rfl, rfl⟩
      go_wp2
      go_ret
      exact ⟨by rw [HOK.out]; rfl, B4.out⟩

theorem specWrites_any (ts : List ByteArray) (ao : Option Addr) (cap : Nat) (w : World) (hl : ts.length ≤ 1048576) (hts : TextsAt w ao ts) (hz : ∀ x ∈ ts, x.size ≤ 1048576) :
    Calls Tryd.prog 16 #[.slice ao ts.length cap] w fun e w' => e = .returned (.bool (writesS ts)) ∧ Below w.heap.size w w' := by
  cases ts with
  | nil => exact specWrites_nil cap ao w
  | cons x r => exact specWrites_cons x r ao cap w (by simpa using hl) hts (hz x List.mem_cons_self)
theorem specUnknown_any (ts : List ByteArray) (ao : Option Addr) (cap : Nat) (w : World) (hl : ts.length ≤ 1048576) (hts : TextsAt w ao ts) (hz : ∀ x ∈ ts, x.size ≤ 1048576) :
    Calls Tryd.prog 18 #[.slice ao ts.length cap] w fun e w' => e = .returned (.string (unkS ts)) ∧ Below w.heap.size w w' := by
  cases ts with
  | nil => exact specUnknown_nil cap ao w
  | cons x r => exact specUnknown_cons x r ao cap w (by simpa using hl) hts hz
end Go.Proofs.YteidjnmfjkpolaaDoor
