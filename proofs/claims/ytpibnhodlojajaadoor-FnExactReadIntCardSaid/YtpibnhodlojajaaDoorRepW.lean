/- Replies as texts: pieces are put together; Simple and Fault. -/
import Derived.Test.YtpibnhodlojajaaDoorTxtA
import Derived.Test.YtpibnhodlojajaaDoorAppMade
namespace Go.Proofs.YtpibnhodlojajaaDoor
open Go.RowKit

/-- A text and others behind it. -/
def catB : ByteArray → List ByteArray → ByteArray
  | s, [] => s
  | s, x :: r => catB (s ++ x) r
theorem catB_snoc : ∀ (ts : List ByteArray) (s x : ByteArray), catB s (ts ++ [x]) = catB s ts ++ x
  | [], _, _ => rfl
  | t :: r, s, x => catB_snoc r (s ++ t) x
theorem catB_size : ∀ (ts : List ByteArray) (s : ByteArray) (M : Nat), (∀ x ∈ ts, x.size ≤ M) → (catB s ts).size ≤ s.size + ts.length * M
  | [], s, M, _ => by simp [catB]
  | t :: r, s, M, h => by
    have h1 := catB_size r (s ++ t) M (fun x hx => h x (List.mem_cons_of_mem _ hx))
    have h2 := h t List.mem_cons_self
    rw [ByteArray.size_append] at h1
    rw [catB, List.length_cons, Nat.add_mul, Nat.one_mul]
    omega

set_option maxRecDepth 100000 in
set_option maxHeartbeats 1600000 in
theorem written_any (h : ByteArray) (ts : List ByteArray) (ao : Option Addr) (cap : Nat) (w : World) (hh : h.size ≤ 1048600) (hl : ts.length ≤ 1048576) (hts : TextsAt w ao ts) (hz : ∀ x ∈ ts, x.size ≤ 1048576) :
    Calls Tryd.prog 41 #[.string h, .slice ao ts.length cap] w fun e w' => e = .returned (.string (catB h ts)) ∧ Below w.heap.size w w' := by
  have HT := hide hts
  have HZ := hide hz
  clear hts hz
  obtain ⟨w1, C1, hcv, b1, hs1, ho1⟩ := conv_made (P := Tryd.prog) w 9 25 5 h Tryd.underlying9 Tryd.underlying25 Tryd.underlying5 (by unfold maxLen; omega)
  have B1 := hide b1
  have HO1 : Hid (OwnsB w1 w.heap.size 5 (.slice (some ⟨w.heap.size, 0, none⟩) h.size C1) (catB h (ts.take 0)).data.toList) := by
    show OwnsB _ _ _ _ _
    rw [List.take_zero, catB]
    exact ho1
  clear b1 hs1 ho1
  go_enter Tryd.func41, Tryd.ntmps41
  go_wp2_with fail
  go_loopw [5, 12] (fun vo ii wr => ∃ (k : Nat), ii = .int .i64 k ∧ k ≤ ts.length ∧ Hid (OwnsB wr w.heap.size 5 vo (catB h (ts.take k)).data.toList) ∧ Hid (Below w.heap.size w wr)) (fun _ ii _ => ts.length - (intOf ii).toNat)
  case atStart => exact ⟨0, rfl, Nat.zero_le _, HO1, B1⟩
  case round =>
    obtain ⟨k, rfl, hk, HO, HB⟩ := hrel
    have hws := HB.out.size
    by_cases hlt : k < ts.length
    · have hlt' : decide ((k : Int) < (ts.length : Int)) = true := by simp; omega
      have hi0 : (0 : Int) ≤ (k : Int) := by omega
      have hi1 : (k : Int) < (ts.length : Int) := by omega
      obtain ⟨b, off, rfl, hbw, hd0⟩ := textsAt_keep HT.out HB.out k hlt
      have hxz := HZ.out ts[k] (List.getElem_mem hlt)
      have htk := hide (List.take_succ_eq_append_getElem hlt)
      generalize ts[k] = T at hd0 hxz htk
      obtain ⟨LL, HLL⟩ : ∃ LL, Hid (LL = (catB h (ts.take k)).data.toList) := ⟨_, rfl⟩
      rw [← HLL.out] at HO
      have hLl : LL.length + T.size ≤ 70368744177664 := by
        have h1 := catB_size (ts.take k) h 1048576 (fun x hx => HZ.out x (List.mem_of_mem_take hx))
        have h3 : (ts.take k).length ≤ 1048576 := by rw [List.length_take]; omega
        have h4 : (ts.take k).length * 1048576 ≤ 1048576 * 1048576 := Nat.mul_le_mul_right _ h3
        have e1 : LL.length = (catB h (ts.take k)).size := by rw [HLL.out]; rfl
        omega
      go_wp2_with (at_builtin; refine app_textB _ 25 9 5 Tryd.underlying25 Tryd.underlying9 Tryd.info5 w.heap.size rfl _ _ rfl _ LL T rfl HO.out rfl hLl hws ?_; intro v7 w7 ho7 hg7; have HO7 := hide ho7; have HG7 := hide hg7; clear ho7 hg7)
      go_roundw
      case rel =>
        refine ⟨k + 1, by go_num, by omega, ?_, HB.out.grown HG7.out hws (fun g hg => (ownsB_lt HO.out g hg).1)⟩
        have e2 : (catB h (ts.take (k + 1))).data.toList = LL ++ T.data.toList := by
          rw [HLL.out, htk.out, catB_snoc]
          simp
        show OwnsB _ _ _ _ _
        rw [e2]
        exact HO7.out
      case measure => simp [intOf]; omega
    · have hlt' : decide ((k : Int) < (ts.length : Int)) = false := by simp; omega
      rw [show ts.take k = ts from List.take_of_length_le (by omega)] at HO
      obtain ⟨L, HL⟩ : ∃ L, Hid ((catB h ts).data.toList = L) := ⟨_, rfl⟩
      rw [HL.out] at HO
      have hcv := conv_backB (P := Tryd.prog) wr 25 9 5 _ u5 L Tryd.underlying25 Tryd.underlying5 Tryd.underlying9 HO.out
      have HR : Hid ((⟨L.toArray⟩ : ByteArray) = catB h ts) := by show _ = _; rw [← HL.out]
      clear HL
      obtain ⟨g, co, cur, fz, rfl, -, -, -, hLc, hcm, -, -⟩ := HO.out
      go_wp2
      go_ret
      rw [HR.out]
      exact ⟨rfl, HB.out⟩

theorem textsAt_two (w : World) (a b : ByteArray) : TextsAt (w.alloc (.cells #[.string a, .string b] 9)) (some ⟨w.heap.size, 0, none⟩) [a, b] := by
  refine textsAt_in (heap_alloc_new w _) ?_
  intro j hj _
  match j, hj with
  | 0, _ => rfl
  | 1, _ => rfl
theorem cat_two (h a b : ByteArray) : catB h [a, b] = (h ++ a) ++ b := rfl

/-- A mark, a text, CR and LF. -/
def lineB (m s : ByteArray) : ByteArray := (m ++ s) ++ ⟨#[13, 10]⟩
theorem written_line (m s : ByteArray) (w : World) (hm : m.size ≤ 1048600) (hs : s.size ≤ 1048576) :
    Calls Tryd.prog 41 #[.string m, .slice (some ⟨w.heap.size, 0, none⟩) 2 2] (w.alloc (.cells #[.string s, .string ⟨#[13, 10]⟩] 9)) fun e w' => e = .returned (.string (lineB m s)) ∧ Below w.heap.size w w' := by
  refine (written_any m [s, ⟨#[13, 10]⟩] (some ⟨w.heap.size, 0, none⟩) 2 _ hm (by simp) (textsAt_two w s _) ?_).mono ?_
  · intro x hx
    rcases List.mem_cons.1 hx with rfl | hx
    · exact hs
    · obtain rfl : x = ⟨#[13, 10]⟩ := by simpa using hx
      decide
  · rintro e w' ⟨rfl, hb⟩
    exact ⟨rfl, ((Below.refl _ w).alloc (Nat.le_refl _) _).trans (hb.mono (by simp))⟩


set_option maxRecDepth 100000 in
theorem implFault_any (s : ByteArray) (w : World) (hs : s.size ≤ 1048576) : Calls Tryd.prog 23 #[.string s] w fun e w' => e = .returned (.string (lineB ⟨#[45]⟩ s)) ∧ Below w.heap.size w w' := by
  have HW := hide (fun W => written_line ⟨#[45]⟩ s W (by decide) hs)
  generalize lineB ⟨#[45]⟩ s = R at HW
  go_enter Tryd.func23, Tryd.ntmps23
  go_wp2_with fail
  refine (HW.out _).mono ?_
  rintro e w1 ⟨rfl, b1⟩
  go_wp2
  go_ret
  exact ⟨rfl, b1⟩
end Go.Proofs.YtpibnhodlojajaaDoor
