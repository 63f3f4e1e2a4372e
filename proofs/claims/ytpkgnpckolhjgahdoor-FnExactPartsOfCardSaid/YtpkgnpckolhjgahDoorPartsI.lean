/- The parts of a line as the program tells them. -/
import Derived.Test.YtpkgnpckolhjgahDoorPartsS
import Derived.Test.YtpkgnpckolhjgahDoorClone
import Derived.Test.YtpkgnpckolhjgahDoorShelfSplit
namespace Go.Proofs.YtpkgnpckolhjgahDoor
open Go.RowKit

theorem plain_yes (s : ByteArray) (w : World) (h : s.size ≤ 600) (hp : Wd.plain s s.size) :
    Calls Tryd.prog 14 #[.string s] w fun e w' => e = .returned (.bool true) ∧ w' = w := by
  have H := hide hp
  clear hp
  go_enter Tryd.func14, Tryd.ntmps14
  go_wp2
  go_loop [6] (fun i => ∃ k : Nat, k ≤ s.size ∧ i = .int .i64 k) (fun i => s.size - (intOf i).toNat)
  case atStart => exact ⟨0, Nat.zero_le _, rfl⟩
  case round =>
    obtain ⟨k, hk, rfl⟩ := hrel
    by_cases hlt : k < s.size
    · obtain ⟨c, hC, hct, hc256⟩ : ∃ c : Nat, Hid (Wd.bt s k = c) ∧ (s[k]'hlt).toNat = c ∧ c < 256 := ⟨_, rfl, Wd.bt_eq s k hlt, Wd.bt_lt s k⟩
      have hpc := H.out k hlt
      rw [hC.out] at hpc
      have h1 : decide ((c : Int) < 32) = false := by simp; omega
      have h2 : decide (126 < (c : Int)) = false := by simp; omega
      clear hpc
      go_wp2
      go_round
      case rel => exact ⟨k + 1, by omega, by go_num⟩
      case measure => simp [intOf]; omega
    · go_wp2
      go_ret
      exact ⟨rfl, rfl⟩

theorem plain_no (s : ByteArray) (w : World) (h : s.size ≤ 600) (hp : ¬ Wd.plain s s.size) :
    Calls Tryd.prog 14 #[.string s] w fun e w' => e = .returned (.bool false) ∧ w' = w := by
  have H := hide hp
  clear hp
  go_enter Tryd.func14, Tryd.ntmps14
  go_wp2
  go_loop [6] (fun i => ∃ k : Nat, k ≤ s.size ∧ i = .int .i64 k ∧ Hid (Wd.plain s k)) (fun i => s.size - (intOf i).toNat)
  case atStart => exact ⟨0, Nat.zero_le _, rfl, fun p hp => absurd hp (by omega)⟩
  case round =>
    obtain ⟨k, hk, rfl, HP⟩ := hrel
    by_cases hlt : k < s.size
    · obtain ⟨c, hC, hct, hc256⟩ : ∃ c : Nat, Hid (Wd.bt s k = c) ∧ (s[k]'hlt).toNat = c ∧ c < 256 := ⟨_, rfl, Wd.bt_eq s k hlt, Wd.bt_lt s k⟩
      by_cases h1 : c < 32
      · have h1' : decide ((c : Int) < 32) = true := by simp; omega
        go_wp2
        go_ret
        exact ⟨rfl, rfl⟩
      · have h1' : decide ((c : Int) < 32) = false := by simp; omega
        by_cases h2 : 126 < c
        · have h2' : decide (126 < (c : Int)) = true := by simp; omega
          go_wp2
          go_ret
          exact ⟨rfl, rfl⟩
        · have h2' : decide (126 < (c : Int)) = false := by simp; omega
          have HP' := hide (plain_more HP.out hC.out (by omega) (by omega))
          go_wp2
          go_round
          case rel => exact ⟨k + 1, by omega, by go_num, HP'⟩
          case measure => simp [intOf]; omega
    · exact absurd (show Wd.plain s s.size by rw [show s.size = k from by omega]; exact HP.out) H.out

theorem implParts_long (s : ByteArray) (w : World) (ws : s.size ≤ 1048576) (h : 600 < s.size) : Calls Tryd.prog 8 #[.string s] w (PartsLeft s w) := by
  have hno : Hid (¬ Wd.right s) := fun hr => by have := hr.1; omega
  have h' : decide (600 < (s.size : Int)) = true := by simp; omega
  go_enter Tryd.func8, Tryd.ntmps8
  go_wp2
  go_ret2
  exact ⟨Below.refl _ _, .inr ⟨hno.out, _, rfl, World.ownsRow_nil _ _ _ _⟩⟩
theorem implParts_odd (s : ByteArray) (w : World) (h : s.size ≤ 600) (hp : ¬ Wd.plain s s.size) : Calls Tryd.prog 8 #[.string s] w (PartsLeft s w) := by
  have hno : Hid (¬ Wd.right s) := fun hr => hp hr.2.1
  have H := hide hp
  clear hp
  have h' : decide (600 < (s.size : Int)) = false := by simp; omega
  go_enter Tryd.func8, Tryd.ntmps8
  go_wp2_with (go_at_call 14; refine (plain_no s _ h H.out).mono ?_; rintro e w1 ⟨rfl, rfl⟩)
  go_ret2
  exact ⟨Below.refl _ _, .inr ⟨hno.out, _, rfl, World.ownsRow_nil _ _ _ _⟩⟩

theorem ownsRow_mono {w : World} {B B' : Nat} {e : TypeId} {size : Nat} {v : Value} {n : Nat} {xs : List Value} (h : w.ownsRow B e size v n xs) (hB : B' ≤ B) : w.ownsRow B' e size v n xs := by
  refine ⟨h.1, ?_⟩
  rcases h.2 with h | ⟨g, cap, cur, hv, hb, r⟩
  · exact .inl h
  · exact .inr ⟨g, cap, cur, hv, by omega, r⟩

/-- The words among the first k pieces. -/
def kept (ps : List ByteArray) (k : Nat) : List (List UInt8) := ((ps.take k).map (·.data.toList)).filter (fun x => !x.isEmpty)
theorem kept_yes (ps : List ByteArray) (k : Nat) (p : ByteArray) (h : ps[k]? = some p) (hne : p.data.toList.isEmpty = false) : kept ps (k + 1) = kept ps k ++ [p.data.toList] := by
  unfold kept
  have hk : k < ps.length := (List.getElem?_eq_some_iff.1 h).1
  have e : ps[k] = p := (List.getElem?_eq_some_iff.1 h).2
  rw [List.take_succ_eq_append_getElem hk, List.map_append, List.filter_append, e]
  congr 1
  simp only [List.map_cons, List.map_nil, List.filter_cons, hne, Bool.not_false, if_true, List.filter_nil]
theorem kept_no (ps : List ByteArray) (k : Nat) (p : ByteArray) (h : ps[k]? = some p) (he : p.data.toList.isEmpty = true) : kept ps (k + 1) = kept ps k := by
  unfold kept
  have hk : k < ps.length := (List.getElem?_eq_some_iff.1 h).1
  have e : ps[k] = p := (List.getElem?_eq_some_iff.1 h).2
  rw [List.take_succ_eq_append_getElem hk, List.map_append, List.filter_append, e]
  simp only [List.map_cons, List.map_nil, List.filter_cons, he, Bool.not_true, Bool.false_eq_true, if_false, List.filter_nil, List.append_nil]
theorem kept_le (ps : List ByteArray) (k : Nat) : (kept ps k).length ≤ k := by
  unfold kept
  refine Nat.le_trans (List.length_filter_le _ _) ?_
  simp
  omega

theorem splitB_size (sep : ByteArray) : ∀ (k : Nat) (s : ByteArray), ∀ p ∈ Lib.splitB sep 0 k s, p.size ≤ s.size
  | 0, s, p, h => by simp [Lib.splitB] at h; subst h; exact Nat.le_refl _
  | k + 1, s, p, h => by
    unfold Lib.splitB at h
    split at h
    · simp at h; subst h; exact Nat.le_refl _
    · rcases List.mem_cons.1 h with h | h
      · subst h; simp only [ByteArray.size_extract]; omega
      · have := splitB_size sep k _ p h
        simp only [ByteArray.size_extract] at this
        omega
end Go.Proofs.YtpkgnpckolhjgahDoor
