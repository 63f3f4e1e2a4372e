/- Rows of spots held against each other: slices.Equal, and an engine against another. -/
import Derived.Test.YtmmchemgegmhhaaGreatDoorSpotL
import Derived.Test.YtmmchemgegmhhaaGreatDoorEngP
import Derived.Laws.StructEq
namespace Go.Proofs.YtmmchemgegmhhaaGreatDoor
open Go.RowKit

def spotEq (A B : SpotD) : Bool := (A.key.toList == B.key.toList) && (decide (A.seg = B.seg) && (decide (A.pos = B.pos) && decide (A.seq = B.seq)))
theorem spotEq_iff (A B : SpotD) : spotEq A B = true ↔ A = B := by
  unfold spotEq
  simp only [Bool.and_eq_true, decide_eq_true_eq, beq_iff_eq]
  constructor
  · rintro ⟨h1, h2, h3, h4⟩
    cases A
    cases B
    simp only [ByteArray.toList_eq] at h1 h2 h3 h4
    simp only [SpotD.mk.injEq]
    exact ⟨ByteArray.ext (Array.toList_inj.1 h1), h2, h3, h4⟩
  · rintro rfl
    exact ⟨rfl, rfl, rfl, rfl⟩
/-- Two rows of spots are the same. -/
def spotsEq : List SpotD → List SpotD → Bool
  | [], [] => true
  | A :: r, B :: s => spotEq A B && spotsEq r s
  | _, _ => false
theorem spotsEq_iff : ∀ a b : List SpotD, spotsEq a b = true ↔ a = b
  | [], [] => by simp [spotsEq]
  | [], _ :: _ => by simp [spotsEq]
  | _ :: _, [] => by simp [spotsEq]
  | A :: r, B :: s => by simp only [spotsEq, Bool.and_eq_true, spotEq_iff, spotsEq_iff r s, List.cons.injEq]
theorem spotsEq_len {a b : List SpotD} (h : a.length ≠ b.length) : spotsEq a b = false := by
  cases hb : spotsEq a b with
  | false => rfl
  | true => rw [(spotsEq_iff a b).1 hb] at h; exact absurd rfl h
theorem spotsEq_no {a b : List SpotD} {k : Nat} (h1 : k < a.length) (h2 : k < b.length) (h : spotEq a[k] b[k] = false) : spotsEq a b = false := by
  cases hb : spotsEq a b with
  | false => rfl
  | true =>
    have e := (spotsEq_iff a b).1 hb
    subst e
    rw [(spotEq_iff _ _).2 rfl] at h
    cases h
theorem spotsEq_all {a b : List SpotD} (hl : a.length = b.length) (h : ∀ j (h1 : j < a.length) (h2 : j < b.length), spotEq a[j] b[j] = true) : spotsEq a b = true := by
  rw [spotsEq_iff]
  exact List.ext_getElem hl (fun j h1 h2 => (spotEq_iff _ _).1 (h j h1 h2))

theorem neq_spot (A B : SpotD) : ∀ W : World, (binOp .neq 89 (.agg #[.string A.key, .int .i64 A.seg, .int .i64 A.pos, .int .i64 A.seq]) (.agg #[.string B.key, .int .i64 B.seg, .int .i64 B.pos, .int .i64 B.seq])).run Tryz.prog W = .ok (.bool (!spotEq A B)) W := by
  intro W
  have hst : Tryz.prog.stoodInHeld 89 = false := by kernel_rfl
  have hfl : Tryz.prog.underlying 89 = some (.struct (Tryz.prog.fieldsOf 89)) := by kernel_rfl
  rw [run_neq_struct, run_equalIn_struct W 9999 89 _ _ hfl hst]
  clear hfl hst
  unfold spotEq
  cases h1 : (A.key.toList == B.key.toList) <;> by_cases h2 : A.seg = B.seg <;> by_cases h3 : A.pos = B.pos <;> by_cases h4 : A.seq = B.seq <;> simp [go_sem, h1, h2, h3, h4]

set_option maxRecDepth 100000 in
set_option maxHeartbeats 1600000 in
theorem slicesEqual_any (a b : List SpotD) (a1 a2 : Option Addr) (c1 c2 : Nat) (w : World) (hl : a.length ≤ 1048576) (h1 : SpotsAt w a1 a) (h2 : SpotsAt w a2 b) :
    Calls Tryz.prog 136 #[.slice a1 a.length c1, .slice a2 b.length c2] w fun e w' => e = .returned (.bool (spotsEq a b)) ∧ Below w.heap.size w w' := by
  have H1 := hide h1
  have H2 := hide h2
  clear h1 h2
  by_cases hn : a.length = b.length
  · have hn' : (((a.length : Int)) != ((b.length : Int))) = false := by rw [bne_eq_false_iff_eq]; omega
    have HN := hide hn
    obtain ⟨R, HR⟩ : ∃ R, Hid (spotsEq a b = R) := ⟨_, hide rfl⟩
    rw [HR.out]
    clear hn
    go_enter Tryz.func136, Tryz.ntmps136
    go_wp2_with fail
    go_loopw [13] (fun ii wr => ∃ (k : Nat), ii = .int .i64 k ∧ k ≤ a.length ∧ Hid (∀ j (h1 : j < a.length) (h2 : j < b.length), j < k → spotEq a[j] b[j] = true) ∧ Hid (Below w.heap.size w wr)) (fun ii _ => a.length - (intOf ii).toNat)
    case atStart => exact ⟨0, rfl, Nat.zero_le _, fun j _ _ h => absurd h (by omega), Below.refl _ _⟩
    case round =>
      obtain ⟨k, rfl, hk, HK, HB⟩ := hrel
      by_cases hlt : k < a.length
      · have hlt' : decide ((k : Int) < (a.length : Int)) = true := by simp; omega
        have hi0 : (0 : Int) ≤ (k : Int) := by omega
        have hi1 : (k : Int) < (a.length : Int) := by omega
        have hi2 : (k : Int) < (b.length : Int) := by have := HN.out; omega
        have hkb : k < b.length := by omega
        obtain ⟨b1, o1, hab1, hw1, d0, d1, d2, d3⟩ := spotsAt_keep H1.out HB.out k hlt
        obtain ⟨b2, o2, hab2, hw2, e0, e1, e2, e3⟩ := spotsAt_keep H2.out HB.out k hkb
        have hnq := neq_spot a[k] b[k]
        have HNO := hide (fun h => spotsEq_no (a := a) (b := b) hlt hkb h)
        have HYS : Hid (spotEq a[k] b[k] = true → ∀ j (h1 : j < a.length) (h2 : j < b.length), j < k + 1 → spotEq a[j] b[j] = true) := by
          intro h j h1 h2 hj
          by_cases hjk : j < k
          · exact HK.out j h1 h2 hjk
          · obtain rfl : j = k := by omega
            exact h
        generalize a[k] = A at d0 d1 d2 d3 hnq HNO HYS
        generalize b[k] = D at e0 e1 e2 e3 hnq HNO HYS
        subst hab1 hab2
        cases hq : spotEq A D with
        | true =>
          rw [hq] at hnq HYS
          go_wp2_with fail
          go_quiet (fail)
          go_wp2_with fail
          go_roundw
          case rel => exact ⟨k + 1, by go_num, by omega, HYS.out (by first | rfl | trivial), below_drewN HB.out _⟩
          case measure => simp [intOf]; omega
        | false =>
          rw [hq] at hnq HNO
          have hR : Hid (R = false) := by show _ = _; rw [← HR.out]; exact HNO.out rfl
          go_wp2_with fail
          go_quiet (fail)
          go_wp2
          go_ret
          rw [hR.out]
          exact ⟨rfl, below_drewN HB.out _⟩
      · have hlt' : decide ((k : Int) < (a.length : Int)) = false := by simp; omega
        have hR : Hid (R = true) := by show _ = _; rw [← HR.out]; exact spotsEq_all HN.out (fun j h1 h2 => HK.out j h1 h2 (by omega))
        go_wp2
        go_ret
        rw [hR.out]
        exact ⟨rfl, HB.out⟩
  · have hn' : (((a.length : Int)) != ((b.length : Int))) = true := by rw [bne_iff_ne]; omega
    have HE := hide (spotsEq_len hn)
    have HN := hide hn
    clear hn
    rw [HE.out]
    go_enter Tryz.func136, Tryz.ntmps136
    go_wp2
    go_ret
    exact ⟨rfl, Below.refl _ _⟩
end Go.Proofs.YtmmchemgegmhhaaGreatDoor
