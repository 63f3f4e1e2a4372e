/- The program's ReadHint. -/
import Derived.Test.YtjfagmjajpnacamDoorHintQ
import Derived.Test.YtjfagmjajpnacamDoorDirI1
import Derived.Test.YtjfagmjajpnacamDoorOne
import Derived.Test.YtjfagmjajpnacamDoorSumI2
namespace Go.Proofs.YtjfagmjajpnacamDoor
open Go.RowKit

theorem rsI_some (t : ByteArray) (i : Nat) (s : ByteArray) (p : Nat) (w : World) (ht : t.size ≤ 1048576) (hi : i ≤ t.size) (h : shI t i = some (s, p)) :
    Calls Tryd.prog 36 #[.string t, .int .i64 (i : Int)] w fun e w' => e = .returned (.tuple #[.string s, .int .i64 (p : Int), .bool true]) ∧ Below w.heap.size w w' := by
  have hI : Wd.rvI t (i : Int) = Wd.rv t i := by unfold Wd.rvI; rw [if_neg (by omega), Int.toNat_natCast]
  cases hr : Wd.rv t i with
  | none => rw [shI_none hr] at h; cases h
  | some x =>
    obtain ⟨n, k⟩ := x
    by_cases hc : n ≤ 20000 ∧ k + n ≤ t.size
    · rw [shI_yes hr hc.1 hc.2] at h
      simp only [Option.some.injEq, Prod.mk.injEq] at h
      obtain ⟨rfl, rfl⟩ := h
      have := implRShort_yes t (i : Int) w n k (by omega) (by rw [hI]; exact hr) hc.1 hc.2
      rw [show ((k + n : Nat) : Int) = (k : Int) + (n : Int) from by omega]
      exact this
    · rw [shI_no hr (by omega)] at h; cases h
theorem rsI_none (t : ByteArray) (i : Nat) (w : World) (ht : t.size ≤ 1048576) (hi : i ≤ t.size) (h : shI t i = none) :
    Calls Tryd.prog 36 #[.string t, .int .i64 (i : Int)] w fun e w' => e = .returned (.tuple #[.string ⟨#[]⟩, .int .i64 0, .bool false]) ∧ Below w.heap.size w w' := by
  have hI : Wd.rvI t (i : Int) = Wd.rv t i := by unfold Wd.rvI; rw [if_neg (by omega), Int.toNat_natCast]
  cases hr : Wd.rv t i with
  | none => exact implRShort_none t (i : Int) w (by omega) (by rw [hI]; exact hr)
  | some x =>
    obtain ⟨n, k⟩ := x
    by_cases hc : n ≤ 20000 ∧ k + n ≤ t.size
    · rw [shI_yes hr hc.1 hc.2] at h; cases h
    · exact implRShort_no t (i : Int) w n k (by omega) (by rw [hI]; exact hr) (by omega)
theorem rvI_in (t : ByteArray) (i : Nat) (hi : i ≤ t.size) : Wd.rvI t (i : Int) = Wd.rv t i := by unfold Wd.rvI; rw [if_neg (by omega), Int.toNat_natCast]

/-- What readSpot answers. -/
def spV : Option (SpotD × Nat) → Value
  | some (A, e) => .tuple #[.agg #[.string A.key, .int .i64 A.seg, .int .i64 A.pos, .int .i64 A.seq], .int .i64 (e : Int), .bool true]
  | none => .tuple #[.agg #[.string ⟨#[]⟩, .int .i64 0, .int .i64 0, .int .i64 0], .int .i64 0, .bool false]

theorem setC {w : World} {b j : Nat} {cs : Array Value} {ty : TypeId} (h : w.heap[b]? = some (.cells cs ty (0, 0))) (v : Value) : (w.setCell ⟨b, j, none⟩ v).heap[b]? = some (.cells (cs.setIfInBounds j v) ty (0, 0)) := heap_setCell_same _ _ _ _ _ _ h
theorem box4h {W : World} {g : Nat} {a b c d : Value} {t : TypeId} (h : W.heap[g]? = some (.cells #[a, b, c, d] t (0, 0))) :
    (W.cell? ⟨g, 0, none⟩ = some a ∧ W.cell? ⟨g, 1, none⟩ = some b ∧ W.cell? ⟨g, 2, none⟩ = some c ∧ W.cell? ⟨g, 3, none⟩ = some d) ∧ W.frozen? ⟨g, 0, none⟩ = false ∧ W.frozen? ⟨g, 1, none⟩ = false ∧ W.frozen? ⟨g, 2, none⟩ = false ∧ W.frozen? ⟨g, 3, none⟩ = false :=
  ⟨⟨(cell_of_row W _ 0 _ _ (0, 0) h).trans rfl, (cell_of_row W _ 1 _ _ (0, 0) h).trans rfl, (cell_of_row W _ 2 _ _ (0, 0) h).trans rfl, (cell_of_row W _ 3 _ _ (0, 0) h).trans rfl⟩, frozen_of_row W _ 0 _ _ h, frozen_of_row W _ 1 _ _ h, frozen_of_row W _ 2 _ _ h, frozen_of_row W _ 3 _ _ h⟩
theorem below4 {w W : World} (h : Below w.heap.size w W) (a b c d : Value) : Below w.heap.size w ((((W.setCell ⟨w.heap.size, 0, none⟩ a).setCell ⟨w.heap.size, 1, none⟩ b).setCell ⟨w.heap.size, 2, none⟩ c).setCell ⟨w.heap.size, 3, none⟩ d) :=
  (((h.setCell (p := ⟨w.heap.size, 0, none⟩) (Nat.le_refl _) a).setCell (p := ⟨w.heap.size, 1, none⟩) (Nat.le_refl _) b).setCell (p := ⟨w.heap.size, 2, none⟩) (Nat.le_refl _) c).setCell (p := ⟨w.heap.size, 3, none⟩) (Nat.le_refl _) d
/-- The three numbers in memory. -/
def numC (ns : List Nat) : Array Value := #[.int .i64 (ns.getD 0 0 : Nat), .int .i64 (ns.getD 1 0 : Nat), .int .i64 (ns.getD 2 0 : Nat)]
theorem numC_set {ns : List Nat} {k a : Nat} (h : ns.length = k) (hk : k < 3) : (numC ns).setIfInBounds k (.int .i64 (a : Int)) = numC (ns ++ [a]) := by
  subst h
  match ns, hk with
  | [], _ => rfl
  | [_], _ => rfl
  | [_, _], _ => rfl
theorem numC_get (ns : List Nat) {k : Nat} (hk : k < 3) : (numC ns)[k]? = some (.int .i64 (ns.getD k 0 : Nat)) := by
  match k, hk with
  | 0, _ => rfl
  | 1, _ => rfl
  | 2, _ => rfl

set_option maxRecDepth 100000 in
set_option maxHeartbeats 1600000 in
theorem readSpot_any (t : ByteArray) (i : Nat) (w : World) (ht : t.size ≤ 20000) (hi : i ≤ t.size) :
    Calls Tryd.prog 29 #[.string t, .int .i64 (i : Int)] w fun e w' => e = .returned (spV (spI t i)) ∧ Below w.heap.size w w' := by
  obtain ⟨wb, hwb⟩ : ∃ wb, wb = w.alloc (.cells #[.string ⟨#[]⟩, .int .i64 0, .int .i64 0, .int .i64 0] 36) := ⟨_, rfl⟩
  have HB0 : Hid (Below w.heap.size w wb) := by rw [hwb]; exact (Below.refl _ w).alloc (Nat.le_refl _) _
  have hbs : wb.heap.size = w.heap.size + 1 := by rw [hwb]; simp
  have HC0 : Hid (wb.heap[w.heap.size]? = some (.cells #[.string ⟨#[]⟩, .int .i64 0, .int .i64 0, .int .i64 0] 36 (0, 0))) := by
    show _ = _
    rw [hwb]
    exact heap_alloc_new w _
  cases h1 : shI t i with
  | none =>
    rw [spI_none h1]
    have H := hide (fun W => rsI_none t i W (by omega) hi h1)
    clear h1
    go_enter Tryd.func29, Tryd.ntmps29
    go_wp2_with fail
    rw [← hwb]
    clear hwb
    refine (H.out _).mono ?_
    rintro e w1 ⟨rfl, b1⟩
    obtain ⟨⟨hr0, hr1, hr2, hr3⟩, hf0, hf1, hf2, hf3⟩ := box4h ((b1.block _ (heap_lt HC0.out)).trans HC0.out)
    have B1 := hide (HB0.out.trans (b1.mono HB0.out.size))
    clear b1
    go_wp2
    exact bodyPost_ret (v := spV none) (by simp [spV, results, Tryd.results29, go_sem, hr0, hr1, hr2, hr3]) rfl ⟨rfl, below4 B1.out _ _ _ _⟩
  | some x =>
    obtain ⟨s, p⟩ := x
    have H := hide (fun W => rsI_some t i s p W (by omega) hi h1)
    have hp := (shI_text h1).2.2.1
    have HS1 := hide h1
    clear h1
    go_enter Tryd.func29, Tryd.ntmps29
    go_wp2_with fail
    rw [← hwb]
    clear hwb
    refine (H.out _).mono ?_
    rintro e w1 ⟨rfl, b1⟩
    have B1 := hide b1
    clear b1 H
    go_wp2_with fail
    go_loopw [1, 21] (fun at_ ii wr => ∃ (k q : Nat) (ns : List Nat), at_ = .int .i64 (q : Int) ∧ ii = .int .i64 (k : Int) ∧ k ≤ 3 ∧ q ≤ t.size ∧ ns.length = k ∧ Hid (rdN t p k = some (ns, q)) ∧ Hid (wr.heap[w1.heap.size]? = some (.cells (numC ns) 59 (0, 0))) ∧ Hid (Below wb.heap.size wb wr)) (fun _ ii _ => 3 - (intOf ii).toNat)
    case atStart =>
      exact ⟨0, p, [], rfl, rfl, by omega, hp, rfl, rfl, heap_alloc_new w1 _, B1.out.alloc B1.out.size _⟩
    case round =>
      obtain ⟨k, q, ns, rfl, rfl, hk, hq, hns, HR, HN, HB⟩ := hrel
      have hws := HB.out.size
      have hw1 := B1.out.size
      by_cases hlt : k < 3
      · have hlt' : decide ((k : Int) < 3) = true := by simp; omega
        have hi0 : (0 : Int) ≤ (k : Int) := by omega
        have hi1 : (k : Int) < 3 := by omega
        have hcc := (cell_of_row wr _ k _ _ (0, 0) HN.out).trans (numC_get ns hlt)
        have hcf := frozen_of_row wr w1.heap.size k _ _ HN.out
        cases hv : Wd.rv t q with
        | none =>
          have HV := hide (fun W => implRead_none t (q : Int) W (by omega) ((rvI_in t q hq).trans hv))
          have HE : Hid (spI t i = none) := spI_no HS1.out (by have := rdN_none (rdN_no HR.out hv) (3 - (k + 1)); rwa [show k + 1 + (3 - (k + 1)) = 3 from by omega] at this)
          clear hv
          obtain ⟨⟨hr0, hr1, hr2, hr3⟩, hf0, hf1, hf2, hf3⟩ := box4h ((HB.out.block _ (by omega)).trans HC0.out)
          go_wp2_with fail
          refine (HV.out _).mono ?_
          rintro e w5 ⟨rfl, rfl⟩
          go_wp2_with fail
          obtain ⟨⟨hr0, hr1, hr2, hr3⟩, -⟩ := box4h (((HB.out.setCell (p := ⟨w1.heap.size, k, none⟩) hw1 (.int .i64 0)).block _ (by omega)).trans HC0.out)
          have B6 := hide (HB0.out.trans ((HB.out.setCell (p := ⟨w1.heap.size, k, none⟩) hw1 (.int .i64 0)).mono HB0.out.size))
          generalize w5.setCell ⟨w1.heap.size, k, none⟩ (.int .i64 0) = w6 at hr0 hr1 hr2 hr3 B6
          rw [HE.out]
          exact bodyPost_ret (v := spV none) (by simp [spV, results, Tryd.results29, go_sem, hr0, hr1, hr2, hr3]) rfl ⟨rfl, below4 B6.out _ _ _ _⟩
        | some y =>
          obtain ⟨a, e⟩ := y
          have HV := hide (fun W => implRead_some t (q : Int) W a e (by omega) ((rvI_in t q hq).trans hv))
          have hb := Wd.rv_bounds t q a e hv
          have HRn := hide (rdN_yes HR.out hv)
          clear hv
          go_wp2_with fail
          refine (HV.out _).mono ?_
          rintro e w5 ⟨rfl, rfl⟩
          go_wp2
          go_roundw
          case rel =>
            exact ⟨k + 1, e, ns ++ [a], rfl, by go_num, by omega, hb.2.2, by simp [hns], HRn, by have := setC (j := k) HN.out (.int .i64 (a : Int)); rwa [numC_set hns hlt] at this, HB.out.setCell (p := ⟨w1.heap.size, k, none⟩) hw1 _⟩
          case measure => simp [intOf]; omega
      · have hlt' : decide ((k : Int) < 3) = false := by simp; omega
        have hke : k = 3 := by omega
        subst hke
        have HE := hide (spI_yes HS1.out HR.out)
        have hc0 := (cell_of_row wr _ 0 _ _ (0, 0) HN.out).trans (numC_get ns (by omega))
        have hc1 := (cell_of_row wr _ 1 _ _ (0, 0) HN.out).trans (numC_get ns (by omega))
        have hc2 := (cell_of_row wr _ 2 _ _ (0, 0) HN.out).trans (numC_get ns (by omega))
        generalize ns.getD 0 0 = x0 at hc0 HE
        generalize ns.getD 1 0 = x1 at hc1 HE
        generalize ns.getD 2 0 = x2 at hc2 HE
        obtain ⟨⟨hr0, hr1, hr2, hr3⟩, hf0, hf1, hf2, hf3⟩ := box4h ((HB.out.block _ (by omega)).trans HC0.out)
        go_wp2_with fail
        have B6 := hide (HB0.out.trans (HB.out.mono HB0.out.size))
        rw [HE.out]
        exact bodyPost_ret (v := spV (some (⟨s, (x0 : Int), (x1 : Int), (x2 : Int)⟩, q))) (by simp [spV, results, Tryd.results29, go_sem, hr0, hr1, hr2, hr3]) rfl ⟨rfl, below4 B6.out _ _ _ _⟩

theorem spsI_small {t : ByteArray} : ∀ (n i : Nat) (acc cs : List SpotD) (e : Nat), spsI t n i acc = some (cs, e) → (∀ A ∈ acc, A.key.size ≤ 20000) → ∀ A ∈ cs, A.key.size ≤ 20000
  | 0, i, acc, cs, e, h, ha => by
    simp only [spsI, Option.some.injEq, Prod.mk.injEq] at h
    rw [← h.1]
    exact ha
  | n + 1, i, acc, cs, e, h, ha => by
    unfold spsI at h
    cases h1 : spI t i with
    | none => rw [h1] at h; cases h
    | some x =>
      obtain ⟨A, p⟩ := x
      rw [h1] at h
      refine spsI_small n p (acc ++ [A]) cs e h (fun B hB => ?_)
      rcases List.mem_append.1 hB with hB | hB
      · exact ha B hB
      · obtain rfl : B = A := by simpa using hB
        exact (spI_text h1).2.2
/-- What readSpots answers. -/
def SpsAns (t : ByteArray) (w : World) (e : Ending) (w' : World) : Prop :=
  (∃ v ok, e = .returned (.tuple #[v, .bool ok]) ∧ ((ok = false ∧ dirI t = none ∧ ∃ l : List SpotD, RowSpot w' w.heap.size v l ∧ l.length ≤ 200) ∨ (ok = true ∧ ∃ l, dirI t = some l ∧ RowSpot w' w.heap.size v l ∧ l.length ≤ 200 ∧ ∀ A ∈ l, A.key.size ≤ 20000))) ∧ Below w.heap.size w w'

set_option maxRecDepth 100000 in
set_option maxHeartbeats 1600000 in
theorem readSpots_any (t : ByteArray) (w : World) (ht : t.size ≤ 20000) :
    Calls Tryd.prog 14 #[.string t] w (SpsAns t w) := by
  have HZ : Hid (dirI t = none → ∀ W, Below w.heap.size w W → SpsAns t w (.returned (.tuple #[.slice none 0 0, .bool false])) W) := fun h W hW => ⟨⟨_, _, rfl, .inl ⟨rfl, h, [], .inl ⟨rfl, rfl⟩, Nat.zero_le _⟩⟩, hW⟩
  cases hv : Wd.rv t 0 with
  | none =>
    have HV := hide (fun W => implRead_none t 0 W (by omega) ((rvI_in t 0 (Nat.zero_le _)).trans hv))
    have HE : Hid (dirI t = none) := by show _ = _; unfold dirI; rw [hv]
    clear hv
    go_enter Tryd.func14, Tryd.ntmps14
    go_wp2_with fail
    refine (HV.out _).mono ?_
    rintro e w5 ⟨rfl, rfl⟩
    go_wp2
    go_ret2
    exact HZ.out HE.out _ (Below.refl _ _)
  | some y =>
    obtain ⟨n, p⟩ := y
    have HV := hide (fun W => implRead_some t 0 W n p (by omega) ((rvI_in t 0 (Nat.zero_le _)).trans hv))
    have hb := Wd.rv_bounds t 0 n p hv
    by_cases hn : n ≤ 200
    · have hn' : decide ((200 : Int) < (n : Int)) = false := by simp; omega
      obtain ⟨RL, HRL⟩ : ∃ RL, Hid (spsI t n p [] = RL) := ⟨_, hide rfl⟩
      have HE0 : Hid (RL = none → dirI t = none) := fun h => by unfold dirI; rw [hv]; simp only; rw [if_pos hn, HRL.out, h]
      have HE1 : Hid (∀ l e, RL = some (l, e) → dirI t = if e = t.size then some l else none) := fun l e h => by unfold dirI; rw [hv]; simp only; rw [if_pos hn, HRL.out, h]
      clear hv
      go_enter Tryd.func14, Tryd.ntmps14
      go_wp2_with fail
      refine (HV.out _).mono ?_
      rintro e w5 ⟨rfl, rfl⟩
      go_wp2_with fail
      go_loopw [5, 7, 24] (fun at_ vo ii wr => ∃ (k q : Nat) (acc : List SpotD), at_ = .int .i64 (q : Int) ∧ ii = .int .i64 (k : Int) ∧ acc.length = k ∧ k ≤ n ∧ q ≤ t.size ∧ Hid (spsI t (n - k) q acc = RL) ∧ Hid (wr.ownsRow w5.heap.size 36 4 vo acc.length (cellsSpot acc)) ∧ Hid (Below w5.heap.size w5 wr)) (fun _ _ ii _ => n - (intOf ii).toNat)
      case atStart => exact ⟨0, p, [], rfl, rfl, rfl, Nat.zero_le _, hb.2.2, HRL, World.ownsRow_nil _ _ _ _, Below.refl _ _⟩
      case round =>
        obtain ⟨k, q, acc, rfl, rfl, hal, hk, hq, HR, HO, HB⟩ := hrel
        have hws := HB.out.size
        by_cases hlt : k < n
        · have hlt' : decide ((k : Int) < (n : Int)) = true := by simp; omega
          have hC := fun W => readSpot_any t q W ht hq
          cases hsp : spI t q with
          | none =>
            rw [hsp] at hC
            simp only [spV] at hC
            have HC := hide hC
            have HE : Hid (dirI t = none) := HE0.out (by
              have h := HR.out
              rw [show n - k = (n - (k + 1)) + 1 from by omega] at h
              unfold spsI at h
              rw [hsp] at h
              exact h.symm)
            clear hC hsp
            go_wp2_with fail
            refine (HC.out _).mono ?_
            rintro e w6 ⟨rfl, b6⟩
            have B6 := hide (HB.out.trans (b6.mono hws))
            clear b6
            go_wp2_with fail
            go_ret2
            exact HZ.out HE.out _ (B6.out.alloc B6.out.size _)
          | some y =>
            obtain ⟨A, e⟩ := y
            rw [hsp] at hC
            simp only [spV] at hC
            have HC := hide hC
            have he := (spI_text hsp).2.1
            have HRn : Hid (spsI t (n - (k + 1)) e (acc ++ [A]) = RL) := by
              have h := HR.out
              rw [show n - k = (n - (k + 1)) + 1 from by omega] at h
              unfold spsI at h
              rw [hsp] at h
              exact h
            clear hC hsp
            go_wp2_with fail
            refine (HC.out _).mono ?_
            rintro e w6 ⟨rfl, b6⟩
            have B6 := hide b6
            have h6 := b6.size
            clear b6
            have HO6 := hide (HO.out.kept (grownBy_below none B6.out) (by cases u7.ownBlock <;> simp))
            have X7 : Hid (((w6.alloc (.cells #[.string A.key, .int .i64 A.seg, .int .i64 A.pos, .int .i64 A.seq] 36)).alloc (.cells #[.string A.key, .int .i64 A.seg, .int .i64 A.pos, .int .i64 A.seq] 36)).heap[w6.heap.size + 1]? = some (.cells #[.string A.key, .int .i64 A.seg, .int .i64 A.pos, .int .i64 A.seq] 36 (0, 0))) := by
              have h := heap_alloc_new (w6.alloc (.cells #[.string A.key, .int .i64 A.seg, .int .i64 A.pos, .int .i64 A.seq] 36)) (.cells #[.string A.key, .int .i64 A.seg, .int .i64 A.pos, .int .i64 A.seq] 36)
              rw [show (w6.alloc (.cells #[.string A.key, .int .i64 A.seg, .int .i64 A.pos, .int .i64 A.seq] 36)).heap.size = w6.heap.size + 1 from by simp] at h
              exact h
            go_wp2_with (at_builtin; refine app_spot _ w5.heap.size (by rfl) _ _ (by rfl) _ acc A (by rfl) ((HO6.out.alloc _).alloc _) (w6.heap.size + 1) (by rfl) X7.out (by omega) (by simp; omega) ?_; intro g8 cap8 w8 ho8 hb8 hg8 hgl8; have HO8 := hide ho8; have HB8 := hide hb8; clear ho8 hb8 hg8 hgl8)
            go_roundw
            case rel => exact ⟨k + 1, e, acc ++ [A], rfl, by go_num, by simp [hal], by omega, he, HRn, by rw [← hal]; exact HO8, (((HB.out.trans (B6.out.mono hws)).alloc (by omega) _).alloc (by simp; omega) _).trans HB8.out⟩
            case measure => simp [intOf]; omega
        · have hlt' : decide ((k : Int) < (n : Int)) = false := by simp; omega
          have h0 : n - k = 0 := by omega
          rw [h0] at HR
          have hE := HE1.out acc q (by rw [← HR.out]; rfl)
          have HS := hide (spsI_small n p [] acc q (HRL.out.trans (by rw [← HR.out]; rfl)) (fun A hA => absurd hA List.not_mem_nil))
          have hr := rowSpot_own HO.out
          by_cases hqe : q = t.size
          · have hqe' : ((q : Int) == (t.size : Int)) = true := by simp; omega
            rw [if_pos hqe] at hE
            have HE := hide hE
            have HRO := hide hr
            clear hE hr
            go_wp2
            go_ret2
            exact ⟨⟨_, _, rfl, .inr ⟨rfl, acc, HE.out, HRO.out, by omega, HS.out⟩⟩, HB.out⟩
          · have hqe' : ((q : Int) == (t.size : Int)) = false := by simp; omega
            rw [if_neg hqe] at hE
            have HE := hide hE
            have HRO := hide hr
            clear hE hr
            go_wp2
            go_ret2
            exact ⟨⟨_, _, rfl, .inl ⟨rfl, HE.out, acc, HRO.out, by omega⟩⟩, HB.out⟩
    · have hn' : decide ((200 : Int) < (n : Int)) = true := by simp; omega
      have HE : Hid (dirI t = none) := by show _ = _; unfold dirI; rw [hv]; simp only; rw [if_neg hn]
      clear hv
      go_enter Tryd.func14, Tryd.ntmps14
      go_wp2_with fail
      refine (HV.out _).mono ?_
      rintro e w5 ⟨rfl, rfl⟩
      go_wp2
      go_ret2
      exact HZ.out HE.out _ (Below.refl _ _)

theorem unsD_le (s : ByteArray) : (unsD s).size ≤ 20000 := by
  unfold unsD
  split
  · rename_i h
    unfold unsOk at h
    simp only [decide_eq_true_eq] at h
    rw [foreB_size]
    omega
  · exact Nat.zero_le _
theorem implUnsealed_all (s : ByteArray) (w : World) (hl : s.size ≤ 1048576) (hT : SumTab w) :
    Calls Tryd.prog 13 #[.string s] w fun e w' => e = .returned (.tuple #[.string (unsD s), .bool (unsOk s)]) ∧ Below w.heap.size w w' := by
  by_cases h : 4 ≤ s.size ∧ s.size ≤ 20004 ∧ sealB (foreB s) = s
  · have hu : unsOk s = true := by unfold unsOk; simpa using h
    have hd : unsD s = foreB s := by unfold unsD; rw [if_pos hu]
    rw [hu, hd]
    exact unsealed_yes s w h.1 h.2.1 h.2.2 hT
  · have hu : unsOk s = false := by unfold unsOk; simpa using h
    have hd : unsD s = ⟨#[]⟩ := by unfold unsD; rw [hu]; rfl
    rw [hu, hd]
    by_cases h4 : s.size < 4
    · refine (unsealed_short s w h4).mono ?_
      rintro e w' ⟨rfl, rfl⟩
      exact ⟨rfl, Below.refl _ _⟩
    · exact unsealed_no s w (by omega) hl (fun hz e => h ⟨by omega, hz, e⟩) hT

set_option maxRecDepth 100000 in
set_option maxHeartbeats 1600000 in
theorem implReadHint_any (s : ByteArray) (w : World) (hs : s.size ≤ 1048576) (hT : SumTab w) :
    Calls Tryd.prog 5 #[.string s] w fun e w' => (∃ v, e = .returned (.tuple #[v, .bool (hintOk s)]) ∧ RowSpot w' w.heap.size v (hintDir s)) ∧ Below w.heap.size w w' := by
  have HU := hide (implUnsealed_all s w hs hT)
  have hz := unsD_le s
  have HN : Hid ((unsOk s = true → ∀ l, dirI (unsD s) = some l → dirOkD l = false) → ∀ W, Below w.heap.size w W → (∃ v, Ending.returned (.tuple #[.slice none 0 0, .bool false]) = .returned (.tuple #[v, .bool (hintOk s)]) ∧ RowSpot W w.heap.size v (hintDir s)) ∧ Below w.heap.size w W) := fun h W hW => by
    obtain ⟨h1, h2⟩ := hint_no h
    rw [h1, h2]
    exact ⟨⟨_, rfl, .inl ⟨rfl, rfl⟩⟩, hW⟩
  cases hu : unsOk s with
  | false =>
    rw [hu] at HU HN
    clear hu
    go_enter Tryd.func5, Tryd.ntmps5
    go_wp2_with fail
    refine HU.out.mono ?_
    rintro e w1 ⟨rfl, b1⟩
    go_wp2
    go_ret2
    exact HN.out (fun h => by cases h) _ b1
  | true =>
    have HY : Hid (∀ l, dirI (unsD s) = some l → dirOkD l = true → hintOk s = true ∧ hintDir s = l) := fun l h1 h2 => hint_yes hu h1 h2
    rw [hu] at HU HN
    clear hu
    obtain ⟨t, Ht⟩ : ∃ t, Hid (unsD s = t) := ⟨_, hide rfl⟩
    rw [Ht.out] at HU HN HY hz
    have HR := hide (fun W => readSpots_any t W hz)
    go_enter Tryd.func5, Tryd.ntmps5
    go_wp2_with fail
    refine HU.out.mono ?_
    rintro e w1 ⟨rfl, b1⟩
    have B1 := hide b1
    clear b1
    go_wp2_with fail
    refine (HR.out _).mono ?_
    rintro e w2 ⟨⟨v, ok, rfl, h2⟩, b2⟩
    have B2 := hide (B1.out.trans (b2.mono B1.out.size))
    clear b2
    have hw1 := B1.out.size
    rcases h2 with ⟨rfl, hn, l, hr, -⟩ | ⟨rfl, l, hd, hr, hl, hk⟩
    · obtain ⟨ao, cap, rfl, -⟩ := rowSpot_at hr
      have HDN := hide hn
      clear hn hr
      go_wp2
      go_ret2
      exact HN.out (fun _ l hl => by rw [HDN.out] at hl; cases hl) _ B2.out
    · have HRO := hide hr
      obtain ⟨ao, cap, rfl, hat⟩ := rowSpot_at hr
      have HD := hide (implDirOk_any l ao cap w2 (by omega) hat (fun A hA => by have := hk A hA; unfold maxLen; omega))
      have HDI := hide hd
      clear hr hat hd hk
      cases hok : dirOkD l with
      | false =>
        rw [hok] at HD
        have HOK := hide hok
        clear hok
        go_wp2_with fail
        refine HD.out.mono ?_
        rintro e w3 ⟨rfl, b3⟩
        have B3 := hide (B2.out.trans (b3.mono B2.out.size))
        clear b3
        go_wp2
        go_ret2
        exact HN.out (fun _ l' hl' => by rw [HDI.out] at hl'; cases hl'; exact HOK.out) _ B3.out
      | true =>
        rw [hok] at HD
        obtain ⟨h1, h2⟩ := HY.out l HDI.out hok
        have H1 := hide h1
        have H2 := hide h2
        clear hok h1 h2
        go_wp2_with fail
        refine HD.out.mono ?_
        rintro e w3 ⟨rfl, b3⟩
        have B3 := hide b3
        clear b3
        go_wp2
        go_ret2
        rw [H1.out, H2.out]
        exact ⟨⟨_, rfl, rowSpot_le (rowSpot_below HRO.out B3.out) hw1⟩, B2.out.trans (B3.out.mono B2.out.size)⟩
end Go.Proofs.YtjfagmjajpnacamDoor
