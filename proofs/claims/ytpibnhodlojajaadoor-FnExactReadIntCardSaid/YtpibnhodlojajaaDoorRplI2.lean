/- The program's reader of replies: lines, and numbers on them. -/
import Derived.Test.YtpibnhodlojajaaDoorRplI
namespace Go.Proofs.YtpibnhodlojajaaDoor
open Go.RowKit

theorem ext_list (s : ByteArray) (i : Nat) : (s.extract i s.size).data.toList = s.data.toList.drop i := by
  rw [Lib.extract_data]
  exact List.take_of_length_le (by rw [List.length_drop, Array.length_toList]; exact Nat.le_refl _)
theorem slice_from (s : ByteArray) (i : Nat) (h : i ≤ s.size) : ∀ W : World, (Instr.slice 9 (.string s) (some (.int .i64 (i : Int))) none none).run Tryd.prog W = .ok (.string (s.extract i s.size)) W := by
  intro W
  rw [run_slice_string_from_if W 9 s .i64 i Tryd.underlying9, if_pos ⟨by omega, by omega⟩, Int.toNat_natCast]
theorem back_txt (x : ByteArray) : (⟨x.data.toList.toArray⟩ : ByteArray) = x := by cases x; simp
theorem cut_yes (s : ByteArray) (i : Nat) (h : crE s i < s.size) : (Lib.cut (s.data.toList.drop i) [13, 10]).1 = (s.extract i (crE s i)).data.toList ∧ (Lib.cut (s.data.toList.drop i) [13, 10]).2.2 = true := by
  have h1 := (cr_index s _ i rfl).1 h
  have h2 := (crE_facts h).1
  unfold Lib.cut
  rw [if_pos (by omega), h1, Int.toNat_natCast, Lib.extract_data]
  exact ⟨rfl, rfl⟩
theorem cut_no (s : ByteArray) (i : Nat) (h : s.size ≤ crE s i) : (Lib.cut (s.data.toList.drop i) [13, 10]).1 = s.data.toList.drop i ∧ (Lib.cut (s.data.toList.drop i) [13, 10]).2.2 = false := by
  have h1 := (cr_index s _ i rfl).2 h
  unfold Lib.cut
  rw [if_neg (by omega)]
  exact ⟨rfl, rfl⟩

/-- The library's variable that is never looked at. -/
def MaxR (w : World) (m : Int) : Prop := w.cell? ⟨5, 0, none⟩ = some (.int .i64 m) ∧ 5 < w.heap.size
theorem maxR_of {w : World} {m : Int} (h : w.cell? ⟨5, 0, none⟩ = some (.int .i64 m)) : MaxR w m := by
  refine ⟨h, ?_⟩
  rcases Nat.lt_or_ge 5 w.heap.size with h' | h'
  · exact h'
  · simp [World.cell?, Array.getElem?_eq_none h'] at h
/-- What lies in the library's variables on the road. -/
structure RVars (w : World) : Prop where
  pow : Pow10 w
  syn : ∃ tp p, w.var? Tryd.prog "strconv.ErrSyntax" = some #[.iface tp p]
  rng : ∃ tp p, w.var? Tryd.prog "strconv.ErrRange" = some #[.iface tp p]
  mx : ∃ m, MaxR w m
theorem var_later {w w' : World} {nm : String} {g : Nat} (hg : Tryd.prog.globalNamed nm = some g) (h : Below w.heap.size w w') {x : Value} (hv : w.var? Tryd.prog nm = some #[x]) : w'.var? Tryd.prog nm = some #[x] := by
  refine var?_below h hg ?_ hv
  rcases Nat.lt_or_ge g w.heap.size with h' | h'
  · exact h'
  · unfold World.var? at hv
    rw [hg] at hv
    simp [Array.getElem?_eq_none h'] at hv
theorem rvars_below {w w' : World} (h : RVars w) (hb : Below w.heap.size w w') : RVars w' := by
  refine ⟨tab_later hb h.pow, ?_, ?_, ?_⟩
  · obtain ⟨tp, p, hv⟩ := h.syn
    exact ⟨tp, p, var_later (g := 0) (by kernel_rfl) hb hv⟩
  · obtain ⟨tp, p, hv⟩ := h.rng
    exact ⟨tp, p, var_later (g := 1) (by kernel_rfl) hb hv⟩
  · obtain ⟨m, h1, h2⟩ := h.mx
    exact ⟨m, (hb.cell (p := ⟨5, 0, none⟩) h2).trans h1, Nat.lt_of_lt_of_le h2 hb.size⟩
/-- What a line tells as a number. -/
def valI (l : ByteArray) : Option Int := match Lib.atoiAll l.data.toList with | .ok v => (if l = numB v then some v else none) | .syntax => none | .range => none

set_option maxRecDepth 100000 in
set_option maxHeartbeats 1000000 in
theorem whole_some (l : ByteArray) (v : Int) (w : World) (hz : l.size ≤ 1048576) (hl : valI l = some v) (hv : RVars w) :
    Calls Tryd.prog 18 #[.string l] w fun e w' => e = .returned (.tuple #[.int .i64 v, .bool true]) ∧ Below w.heap.size w w' := by
  unfold valI at hl
  cases ha : Lib.atoiAll l.data.toList with
  | «syntax» => rw [ha] at hl; cases hl
  | range => rw [ha] at hl; cases hl
  | ok u =>
    rw [ha] at hl
    simp only at hl
    split at hl
    · rename_i hlu
      obtain rfl : u = v := by simpa using hl
      have hb := Lib.atoiAll_bounds ha
      have HA := hide (fun W => Tryd.strconv_Atoi_ok l (by omega) u ha W)
      have HD : Hid (∀ W, Below w.heap.size w W → Calls Tryd.prog 33 #[.int .i64 u] W fun e w' => e = .returned (.string l) ∧ Below W.heap.size W w') := fun W hW => by rw [hlu]; exact implDec_any u W hb.1 hb.2 (tab_later hW hv.pow)
      have he : (l.toList == l.toList) = true := beq_self_eq_true _
      clear hl hlu ha hv hb
      go_enter Tryd.func18, Tryd.ntmps18
      go_wp2_with fail
      refine (HA.out _).mono ?_
      rintro e w1 ⟨rfl, hw1⟩
      have B1 : Hid (Below w.heap.size w w1) := by
        rcases hw1 with rfl | ⟨t, rfl⟩
        · exact Below.refl _ _
        · exact Lib.bytesWorld_below w 5 t
      clear hw1
      go_wp2_with fail
      refine (HD.out _ B1.out).mono ?_
      rintro e w2 ⟨rfl, b2⟩
      go_wp2
      go_ret2
      exact ⟨rfl, B1.out.trans (b2.mono B1.out.size)⟩
    · cases hl

set_option maxRecDepth 100000 in
set_option maxHeartbeats 1000000 in
theorem whole_none (l : ByteArray) (w : World) (hz : l.size ≤ 1048576) (hl : valI l = none) (hv : RVars w) :
    Calls Tryd.prog 18 #[.string l] w fun e w' => e = .returned (.tuple #[.int .i64 0, .bool false]) ∧ Below w.heap.size w w' := by
  unfold valI at hl
  cases ha : Lib.atoiAll l.data.toList with
  | «syntax» =>
    obtain ⟨tp, p, hs⟩ := hv.syn
    have HA := hide (Tryd.strconv_Atoi_syntax_var l (by omega) ha tp p w hs)
    clear hl ha hv hs
    go_enter Tryd.func18, Tryd.ntmps18
    go_wp2_with fail
    refine (HA.out).mono ?_
    rintro e w1 ⟨N, rfl, -, -, b1⟩
    go_wp2
    go_ret2
    exact ⟨rfl, b1⟩
  | range =>
    obtain ⟨tp, p, hs⟩ := hv.rng
    have HA := hide (Tryd.strconv_Atoi_range_var l (by omega) ha tp p w hs)
    clear hl ha hv hs
    go_enter Tryd.func18, Tryd.ntmps18
    go_wp2_with fail
    refine (HA.out).mono ?_
    rintro e w1 ⟨N, rfl, -, -, b1⟩
    go_wp2
    go_ret2
    exact ⟨rfl, b1⟩
  | ok u =>
    rw [ha] at hl
    simp only at hl
    split at hl
    · cases hl
    · rename_i hlu
      have hb := Lib.atoiAll_bounds ha
      have HA := hide (fun W => Tryd.strconv_Atoi_ok l (by omega) u ha W)
      have HD : Hid (∀ W, Below w.heap.size w W → Calls Tryd.prog 33 #[.int .i64 u] W fun e w' => e = .returned (.string (numB u)) ∧ Below W.heap.size W w') := fun W hW => implDec_any u W hb.1 hb.2 (tab_later hW hv.pow)
      have he : ((numB u).toList == l.toList) = false := txt_ne (fun h => hlu h.symm)
      generalize numB u = D at HD he
      clear hl hlu ha hv hb
      go_enter Tryd.func18, Tryd.ntmps18
      go_wp2_with fail
      refine (HA.out _).mono ?_
      rintro e w1 ⟨rfl, hw1⟩
      have B1 : Hid (Below w.heap.size w w1) := by
        rcases hw1 with rfl | ⟨t, rfl⟩
        · exact Below.refl _ _
        · exact Lib.bytesWorld_below w 5 t
      clear hw1
      go_wp2_with fail
      refine (HD.out _ B1.out).mono ?_
      rintro e w2 ⟨rfl, b2⟩
      go_wp2
      go_ret2
      exact ⟨rfl, B1.out.trans (b2.mono B1.out.size)⟩
end Go.Proofs.YtpibnhodlojajaaDoor
