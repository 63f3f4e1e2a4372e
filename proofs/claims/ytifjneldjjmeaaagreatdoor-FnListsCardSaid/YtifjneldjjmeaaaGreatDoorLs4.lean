import Derived.BigQuiet
import Derived.Test.YtifjneldjjmeaaaGreatDoorLs0
set_option maxRecDepth 100000
set_option maxHeartbeats 400000
namespace Go.Proofs.YtifjneldjjmeaaaGreatDoor
open Go.RowKit
theorem textsOk_any (ts : List ByteArray) (ao : Option Addr) (cap : Nat) (w : World) (R : Bool) (hR : R = true ↔ TextsR ts) (hl : ts.length ≤ maxLen) (hts : TextsAt w ao ts) (hsz : ∀ s ∈ ts, s.size ≤ maxLen) :
    Calls Tryz.prog 130 #[.slice ao ts.length cap] w fun e w' => e = .returned (.bool R) ∧ w' = w := by
  have HT := hide hts
  have HS := hide hsz
  have HR := hide hR
  clear hts hsz hR
  unfold maxLen at hl
  by_cases h1 : ts.length < 1
  · have h1' : decide ((ts.length : Int) < 1) = true := by simp; omega
    have hF : R = false := by
      cases R
      · rfl
      · have := (HR.out.1 rfl).1; omega
    subst hF
    go_enter Tryz.func130, Tryz.ntmps130
    go_wp2
    go_ret
    exact ⟨rfl, rfl⟩
  have h1' : decide ((ts.length : Int) < 1) = false := by simp; omega
  by_cases h2 : 24 < ts.length
  · have h2' : decide ((24 : Int) < (ts.length : Int)) = true := by simp; omega
    have hF : R = false := by
      cases R
      · rfl
      · have := (HR.out.1 rfl).2.1; omega
    subst hF
    go_enter Tryz.func130, Tryz.ntmps130
    go_wp2
    go_ret
    exact ⟨rfl, rfl⟩
  have h2' : decide ((24 : Int) < (ts.length : Int)) = false := by simp; omega
  go_enter Tryz.func130, Tryz.ntmps130
  go_wp2
  go_loop [15] (fun ii => ∃ (k : Nat), ii = .int .i64 k ∧ k ≤ ts.length ∧ Hid (∀ j (h : j < ts.length), j < k → ts[j].size ≤ 60)) (fun ii => ts.length - (intOf ii).toNat)
  case atStart => exact ⟨0, rfl, Nat.zero_le _, fun j _ hj => absurd hj (by omega)⟩
  case round =>
    obtain ⟨k, rfl, hk, HK⟩ := hrel
    by_cases hlt : k < ts.length
    · have hlt' : decide ((k : Int) < (ts.length : Int)) = true := by simp; omega
      obtain ⟨b, off, rfl, hbw, hc0⟩ := HT.out k hlt
      have hsA := HS.out ts[k] (List.getElem_mem hlt)
      unfold maxLen at hsA
      obtain ⟨F, HF⟩ : ∃ F, Hid (ts[k] = F) := ⟨_, hide rfl⟩
      rw [HF.out] at hc0 hsA
      have hi0 : (0 : Int) ≤ (k : Int) := by omega
      have hi1 : (k : Int) < (ts.length : Int) := by omega
      by_cases h3 : 60 < F.size
      · have h3' : decide ((60 : Int) < (F.size : Int)) = true := by simp; omega
        have hF : Hid (R = false) := by
          show _ = _
          cases R
          · rfl
          · have := (HR.out.1 rfl).2.2 ts[k] (List.getElem_mem hlt); rw [HF.out] at this; omega
        go_wp2
        go_ret
        rw [hF.out]
        exact ⟨rfl, rfl⟩
      · have h3' : decide ((60 : Int) < (F.size : Int)) = false := by simp; omega
        have HK1 : Hid (∀ j (h : j < ts.length), j < k + 1 → ts[j].size ≤ 60) := by
          intro j hj hjk
          by_cases e : j = k
          · subst e; rw [HF.out]; omega
          · exact HK.out j hj (by omega)
        go_wp2
        go_round
        case rel => exact ⟨k + 1, by go_num, by omega, HK1⟩
        case measure => simp [intOf]; omega
    · have hlt' : decide ((k : Int) < (ts.length : Int)) = false := by simp; omega
      have hF : Hid (R = true) := by
        show _ = _
        refine HR.out.2 ⟨by omega, by omega, fun s hs => ?_⟩
        obtain ⟨j, hj, rfl⟩ := List.getElem_of_mem hs
        exact HK.out j hj (by omega)
      go_wp2
      go_ret
      rw [hF.out]
      exact ⟨rfl, rfl⟩
theorem ascending_any (ts : List ByteArray) (ao : Option Addr) (cap : Nat) (w : World) (R : Bool) (hR : R = true ↔ Asc ts) (hl : ts.length ≤ maxLen) (hts : TextsAt w ao ts) :
    Calls Tryz.prog 103 #[.slice ao ts.length cap] w fun e w' => e = .returned (.bool R) ∧ Below w.heap.size w w' := by
  have HT := hide hts
  have HR := hide hR
  clear hts hR
  unfold maxLen at hl
  go_enter Tryz.func103, Tryz.ntmps103
  go_wp2
  go_loopw [3] (fun ii wr => ∃ (k q : Nat), ii = .int .i64 ((k + 1 : Nat) : Int) ∧ k ≤ ts.length ∧ Hid (∀ j (h : j + 1 < ts.length), j < k → Op.bytesLess ts[j].toList ts[j + 1].toList = true) ∧ wr = w.drewN q) (fun ii _ => ts.length - (intOf ii).toNat)
  case atStart => exact ⟨0, 0, rfl, Nat.zero_le _, fun j _ hj => absurd hj (by omega), rfl⟩
  case round =>
    obtain ⟨k, q, rfl, hk, HK, rfl⟩ := hrel
    by_cases hlt : k + 1 < ts.length
    · have hlt' : decide (((k + 1 : Nat) : Int) < (ts.length : Int)) = true := by simp; omega
      have hlt2 : decide ((k + 1 : Nat) < ts.length) = true := by simp; omega
      have hlt3 : decide ((k : Int) + 1 < (ts.length : Int)) = true := by simp; omega
      obtain ⟨b, off, rfl, hbw, hc0⟩ := HT.out k (by omega)
      obtain ⟨b', off', hbe, hbw', hd0⟩ := HT.out (k + 1) hlt
      obtain ⟨rfl, rfl⟩ : b = b' ∧ off = off' := by simpa using hbe
      obtain ⟨F, HF⟩ : ∃ F, Hid (ts[k] = F) := ⟨_, hide rfl⟩
      obtain ⟨G, HG⟩ : ∃ G, Hid (ts[k + 1] = G) := ⟨_, hide rfl⟩
      rw [HF.out] at hc0
      rw [HG.out] at hd0
      have hw : IntKind.i64.wrap (((k + 1 : Nat) : Int) - 1) = (k : Int) := by rw [IntKind.wrap_i64]; omega
      have hw' : IntKind.i64.wrap ((k : Int) + 1 - 1) = (k : Int) := by rw [IntKind.wrap_i64]; omega
      have hi0 : (0 : Int) ≤ (k : Int) := by omega
      have hi1 : (k : Int) < (ts.length : Int) := by omega
      have hj0 : (0 : Int) ≤ ((k + 1 : Nat) : Int) := by omega
      have hj1 : ((k + 1 : Nat) : Int) < (ts.length : Int) := by omega
      clear hbe
      cases hless : Op.bytesLess F.toList G.toList
      · have hF : Hid (R = false) := by
          show _ = _
          cases R
          · rfl
          · have := HR.out.1 rfl k hlt; rw [HF.out, HG.out, hless] at this; cases this
        go_wp2
        go_quiet (fail)
        go_wp2
        go_ret
        rw [hF.out]
        exact ⟨rfl, below_drewN (drewN_below w q) _⟩
      · have HK1 : Hid (∀ j (h : j + 1 < ts.length), j < k + 1 → Op.bytesLess ts[j].toList ts[j + 1].toList = true) := by
          intro j hj hjk
          by_cases e : j = k
          · subst e; rw [HF.out, HG.out]; exact hless
          · exact HK.out j hj (by omega)
        go_wp2
        go_quiet (fail)
        go_wp2
        go_roundw
        case rel => exact ⟨k + 1, q + nq, by go_num, by omega, HK1, rfl⟩
        case measure => simp [intOf]; omega
    · have hlt' : decide (((k + 1 : Nat) : Int) < (ts.length : Int)) = false := by simp; omega
      have hlt3 : decide ((k : Int) + 1 < (ts.length : Int)) = false := by simp; omega
      have hF : Hid (R = true) := by show _ = _; exact HR.out.2 (fun j hj => HK.out j hj (by omega))
      go_wp2
      go_ret
      rw [hF.out]
      exact ⟨rfl, drewN_below w q⟩
theorem fields_any (ts : List ByteArray) (ao : Option Addr) (cap : Nat) (w : World) (hl : ts.length ≤ 1048576) (hts : TextsAt w ao ts) :
    Calls Tryz.prog 145 #[.slice ao ts.length cap] w fun e w' => (∃ v, e = .returned v ∧ w'.ownsRow w.heap.size 9 1 v (evN ts ((ts.length + 1) / 2)).length ((evN ts ((ts.length + 1) / 2)).map Value.string)) ∧ Below w.heap.size w w' := by
  have HT := hide hts
  clear hts
  go_enter Tryz.func145, Tryz.ntmps145
  go_wp2
  go_loopw [3, 4] (fun vv ii wr => ∃ (k : Nat), ii = .int .i64 ((2 * k : Nat) : Int) ∧ 2 * k ≤ ts.length + 1 ∧ Hid (wr.ownsRow w.heap.size 9 1 vv (evN ts k).length ((evN ts k).map Value.string)) ∧ Hid (Below w.heap.size w wr)) (fun _ ii _ => ts.length + 1 - (intOf ii).toNat)
  case atStart => exact ⟨0, rfl, by omega, World.ownsRow_nil _ _ _ _, Below.refl _ _⟩
  case round =>
    obtain ⟨k, rfl, hk, HO, HB⟩ := hrel
    by_cases hlt : 2 * k < ts.length
    · have hlt' : decide (((2 * k : Nat) : Int) < (ts.length : Int)) = true := by simp; omega
      have hlt3 : decide (2 * (k : Int) < (ts.length : Int)) = true := by simp; omega
      obtain ⟨b, off, rfl, hbw, hc0⟩ := textsAt_keep HT.out HB.out (2 * k) hlt
      have hws := HB.out.size
      obtain ⟨F, HF⟩ : ∃ F, Hid (ts[2 * k] = F) := ⟨_, hide rfl⟩
      rw [HF.out] at hc0
      have hev : Hid (evN ts (k + 1) = evN ts k ++ [F]) := by show _ = _; rw [evN_succ ts k hlt, HF.out]
      have hi0 : (0 : Int) ≤ ((2 * k : Nat) : Int) := by omega
      have hi1 : ((2 * k : Nat) : Int) < (ts.length : Int) := by omega
      have hel := evN_length ts k
      have HEL := hide hel
      clear hel
      have hel' : (evN ts k).length ≤ 1048576 := by have := HEL.out; omega
      go_wp2_with (at_builtin; refine app_txt _ w.heap.size (by rfl) _ _ (by rfl) _ (evN ts k) F (by rfl) (HO.out.alloc _) wr.heap.size (by rfl) (heap_alloc_new wr _) hel' (by simp; omega) ?_; intro g5 cap5 w5 ho5 hb5 hgr5 hg5 hgl5; have HO5 := hide ho5; have HB5 := hide hb5; clear ho5 hb5 hgr5 hg5 hgl5)
      go_roundw
      case rel => exact ⟨k + 1, by go_num, by omega, by show World.ownsRow _ _ _ _ _ _ _; rw [hev.out]; exact HO5.out, (HB.out.alloc hws _).trans HB5.out⟩
      case measure => simp [intOf]; omega
    · have hlt' : decide (((2 * k : Nat) : Int) < (ts.length : Int)) = false := by simp; omega
      have hlt3 : decide (2 * (k : Int) < (ts.length : Int)) = false := by simp; omega
      have hke : k = (ts.length + 1) / 2 := by omega
      subst hke
      go_wp2
      go_ret
      exact ⟨⟨_, rfl, HO.out⟩, HB.out⟩
theorem ta_text_text (v : Value) (w : World) : (Instr.typeAssert (.iface 159 v) 147 159 true).run Tryz.prog w = .ok (.tuple #[v, .bool true]) w := by kernel_rfl
theorem ta_text_list (v : Value) (w : World) : (Instr.typeAssert (.iface 159 v) 147 160 true).run Tryz.prog w = .ok (.tuple #[.slice none 0 0, .bool false]) w := by kernel_rfl
theorem ta_list_text (v : Value) (w : World) : (Instr.typeAssert (.iface 160 v) 147 159 true).run Tryz.prog w = .ok (.tuple #[.string ⟨#[]⟩, .bool false]) w := by kernel_rfl
theorem ta_list_list (v : Value) (w : World) : (Instr.typeAssert (.iface 160 v) 147 160 true).run Tryz.prog w = .ok (.tuple #[v, .bool true]) w := by kernel_rfl
theorem ta_fields_text (v : Value) (w : World) : (Instr.typeAssert (.iface 161 v) 147 159 true).run Tryz.prog w = .ok (.tuple #[.string ⟨#[]⟩, .bool false]) w := by kernel_rfl
theorem ta_fields_list (v : Value) (w : World) : (Instr.typeAssert (.iface 161 v) 147 160 true).run Tryz.prog w = .ok (.tuple #[.slice none 0 0, .bool false]) w := by kernel_rfl
theorem ta_fields_fields (v : Value) (w : World) : (Instr.typeAssert (.iface 161 v) 147 161 true).run Tryz.prog w = .ok (.tuple #[v, .bool true]) w := by kernel_rfl
theorem ta_set_text (v : Value) (w : World) : (Instr.typeAssert (.iface 162 v) 147 159 true).run Tryz.prog w = .ok (.tuple #[.string ⟨#[]⟩, .bool false]) w := by kernel_rfl
theorem ta_set_list (v : Value) (w : World) : (Instr.typeAssert (.iface 162 v) 147 160 true).run Tryz.prog w = .ok (.tuple #[.slice none 0 0, .bool false]) w := by kernel_rfl
theorem ta_set_fields (v : Value) (w : World) : (Instr.typeAssert (.iface 162 v) 147 161 true).run Tryz.prog w = .ok (.tuple #[.slice none 0 0, .bool false]) w := by kernel_rfl
theorem ta_set_set (v : Value) (w : World) : (Instr.typeAssert (.iface 162 v) 147 162 true).run Tryz.prog w = .ok (.tuple #[v, .bool true]) w := by kernel_rfl
theorem inItsOrder_text (s : ByteArray) (w : World) :
    Calls Tryz.prog 131 #[.iface 159 (.string s)] w fun e w' => e = .returned (.bool true) ∧ Below w.heap.size w w' := by
  have h1 := ta_text_text (.string s)
  have h2 := ta_text_list (.string s)
  go_enter Tryz.func131, Tryz.ntmps131
  go_wp2
  go_ret
  exact ⟨rfl, Below.refl _ _⟩
theorem inItsOrder_list (ts : List ByteArray) (ao : Option Addr) (cap : Nat) (w : World) :
    Calls Tryz.prog 131 #[.iface 160 (.slice ao ts.length cap)] w fun e w' => e = .returned (.bool true) ∧ Below w.heap.size w w' := by
  have h1 := ta_list_text (.slice ao ts.length cap)
  have h2 := ta_list_list (.slice ao ts.length cap)
  go_enter Tryz.func131, Tryz.ntmps131
  go_wp2
  go_ret
  exact ⟨rfl, Below.refl _ _⟩
theorem inItsOrder_set (ts : List ByteArray) (ao : Option Addr) (cap : Nat) (w : World) (R : Bool) (hR : R = true ↔ Asc ts) (hl : ts.length ≤ maxLen) (hts : TextsAt w ao ts) :
    Calls Tryz.prog 131 #[.iface 162 (.slice ao ts.length cap)] w fun e w' => e = .returned (.bool R) ∧ Below w.heap.size w w' := by
  have h1 := ta_set_text (.slice ao ts.length cap)
  have h2 := ta_set_list (.slice ao ts.length cap)
  have h3 := ta_set_fields (.slice ao ts.length cap)
  have h4 := ta_set_set (.slice ao ts.length cap)
  have HA := hide (ascending_any ts ao cap w R hR hl hts)
  clear hts hR
  go_enter Tryz.func131, Tryz.ntmps131
  go_wp2_with fail
  refine HA.out.mono ?_
  rintro e w1 ⟨rfl, b1⟩
  go_wp2
  go_ret
  exact ⟨rfl, b1⟩
theorem inItsOrder_fields (ts : List ByteArray) (ao : Option Addr) (cap : Nat) (w : World) (R : Bool) (hR : R = true ↔ (ts.length % 2 = 0 ∧ AscF ts)) (hl : ts.length ≤ 1048576) (hts : TextsAt w ao ts) :
    Calls Tryz.prog 131 #[.iface 161 (.slice ao ts.length cap)] w fun e w' => e = .returned (.bool R) ∧ Below w.heap.size w w' := by
  have h1 := ta_fields_text (.slice ao ts.length cap)
  have h2 := ta_fields_list (.slice ao ts.length cap)
  have h3 := ta_fields_fields (.slice ao ts.length cap)
  have HT := hide hts
  have HR := hide hR
  clear hts hR
  by_cases h : ts.length % 2 = 0
  · have hd : ((ts.length : Int) % 2 == 0) = true := by simp; omega
    have HR2 : Hid (R = true ↔ Asc (evN ts ((ts.length + 1) / 2))) := by show _ ↔ _; rw [HR.out, evN_asc]; exact ⟨fun h' => h'.2, fun h' => ⟨h, h'⟩⟩
    have hel : (evN ts ((ts.length + 1) / 2)).length ≤ maxLen := by rw [evN_length]; unfold maxLen; omega
    have HL := hide hel
    clear hel
    go_enter Tryz.func131, Tryz.ntmps131
    go_wp2_with fail
    refine (fields_any ts ao cap w hl HT.out).mono ?_
    rintro e w1 ⟨⟨v, rfl, ho⟩, b1⟩
    obtain ⟨a, c, rfl, ht⟩ := rowText_at (rowText_own ho)
    have HA := hide (ascending_any _ a c w1 R HR2.out HL.out ht)
    clear ho ht
    go_wp2_with fail
    refine HA.out.mono ?_
    rintro e w2 ⟨rfl, b2⟩
    go_wp2
    go_ret
    exact ⟨rfl, b1.trans (b2.mono b1.size)⟩
  · have hd : ((ts.length : Int) % 2 == 0) = false := by simp; omega
    have hF : R = false := by
      cases R
      · rfl
      · exact absurd (HR.out.1 rfl).1 h
    subst hF
    go_enter Tryz.func131, Tryz.ntmps131
    go_wp2_with fail
    go_ret
    exact ⟨rfl, Below.refl _ _⟩
def contV (k : Int) (t : ByteArray) (ao : Option Addr) (n cap : Nat) : Value :=
  if k = 1 then .iface 159 (.string t) else if k = 2 then .iface 160 (.slice ao n cap) else if k = 3 then .iface 161 (.slice ao n cap) else if k = 4 then .iface 162 (.slice ao n cap) else .nilIface
def contB (k : Int) (t : ByteArray) (n : Nat) : Bool := if k = 1 then (n : Int) == 0 else if k = 2 ∨ k = 3 ∨ k = 4 then t.toList.isEmpty else false
theorem contentOf_any (k u : Int) (t : ByteArray) (ao : Option Addr) (n cap : Nat) (w : World) :
    Calls Tryz.prog 129 #[.agg #[.int .i64 k, .int .i64 u, .string t, .slice ao n cap]] w fun e w' => e = .returned (.tuple #[contV k t ao n cap, .bool (contB k t n)]) ∧ Below w.heap.size w w' := by
  have mk : ∀ q, Below w.heap.size w ((w.alloc (.cells #[.int .i64 k, .int .i64 u, .string t, .slice ao n cap] 38)).drewN q) := fun q => below_drewN ((Below.refl _ w).alloc (Nat.le_refl _) _) q
  have MK := hide mk
  clear mk
  by_cases h1 : k = 1
  · subst h1
    go_enter Tryz.func129, Tryz.ntmps129
    go_wp2
    go_quiet (fail)
    go_wp2
    go_ret2
    exact ⟨rfl, MK.out _⟩
  by_cases h2 : k = 2
  · subst h2
    go_enter Tryz.func129, Tryz.ntmps129
    go_wp2
    go_quiet (fail)
    go_wp2
    go_ret2
    exact ⟨rfl, MK.out _⟩
  by_cases h3 : k = 3
  · subst h3
    go_enter Tryz.func129, Tryz.ntmps129
    go_wp2
    go_quiet (fail)
    go_wp2
    go_ret2
    exact ⟨rfl, MK.out _⟩
  by_cases h4 : k = 4
  · subst h4
    go_enter Tryz.func129, Tryz.ntmps129
    go_wp2
    go_quiet (fail)
    go_wp2
    go_ret2
    exact ⟨rfl, MK.out _⟩
  · have h1' : (k == 1) = false := by simpa using h1
    have h2' : (k == 2) = false := by simpa using h2
    have h3' : (k == 3) = false := by simpa using h3
    have h4' : (k == 4) = false := by simpa using h4
    go_enter Tryz.func129, Tryz.ntmps129
    go_wp2
    go_ret2
    refine ⟨?_, MK.out 0⟩
    simp [contV, contB, h1, h2, h3, h4]
theorem tx_text (v : Value) (w : World) : (method 342 159 v "loop.example/g00124/impl.texts").run Tryz.prog w = .ok (215, v) w := by kernel_rfl
theorem tx_list (v : Value) (w : World) : (method 342 160 v "loop.example/g00124/impl.texts").run Tryz.prog w = .ok (216, v) w := by kernel_rfl
theorem tx_fields (v : Value) (w : World) : (method 342 161 v "loop.example/g00124/impl.texts").run Tryz.prog w = .ok (217, v) w := by kernel_rfl
theorem tx_set (v : Value) (w : World) : (method 342 162 v "loop.example/g00124/impl.texts").run Tryz.prog w = .ok (218, v) w := by kernel_rfl
theorem texts_text (s : ByteArray) (w : World) :
    Calls Tryz.prog 215 #[.string s] w fun e w' => e = .returned (.slice (some ⟨w.heap.size, 0, none⟩) 1 1) ∧ w' = w.alloc (.cells #[.string s] 9) := by
  go_enter Tryz.func215, Tryz.ntmps215
  go_wp2
  go_ret
  exact ⟨rfl, rfl⟩
theorem texts_list (v : Value) (w : World) : Calls Tryz.prog 216 #[v] w fun e w' => e = .returned v ∧ w' = w := by
  go_enter Tryz.func216, Tryz.ntmps216
  go_wp2
  go_ret
  exact ⟨rfl, rfl⟩
theorem texts_fields (v : Value) (w : World) : Calls Tryz.prog 217 #[v] w fun e w' => e = .returned v ∧ w' = w := by
  go_enter Tryz.func217, Tryz.ntmps217
  go_wp2
  go_ret
  exact ⟨rfl, rfl⟩
theorem texts_set (v : Value) (w : World) : Calls Tryz.prog 218 #[v] w fun e w' => e = .returned v ∧ w' = w := by
  go_enter Tryz.func218, Tryz.ntmps218
  go_wp2
  go_ret
  exact ⟨rfl, rfl⟩
theorem implValOk_any (v : ValD) (ao : Option Addr) (cap : Nat) (w : World) (R : Bool) (hR : R = true ↔ ValR v) (hl : v.items.length ≤ 1048576) (ht : v.text.size ≤ maxLen) (hts : TextsAt w ao v.items) (hsz : ∀ s ∈ v.items, s.size ≤ maxLen) :
    Calls Tryz.prog 102 #[.agg #[.int .i64 v.kind, .int .i64 v.til, .string v.text, .slice ao v.items.length cap]] w fun e w' => e = .returned (.bool R) ∧ Below w.heap.size w w' := by
  obtain ⟨k, u, t, ts⟩ := v
  simp only at hl ht hts hsz ⊢
  have HT := hide hts
  have HS := hide hsz
  have HR := hide hR
  clear hts hsz hR
  unfold maxLen at ht
  by_cases h1 : u < 0
  · have h1' : decide (u < 0) = true := by simp; omega
    have hF : R = false := by
      cases R
      · rfl
      · have := (HR.out.1 rfl).1; simp only at this; omega
    subst hF
    go_enter Tryz.func102, Tryz.ntmps102
    go_wp2
    go_ret
    exact ⟨rfl, (Below.refl _ w).alloc (Nat.le_refl _) _⟩
  have h1' : decide (u < 0) = false := by simp; omega
  by_cases h2 : 100000 < u
  · have h2' : decide (100000 < u) = true := by simp; omega
    have hF : R = false := by
      cases R
      · rfl
      · have := (HR.out.1 rfl).2.1; simp only at this; omega
    subst hF
    go_enter Tryz.func102, Tryz.ntmps102
    go_wp2
    go_ret
    exact ⟨rfl, (Below.refl _ w).alloc (Nat.le_refl _) _⟩
  have h2' : decide (100000 < u) = false := by simp; omega
  have HR2 : Hid (R = true ↔ KindR ⟨k, u, t, ts⟩) := by show _ ↔ _; rw [HR.out]; exact ⟨fun h => h.2.2, fun h => ⟨by simp only; omega, by simp only; omega, h⟩⟩
  clear HR
  by_cases hk1 : k = 1
  · subst hk1
    by_cases hn : ts.length = 0
    · obtain rfl := List.eq_nil_of_length_eq_zero hn
      have hn' : ((([] : List ByteArray).length : Int) == 0) = true := rfl
      have hE : TextsR [t] ↔ t.size ≤ 60 := ⟨fun h => h.2.2 t (List.mem_singleton.2 rfl), fun h => ⟨by simp, by simp, fun s hs => by rw [List.mem_singleton.1 hs]; exact h⟩⟩
      have HR3 : Hid (R = true ↔ TextsR [t]) := by
        show _ ↔ _
        rw [HR2.out, hE]
        constructor
        · rintro (h | h | h | h)
          · exact h.2.2
          · exact absurd h.1 (by simp)
          · exact absurd h.1 (by simp)
          · exact absurd h.1 (by simp)
        · exact fun h => .inl ⟨rfl, hn, h⟩
      clear hE HS HT
      have hm := tx_text (.string t)
      go_enter Tryz.func102, Tryz.ntmps102
      go_wp2_with fail
      refine (contentOf_any _ _ _ _ _ _ _).mono ?_
      rintro e w1 ⟨rfl, b1⟩
      have B1 := hide (((Below.refl _ w).alloc (Nat.le_refl _) _).trans (b1.mono (by simp)))
      clear b1
      rw [show contV 1 t ao 0 cap = .iface 159 (.string t) from rfl, show contB 1 t 0 = true from rfl]
      go_wp2_with fail
      refine (texts_text t _).mono ?_
      rintro e w2 ⟨rfl, rfl⟩
      have HA : Hid (TextsAt (w1.alloc (.cells #[.string t] 9)) (some ⟨w1.heap.size, 0, none⟩) [t]) := textsAt_in (heap_alloc_new w1 _) (fun j h _ => by have h0 : j = 0 := (by simpa using h); subst h0; rfl)
      go_wp2_with fail
      refine (textsOk_any [t] _ 1 _ R HR3.out (by unfold maxLen; simp) HA.out (fun s hs => by rw [List.mem_singleton.1 hs]; unfold maxLen; omega)).mono ?_
      rintro e w3 ⟨rfl, rfl⟩
      cases R
      · go_wp2_with fail
        go_ret
        exact ⟨rfl, B1.out.alloc B1.out.size _⟩
      · go_wp2_with fail
        refine (inItsOrder_text t _).mono ?_
        rintro e w4 ⟨rfl, b4⟩
        go_wp2_with fail
        go_ret
        exact ⟨rfl, (B1.out.alloc B1.out.size _).trans (b4.mono (by have := B1.out.size; simp; omega))⟩
    · have hn' : ((ts.length : Int) == 0) = false := by rw [beq_eq_false_iff_ne]; omega
      have hF : R = false := by
        cases R
        · rfl
        · rcases HR2.out.1 rfl with h | h | h | h
          · exact absurd h.2.1 hn
          · exact absurd h.1 (by simp)
          · exact absurd h.1 (by simp)
          · exact absurd h.1 (by simp)
      subst hF
      go_enter Tryz.func102, Tryz.ntmps102
      go_wp2_with fail
      refine (contentOf_any _ _ _ _ _ _ _).mono ?_
      rintro e w1 ⟨rfl, b1⟩
      have B1 := hide (((Below.refl _ w).alloc (Nat.le_refl _) _).trans (b1.mono (by simp)))
      clear b1
      rw [show contV 1 t ao ts.length cap = .iface 159 (.string t) from rfl, show contB 1 t ts.length = ((ts.length : Int) == 0) from rfl, hn']
      go_wp2_with fail
      go_ret
      exact ⟨rfl, B1.out⟩
  by_cases hk2 : k = 2
  · subst hk2
    by_cases hn : t.size = 0
    · have hn' : t.toList.isEmpty = true := by rw [List.isEmpty_iff]; exact List.eq_nil_of_length_eq_zero (by rw [ByteArray.toList_eq, Array.length_toList]; exact hn)
      obtain ⟨R1, HR1⟩ : ∃ R1 : Bool, Hid (R1 = true ↔ TextsR ts) := by classical exact ⟨decide (TextsR ts), by show _ ↔ _; simp⟩
      have HR3 : Hid (R1 = true → R = true) := fun h => HR2.out.2 (.inr (.inl ⟨rfl, hn, HR1.out.1 h⟩))
      have hm := tx_list (.slice ao ts.length cap)
      go_enter Tryz.func102, Tryz.ntmps102
      go_wp2_with fail
      refine (contentOf_any _ _ _ _ _ _ _).mono ?_
      rintro e w1 ⟨rfl, b1⟩
      have B1 := hide (((Below.refl _ w).alloc (Nat.le_refl _) _).trans (b1.mono (by simp)))
      clear b1
      rw [show contV 2 t ao ts.length cap = .iface 160 (.slice ao ts.length cap) from rfl, show contB 2 t ts.length = t.toList.isEmpty from rfl, hn']
      go_wp2_with fail
      refine (texts_list _ _).mono ?_
      rintro e w2 ⟨rfl, rfl⟩
      go_wp2_with fail
      refine (textsOk_any ts ao cap _ R1 HR1.out (by unfold maxLen; omega) (textsAt_keep HT.out B1.out) HS.out).mono ?_
      rintro e w3 ⟨rfl, rfl⟩
      cases R1
      · have hF : Hid (R = false) := by
          show _ = _
          cases R
          · rfl
          · rcases HR2.out.1 rfl with h | h | h | h
            · exact absurd h.1 (by simp)
            · exact absurd (HR1.out.2 h.2.2) (by simp)
            · exact absurd h.1 (by simp)
            · exact absurd h.1 (by simp)
        go_wp2_with fail
        go_ret
        rw [hF.out]
        exact ⟨rfl, B1.out⟩
      · go_wp2_with fail
        refine (inItsOrder_list ts ao cap _).mono ?_
        rintro e w4 ⟨rfl, b4⟩
        go_wp2_with fail
        go_ret
        rw [HR3.out (by trivial)]
        exact ⟨rfl, B1.out.trans (b4.mono B1.out.size)⟩
    · have hn' : t.toList.isEmpty = false := by
        cases h : t.toList.isEmpty
        · rfl
        · rw [List.isEmpty_iff] at h
          have h2 := congrArg List.length h
          rw [ByteArray.toList_eq, Array.length_toList] at h2
          exact absurd h2 hn
      have hF : R = false := by
        cases R
        · rfl
        · rcases HR2.out.1 rfl with h | h | h | h
          · exact absurd h.1 (by simp)
          · exact absurd h.2.1 hn
          · exact absurd h.2.1 hn
          · exact absurd h.2.1 hn
      subst hF
      go_enter Tryz.func102, Tryz.ntmps102
      go_wp2_with fail
      refine (contentOf_any _ _ _ _ _ _ _).mono ?_
      rintro e w1 ⟨rfl, b1⟩
      have B1 := hide (((Below.refl _ w).alloc (Nat.le_refl _) _).trans (b1.mono (by simp)))
      clear b1
      rw [show contV 2 t ao ts.length cap = .iface 160 (.slice ao ts.length cap) from rfl, show contB 2 t ts.length = t.toList.isEmpty from rfl, hn']
      go_wp2_with fail
      go_ret
      exact ⟨rfl, B1.out⟩
  by_cases hk3 : k = 3
  · subst hk3
    by_cases hn : t.size = 0
    · have hn' : t.toList.isEmpty = true := by rw [List.isEmpty_iff]; exact List.eq_nil_of_length_eq_zero (by rw [ByteArray.toList_eq, Array.length_toList]; exact hn)
      obtain ⟨R1, HR1⟩ : ∃ R1 : Bool, Hid (R1 = true ↔ TextsR ts) := by classical exact ⟨decide (TextsR ts), by show _ ↔ _; simp⟩
      have HR3 : Hid (R1 = true → (R = true ↔ (ts.length % 2 = 0 ∧ AscF ts))) := by
        intro h
        rw [HR2.out]
        constructor
        · rintro (h' | h' | h' | h')
          · exact absurd h'.1 (by simp)
          · exact absurd h'.1 (by simp)
          · exact h'.2.2.2
          · exact absurd h'.1 (by simp)
        · exact fun h' => .inr (.inr (.inl ⟨rfl, hn, HR1.out.1 h, h'⟩))
      have hm := tx_fields (.slice ao ts.length cap)
      go_enter Tryz.func102, Tryz.ntmps102
      go_wp2_with fail
      refine (contentOf_any _ _ _ _ _ _ _).mono ?_
      rintro e w1 ⟨rfl, b1⟩
      have B1 := hide (((Below.refl _ w).alloc (Nat.le_refl _) _).trans (b1.mono (by simp)))
      clear b1
      rw [show contV 3 t ao ts.length cap = .iface 161 (.slice ao ts.length cap) from rfl, show contB 3 t ts.length = t.toList.isEmpty from rfl, hn']
      go_wp2_with fail
      refine (texts_fields _ _).mono ?_
      rintro e w2 ⟨rfl, rfl⟩
      go_wp2_with fail
      refine (textsOk_any ts ao cap _ R1 HR1.out (by unfold maxLen; omega) (textsAt_keep HT.out B1.out) HS.out).mono ?_
      rintro e w3 ⟨rfl, rfl⟩
      cases R1
      · have hF : Hid (R = false) := by
          show _ = _
          cases R
          · rfl
          · rcases HR2.out.1 rfl with h | h | h | h
            · exact absurd h.1 (by simp)
            · exact absurd h.1 (by simp)
            · exact absurd (HR1.out.2 h.2.2.1) (by simp)
            · exact absurd h.1 (by simp)
        go_wp2_with fail
        go_ret
        rw [hF.out]
        exact ⟨rfl, B1.out⟩
      · go_wp2_with fail
        refine (inItsOrder_fields ts ao cap _ R (HR3.out (by trivial)) hl (textsAt_keep HT.out B1.out)).mono ?_
        rintro e w4 ⟨rfl, b4⟩
        go_wp2_with fail
        go_ret
        exact ⟨rfl, B1.out.trans (b4.mono B1.out.size)⟩
    · have hn' : t.toList.isEmpty = false := by
        cases h : t.toList.isEmpty
        · rfl
        · rw [List.isEmpty_iff] at h
          have h2 := congrArg List.length h
          rw [ByteArray.toList_eq, Array.length_toList] at h2
          exact absurd h2 hn
      have hF : R = false := by
        cases R
        · rfl
        · rcases HR2.out.1 rfl with h | h | h | h
          · exact absurd h.1 (by simp)
          · exact absurd h.2.1 hn
          · exact absurd h.2.1 hn
          · exact absurd h.2.1 hn
      subst hF
      go_enter Tryz.func102, Tryz.ntmps102
      go_wp2_with fail
      refine (contentOf_any _ _ _ _ _ _ _).mono ?_
      rintro e w1 ⟨rfl, b1⟩
      have B1 := hide (((Below.refl _ w).alloc (Nat.le_refl _) _).trans (b1.mono (by simp)))
      clear b1
      rw [show contV 3 t ao ts.length cap = .iface 161 (.slice ao ts.length cap) from rfl, show contB 3 t ts.length = t.toList.isEmpty from rfl, hn']
      go_wp2_with fail
      go_ret
      exact ⟨rfl, B1.out⟩
  by_cases hk4 : k = 4
  · subst hk4
    by_cases hn : t.size = 0
    · have hn' : t.toList.isEmpty = true := by rw [List.isEmpty_iff]; exact List.eq_nil_of_length_eq_zero (by rw [ByteArray.toList_eq, Array.length_toList]; exact hn)
      obtain ⟨R1, HR1⟩ : ∃ R1 : Bool, Hid (R1 = true ↔ TextsR ts) := by classical exact ⟨decide (TextsR ts), by show _ ↔ _; simp⟩
      have HR3 : Hid (R1 = true → (R = true ↔ Asc ts)) := by
        intro h
        rw [HR2.out]
        constructor
        · rintro (h' | h' | h' | h')
          · exact absurd h'.1 (by simp)
          · exact absurd h'.1 (by simp)
          · exact absurd h'.1 (by simp)
          · exact h'.2.2.2
        · exact fun h' => .inr (.inr (.inr ⟨rfl, hn, HR1.out.1 h, h'⟩))
      have hm := tx_set (.slice ao ts.length cap)
      go_enter Tryz.func102, Tryz.ntmps102
      go_wp2_with fail
      refine (contentOf_any _ _ _ _ _ _ _).mono ?_
      rintro e w1 ⟨rfl, b1⟩
      have B1 := hide (((Below.refl _ w).alloc (Nat.le_refl _) _).trans (b1.mono (by simp)))
      clear b1
      rw [show contV 4 t ao ts.length cap = .iface 162 (.slice ao ts.length cap) from rfl, show contB 4 t ts.length = t.toList.isEmpty from rfl, hn']
      go_wp2_with fail
      refine (texts_set _ _).mono ?_
      rintro e w2 ⟨rfl, rfl⟩
      go_wp2_with fail
      refine (textsOk_any ts ao cap _ R1 HR1.out (by unfold maxLen; omega) (textsAt_keep HT.out B1.out) HS.out).mono ?_
      rintro e w3 ⟨rfl, rfl⟩
      cases R1
      · have hF : Hid (R = false) := by
          show _ = _
          cases R
          · rfl
          · rcases HR2.out.1 rfl with h | h | h | h
            · exact absurd h.1 (by simp)
            · exact absurd h.1 (by simp)
            · exact absurd h.1 (by simp)
            · exact absurd (HR1.out.2 h.2.2.1) (by simp)
        go_wp2_with fail
        go_ret
        rw [hF.out]
        exact ⟨rfl, B1.out⟩
      · go_wp2_with fail
        refine (inItsOrder_set ts ao cap _ R (HR3.out (by trivial)) (by unfold maxLen; omega) (textsAt_keep HT.out B1.out)).mono ?_
        rintro e w4 ⟨rfl, b4⟩
        go_wp2_with fail
        go_ret
        exact ⟨rfl, B1.out.trans (b4.mono B1.out.size)⟩
    · have hn' : t.toList.isEmpty = false := by
        cases h : t.toList.isEmpty
        · rfl
        · rw [List.isEmpty_iff] at h
          have h2 := congrArg List.length h
          rw [ByteArray.toList_eq, Array.length_toList] at h2
          exact absurd h2 hn
      have hF : R = false := by
        cases R
        · rfl
        · rcases HR2.out.1 rfl with h | h | h | h
          · exact absurd h.1 (by simp)
          · exact absurd h.2.1 hn
          · exact absurd h.2.1 hn
          · exact absurd h.2.1 hn
      subst hF
      go_enter Tryz.func102, Tryz.ntmps102
      go_wp2_with fail
      refine (contentOf_any _ _ _ _ _ _ _).mono ?_
      rintro e w1 ⟨rfl, b1⟩
      have B1 := hide (((Below.refl _ w).alloc (Nat.le_refl _) _).trans (b1.mono (by simp)))
      clear b1
      rw [show contV 4 t ao ts.length cap = .iface 162 (.slice ao ts.length cap) from rfl, show contB 4 t ts.length = t.toList.isEmpty from rfl, hn']
      go_wp2_with fail
      go_ret
      exact ⟨rfl, B1.out⟩
  · have hF : R = false := by
      cases R
      · rfl
      · rcases HR2.out.1 rfl with h | h | h | h
        · exact absurd h.1 hk1
        · exact absurd h.1 hk2
        · exact absurd h.1 hk3
        · exact absurd h.1 hk4
    subst hF
    go_enter Tryz.func102, Tryz.ntmps102
    go_wp2_with fail
    refine (contentOf_any _ _ _ _ _ _ _).mono ?_
    rintro e w1 ⟨rfl, b1⟩
    have B1 := hide (((Below.refl _ w).alloc (Nat.le_refl _) _).trans (b1.mono (by simp)))
    clear b1
    rw [show contB k t ts.length = false from by simp [contB, hk1, hk2, hk3, hk4]]
    generalize contV k t ao ts.length cap = X
    go_wp2_with fail
    go_ret
    exact ⟨rfl, B1.out⟩
end Go.Proofs.YtifjneldjjmeaaaGreatDoor
