import Derived.OwnWalk
import Derived.Laws.StructEq
import Derived.Lib.SmallJoins
import Derived.OpenShut
import Derived.Deep.RegionHeld3
import Derived.BigQuiet
import Derived.LaidEql
import Derived.Test.YtifjneldjjmeaaaGreatDoorLs7
import Derived.Test.YtifjneldjjmeaaaGreatDoorLs0
import Derived.Test.YtifjneldjjmeaaaGreatDoorLs6
import Derived.Test.YtifjneldjjmeaaaGreatDoorLs5
set_option maxRecDepth 100000
set_option maxHeartbeats 4000000
namespace Go.Proofs.YtifjneldjjmeaaaGreatDoor
open Go.RowKit
theorem flat_cut (m : Nat) : ∀ (L : List (Array Value)) (k : Nat) (h : k < L.length), (∀ v ∈ L, v.size = m) → ((L.map Array.toList).flatten.drop (k * m)).take m = (L[k]'h).toList
  | v :: L, 0, _, hv => by
    have := hv v List.mem_cons_self
    simp [this]
  | v :: L, k + 1, h, hv => by
    have h1 := hv v List.mem_cons_self
    have h2 := flat_cut m L k (by simpa using h) (fun x hx => hv x (List.mem_cons_of_mem _ hx))
    rw [List.map_cons, List.flatten_cons, List.drop_append, List.drop_of_length_le (by rw [Array.length_toList, h1, Nat.succ_mul]; omega), List.nil_append, Array.length_toList, h1, Nat.succ_mul, Nat.add_sub_cancel]
    simpa using h2
theorem allV_len : allV.length = 41 := by unfold allV; rw [List.length_map]; rfl
theorem allV_get (k : Nat) (h : k < 41) : ∃ (s : ByteArray) (a b : Int), cmdsL[k]? = some s ∧ cmdsK[k]? = some (a, b) ∧ allV[k]'(by rw [allV_len]; exact h) = cmdC s a b := by
  have h1 : k < cmdsL.length := h
  have h2 : k < cmdsK.length := h
  refine ⟨cmdsL[k], (cmdsK[k]).1, (cmdsK[k]).2, List.getElem?_eq_getElem h1, List.getElem?_eq_getElem h2, ?_⟩
  simp [allV]
  rfl
theorem all_index (k : Nat) (h : k < 41) (s : ByteArray) (a b : Int) (he : allV[k]'(by rw [allV_len]; exact h) = cmdC s a b) :
    ∀ W : World, (Instr.index 152 (.agg allC) (.int .i64 (k : Int))).run Tryz.prog W = .ok (.agg (cmdC s a b)) W := by
  intro W
  have hm : ∀ v ∈ allV, v.size = 11 := by
    intro v hv
    simp only [allV, List.mem_map] at hv
    obtain ⟨x, _, rfl⟩ := hv
    exact cmdC_size _ _ _
  have hc : allC.extract (k * 11) (k * 11 + 11) = cmdC s a b := by
    have h1 := flat_cut 11 allV k (by rw [allV_len]; exact h) hm
    rw [he] at h1
    apply Array.toList_inj.1
    rw [Array.toList_extract, ← h1]
    simp [allC, List.extract_eq_take_drop]
  have hs : (Tryz.prog.info? 129).map (·.size) = some 11 := Tryz.infoCmd
  cases hq : Tryz.prog.info? 129 with
  | none => simp [hq] at hs
  | some i =>
    have hi : i.size = 11 := by simpa [hq] using hs
    have hk : (0 : Int) ≤ (k : Int) ∧ (k : Int) < ((41 : Nat) : Int) := by omega
    simp [Instr.index, asIntOf, run_underlying Tryz.underlying152, run_underlying Tryz.underlying129, part, isAgg, sizeOf, typeInfo, hq, hi, hc]
    omega
theorem run_load_part {P : Program} (w : World) (g : Nat) (t ty : TypeId) (cs rest : Array Value) (fr : Nat × Nat) (d : TypeDesc) (hg : w.heap[g]? = some (.cells (cs ++ rest) t fr))
    (hu : P.underlying ty = some d) (hd : (match d with | .struct _ | .array _ _ => true | _ => false) = true) (hi : (P.info? ty).map (·.size) = some cs.size) :
    (loadVar ty ⟨g, 0, none⟩).run P w = .ok (.agg cs) w := by
  have hl : (loadCells ⟨g, 0, none⟩ cs.toList.length).run P w = .ok cs.toList.toArray w :=
    run_loadCells_list (P := P) w ⟨g, 0, none⟩ cs.toList (fun j v hv => by
      have hadd : (⟨g, 0, none⟩ : Addr).add j = ⟨g, j, none⟩ := by unfold Addr.add; split <;> simp_all
      rw [hadd, cell_of_row w g j (cs ++ rest) t fr hg]
      have hj : j < cs.size := by
        have := (List.getElem?_eq_some_iff.1 hv).1
        simpa using this
      rw [Array.getElem?_append_left hj]
      simpa using hv)
  cases hq : P.info? ty with
  | none => simp [hq] at hi
  | some i =>
    have hs : i.size = cs.size := by simpa [hq] using hi
    have hagg : (isAgg ty).run P w = .ok true w := by
      unfold isAgg
      rw [Sem.run_bind, run_underlying hu w]
      cases d <;> simp_all
    simp only [Array.length_toList, Array.toArray_toList] at hl
    simp [loadVar, Sem.run_bind, hagg, sizeOf, typeInfo, hq, hs, hl]
theorem wpList_load_part {P : Program} {ops : Array Oper} {rest : List Oper} {o : Oper} {a : Act} {w : World} {Q : Exit → Act → World → Prop} (hgd : o.guard = none) (ty : TypeId) (x : Operand) (ho : o.op = .load ty x)
    (g : Nat) (hx : a.eval x = .pointer (some ⟨g, 0, none⟩)) (t : TypeId) (cs rs : Array Value) (fr : Nat × Nat) (d : TypeDesc) (hg : w.heap[g]? = some (.cells (cs ++ rs) t fr))
    (hu : P.underlying ty = some d) (hd : (match d with | .struct _ | .array _ _ => true | _ => false) = true) (hi : (P.info? ty).map (·.size) = some cs.size)
    (h : wpList P ops Q rest (a.put o.dst (.agg cs)) w) : wpList P ops Q (o :: rest) a w := by
  refine wpList_plain hgd fun K hK => ?_
  unfold Oper.wp execOp
  simp only [ho, hx, Instr.loadAt, Instr.sureAddr, Sem.run_bind, Sem.run_pure, Result.andThen_ok, run_load_part w g t ty cs rs fr d hg hu hd hi]
  exact hK _ _ h
theorem cmd_name {s : ByteArray} {k : Nat} (h : cmdsL[k]? = some s) : s ∈ cmdsL := List.mem_of_getElem? h
def CBox (W : World) (g : Nat) (s : ByteArray) (a b : Int) : Prop := W.heap[g]? = some (.cells (nmC s ++ #[.int .i64 a, .int .i64 b]) 129 (0, 0))
def zeroC : Array Value := #[.int .u8 0, .int .u8 0, .int .u8 0, .int .u8 0, .int .u8 0, .int .u8 0, .int .u8 0, .int .u8 0, .int .u8 0, .int .i64 0, .int .i64 0]
theorem cbox_new (W : World) (s : ByteArray) (a b : Int) : CBox ((W.alloc (.cells zeroC 129)).setRow W.heap.size (cmdC s a b)) W.heap.size s a b := setRow_new _ _ _ _ _ (heap_alloc_new W _)
theorem cbox_below {B : Nat} {w W : World} (hb : Below B w W) (hB : B ≤ W.heap.size) (s : ByteArray) (a b : Int) : Below B w ((W.alloc (.cells zeroC 129)).setRow W.heap.size (cmdC s a b)) :=
  below_setRow (hb.alloc hB _) hB _
theorem nine_bytes (l : List UInt8) (h : l.length = 9) : ∃ a b c d e f g i j, l = [a, b, c, d, e, f, g, i, j] := by
  match l, h with
  | [a, b, c, d, e, f, g, i, j], _ => exact ⟨a, b, c, d, e, f, g, i, j, rfl⟩
theorem eq_one (d : Nat) (a b : UInt8) (w : World) : (Op.equalIn (d + 1) 5 (b8 a) (b8 b)).run Tryz.prog w = .ok (decide (a = b)) w := by
  unfold b8
  rw [run_equalIn_int (P := Tryz.prog) w d 5 .u8 .u8 _ _ Tryz.underlying5]
  congr 1
  by_cases h : a = b
  · subst h
    simp
  · rw [decide_eq_false h, beq_eq_false_iff_ne]
    intro e
    exact h (UInt8.toNat_inj.1 (by omega))
theorem eq_nine (d : Nat) (he : ∀ (a b : UInt8) (w : World), (Op.equalIn d 5 (b8 a) (b8 b)).run Tryz.prog w = .ok (decide (a = b)) w) (w : World) (a0 a1 a2 a3 a4 a5 a6 a7 a8 b0 b1 b2 b3 b4 b5 b6 b7 b9 : UInt8) :
    (Op.equalIn (d + 1) 125 (.agg #[b8 a0, b8 a1, b8 a2, b8 a3, b8 a4, b8 a5, b8 a6, b8 a7, b8 a8]) (.agg #[b8 b0, b8 b1, b8 b2, b8 b3, b8 b4, b8 b5, b8 b6, b8 b7, b8 b9])).run Tryz.prog w = .ok (decide ([a0, a1, a2, a3, a4, a5, a6, a7, a8] = [b0, b1, b2, b3, b4, b5, b6, b7, b9])) w := by
  have hs : (Tryz.prog.info? 5).map (·.size) = some 1 := Tryz.infoBy
  cases hq : Tryz.prog.info? 5 with
  | none => simp [hq] at hs
  | some i =>
    have hi : i.size = 1 := by simpa [hq] using hs
    have hp : ∀ (cs : Array Value) (k : Nat) (v : Value) (w : World), cs[k]? = some v → (part 5 cs k).run Tryz.prog w = .ok v w := by
      intro cs k v w h
      simp [part, isAgg, run_underlying Tryz.underlying5, h]
    have p0 : ∀ (x0 x1 x2 x3 x4 x5 x6 x7 x8 : Value) (w : World), (part 5 #[x0, x1, x2, x3, x4, x5, x6, x7, x8] 0).run Tryz.prog w = .ok x0 w := fun _ _ _ _ _ _ _ _ _ _ => hp _ _ _ _ rfl
    have p1 : ∀ (x0 x1 x2 x3 x4 x5 x6 x7 x8 : Value) (w : World), (part 5 #[x0, x1, x2, x3, x4, x5, x6, x7, x8] 1).run Tryz.prog w = .ok x1 w := fun _ _ _ _ _ _ _ _ _ _ => hp _ _ _ _ rfl
    have p2 : ∀ (x0 x1 x2 x3 x4 x5 x6 x7 x8 : Value) (w : World), (part 5 #[x0, x1, x2, x3, x4, x5, x6, x7, x8] 2).run Tryz.prog w = .ok x2 w := fun _ _ _ _ _ _ _ _ _ _ => hp _ _ _ _ rfl
    have p3 : ∀ (x0 x1 x2 x3 x4 x5 x6 x7 x8 : Value) (w : World), (part 5 #[x0, x1, x2, x3, x4, x5, x6, x7, x8] 3).run Tryz.prog w = .ok x3 w := fun _ _ _ _ _ _ _ _ _ _ => hp _ _ _ _ rfl
    have p4 : ∀ (x0 x1 x2 x3 x4 x5 x6 x7 x8 : Value) (w : World), (part 5 #[x0, x1, x2, x3, x4, x5, x6, x7, x8] 4).run Tryz.prog w = .ok x4 w := fun _ _ _ _ _ _ _ _ _ _ => hp _ _ _ _ rfl
    have p5 : ∀ (x0 x1 x2 x3 x4 x5 x6 x7 x8 : Value) (w : World), (part 5 #[x0, x1, x2, x3, x4, x5, x6, x7, x8] 5).run Tryz.prog w = .ok x5 w := fun _ _ _ _ _ _ _ _ _ _ => hp _ _ _ _ rfl
    have p6 : ∀ (x0 x1 x2 x3 x4 x5 x6 x7 x8 : Value) (w : World), (part 5 #[x0, x1, x2, x3, x4, x5, x6, x7, x8] 6).run Tryz.prog w = .ok x6 w := fun _ _ _ _ _ _ _ _ _ _ => hp _ _ _ _ rfl
    have p7 : ∀ (x0 x1 x2 x3 x4 x5 x6 x7 x8 : Value) (w : World), (part 5 #[x0, x1, x2, x3, x4, x5, x6, x7, x8] 7).run Tryz.prog w = .ok x7 w := fun _ _ _ _ _ _ _ _ _ _ => hp _ _ _ _ rfl
    have p8 : ∀ (x0 x1 x2 x3 x4 x5 x6 x7 x8 : Value) (w : World), (part 5 #[x0, x1, x2, x3, x4, x5, x6, x7, x8] 8).run Tryz.prog w = .ok x8 w := fun _ _ _ _ _ _ _ _ _ _ => hp _ _ _ _ rfl
    simp [Op.equalIn, run_underlying Tryz.underlying125, sizeOf, typeInfo, hq, hi]
    simp [List.range', Sem.run_bind, p0, p1, p2, p3, p4, p5, p6, p7, p8, he]
    by_cases h0 : a0 = b0
    · by_cases h1 : a1 = b1
      · by_cases h2 : a2 = b2
        · by_cases h3 : a3 = b3
          · by_cases h4 : a4 = b4
            · by_cases h5 : a5 = b5
              · by_cases h6 : a6 = b6
                · by_cases h7 : a7 = b7
                  · by_cases h8 : a8 = b9
                    · simp [h0, h1, h2, h3, h4, h5, h6, h7, h8]
                    · simp [h0, h1, h2, h3, h4, h5, h6, h7, h8]
                  · simp [h0, h1, h2, h3, h4, h5, h6, h7]
                · simp [h0, h1, h2, h3, h4, h5, h6]
              · simp [h0, h1, h2, h3, h4, h5]
            · simp [h0, h1, h2, h3, h4]
          · simp [h0, h1, h2, h3]
        · simp [h0, h1, h2]
      · simp [h0, h1]
    · simp [h0]
theorem eql_names (s t : ByteArray) (w : World) : (binOp .eql 125 (.agg (nmC s)) (.agg (nmC t))).run Tryz.prog w = .ok (.bool (decide (padN s = padN t))) w := by
  obtain ⟨a0, a1, a2, a3, a4, a5, a6, a7, a8, ha⟩ := nine_bytes _ (padN_length s)
  obtain ⟨b0, b1, b2, b3, b4, b5, b6, b7, b9, hb⟩ := nine_bytes _ (padN_length t)
  rw [run_eql_struct]
  unfold nmC
  rw [ha, hb]
  have := eq_nine 9999 (eq_one 9998) w a0 a1 a2 a3 a4 a5 a6 a7 a8 b0 b1 b2 b3 b4 b5 b6 b7 b9
  rw [show (10000 : Nat) = 9999 + 1 from rfl]
  simp only [List.map_cons, List.map_nil]
  rw [this]
  rfl
theorem names_same {s X : ByteArray} (hs : s ∈ cmdsL) (hX : nmT X = X) : decide (padN s = padN X) = decide (s = X) := by
  have h := nmC_eq hX hs
  by_cases e : s = X
  · rw [e]
    simp
  · rw [decide_eq_false e, decide_eq_false]
    intro h2
    exact e (h.1 (by unfold nmC; rw [h2]))
theorem implUpper_any (s : ByteArray) (w : World) (hz : s.size ≤ 1048576) : Calls Tryz.prog 66 #[.string s] w fun e w' => e = .returned (.string ⟨(s.data.toList.map upB).toArray⟩) ∧ Below w.heap.size w w' := by
  obtain ⟨W1, C1, hcv, hB1, hs1, hnew⟩ := bytesIs_made (P := Tryz.prog) w 9 22 5 s Tryz.underlying9 Tryz.underlying22 Tryz.underlying5
  have HN := hide hnew
  have HB := hide hB1
  have HS := hide hs1
  have hl : s.data.toList.length = s.size := Array.length_toList
  have HL := hide hl
  generalize s.data.toList = l at HN HL ⊢
  clear hnew hB1 hs1 hl
  go_enter Tryz.func66, Tryz.ntmps66
  go_wp2
  go_loopw [10] (fun i wr => ∃ k : Nat, k ≤ s.size ∧ i = .int .i64 k ∧ Hid (BytesIs wr w.heap.size (upTo l k)) ∧ Hid (Below w.heap.size w wr)) (fun i _ => s.size - (intOf i).toNat)
  case atStart => exact ⟨0, Nat.zero_le _, rfl, by rw [upTo_zero]; exact HN, HB⟩
  case round =>
    obtain ⟨k, hk, rfl, HR, HB2⟩ := hrel
    by_cases hlt : k < s.size
    · have hkl : k < l.length := by rw [HL.out]; exact hlt
      obtain ⟨c, hC, hc256, hcell, hfr⟩ : ∃ c : Nat, Hid (l[k].toNat = c) ∧ c < 256 ∧ wr.cell? ⟨w.heap.size, k, none⟩ = some (.int .u8 (c : Int)) ∧ wr.frozen? ⟨w.heap.size, k, none⟩ = false := by
        have h := HR.out k (by rw [upTo_length]; exact hkl)
        rw [upTo_get l k hkl] at h
        exact ⟨_, hide rfl, UInt8.toNat_lt _, h.1, h.2⟩
      have hi0 : (0 : Int) ≤ (k : Int) := by omega
      have hi1 : (k : Int) < (s.size : Int) := by omega
      by_cases h1 : 97 ≤ c ∧ c ≤ 122
      · obtain ⟨h1, h2⟩ := h1
        have h1' : decide (97 ≤ (c : Int)) = true := by simp; omega
        have h2' : decide ((c : Int) ≤ 122) = true := by simp; omega
        have hw0 : IntKind.u8.wrap ((c : Int) - 97) = ((c : Int) - 97) := by simp [IntKind.wrap, IntKind.signed, IntKind.bits]; omega
        have hw : IntKind.u8.wrap ((c : Int) - 97 + 65) = ((c - 32 : Nat) : Int) := by simp [IntKind.wrap, IntKind.signed, IntKind.bits]; omega
        have HU := hide (bytesIs_put HR.out k (by rw [upTo_length]; exact hkl) (upB l[k]))
        rw [upTo_next l k hkl, upB_yes hC.out h1 h2] at HU
        have HB3 := hide (HB2.out.setCell (p := ⟨w.heap.size, k, none⟩) (Nat.le_refl _) (.int .u8 ((c - 32 : Nat) : Int)))
        go_wp2
        go_roundw
        case rel => exact ⟨k + 1, by omega, by go_num, HU, HB3⟩
        case measure => simp [intOf]; omega
      · have HU := HR
        rw [upTo_same l k hkl (by rw [hC.out]; exact h1)] at HU
        have h1' : (decide (97 ≤ (c : Int)) && decide ((c : Int) ≤ 122)) = false := by simp; omega
        by_cases h2 : 97 ≤ c
        · have h2' : decide (97 ≤ (c : Int)) = true := by simp; omega
          have h3' : decide ((c : Int) ≤ 122) = false := by simp; omega
          go_wp2
          go_roundw
          case rel => exact ⟨k + 1, by omega, by go_num, HU, HB2⟩
          case measure => simp [intOf]; omega
        · have h2' : decide (97 ≤ (c : Int)) = false := by simp; omega
          go_wp2
          go_roundw
          case rel => exact ⟨k + 1, by omega, by go_num, HU, HB2⟩
          case measure => simp [intOf]; omega
    · have hkk : k = s.size := by omega
      have HU := HR
      rw [hkk, ← HL.out, upTo_all] at HU
      have hback := bytesIs_back (P := Tryz.prog) wr 22 9 5 w.heap.size s.size C1 _ (by rw [List.length_map]; exact HL.out) Tryz.underlying22 Tryz.underlying5 Tryz.underlying9 HU.out
      go_wp2
      go_ret
      exact ⟨rfl, HB2.out⟩
def inB (ts : List ByteArray) (x : ByteArray) : Bool := ts.any fun t => decide (t = x)
theorem inB_iff (ts : List ByteArray) (x : ByteArray) : inB ts x = true ↔ x ∈ ts := by
  unfold inB
  rw [List.any_eq_true]
  constructor
  · rintro ⟨t, ht, he⟩
    exact of_decide_eq_true he ▸ ht
  · intro h
    exact ⟨x, h, decide_eq_true rfl⟩
def upT (s : ByteArray) : ByteArray := ⟨(s.data.toList.map upB).toArray⟩
def takes0 : List ByteArray := [⟨#[80, 73, 78, 71]⟩, ⟨#[75, 69, 89, 83]⟩, ⟨#[68, 66, 83, 73, 90, 69]⟩, ⟨#[70, 76, 85, 83, 72, 65, 76, 76]⟩]
def takes2 : List ByteArray := [⟨#[83, 69, 84]⟩, ⟨#[83, 69, 84, 78, 88]⟩, ⟨#[71, 69, 84, 83, 69, 84]⟩, ⟨#[65, 80, 80, 69, 78, 68]⟩, ⟨#[73, 78, 67, 82, 66, 89]⟩, ⟨#[68, 69, 67, 82, 66, 89]⟩, ⟨#[69, 88, 80, 73, 82, 69]⟩, ⟨#[76, 73, 78, 68, 69, 88]⟩, ⟨#[72, 71, 69, 84]⟩, ⟨#[83, 73, 83, 77, 69, 77, 66, 69, 82]⟩]
def takes3 : List ByteArray := [⟨#[76, 82, 65, 78, 71, 69]⟩, ⟨#[72, 83, 69, 84]⟩]
def takes4 : List ByteArray := [⟨#[77, 71, 69, 84]⟩, ⟨#[68, 69, 76]⟩, ⟨#[69, 88, 73, 83, 84, 83]⟩]
def takes5 : List ByteArray := [⟨#[76, 80, 85, 83, 72]⟩, ⟨#[82, 80, 85, 83, 72]⟩, ⟨#[72, 68, 69, 76]⟩, ⟨#[83, 65, 68, 68]⟩, ⟨#[83, 82, 69, 77]⟩]
def msetT : ByteArray := ⟨#[77, 83, 69, 84]⟩
def kindS (x : ByteArray) : Int := if inB takes0 x then 0 else if inB takes2 x then 2 else if inB takes3 x then 3 else if inB takes4 x then 4 else if inB takes5 x then 5 else if x = msetT then 6 else 1
def takesK (k : Int) (n : Int) : Bool := if k = 4 then decide (1 ≤ n) else if k = 5 then decide (2 ≤ n) else if k = 6 then (n == 2 || n == 4 || n == 6) else (n == k)
def knownS (ts : List ByteArray) : Bool := match ts with | [] => false | x :: _ => inB cmdsL (upT x)
def okS (ts : List ByteArray) : Bool := match ts with | [] => false | x :: r => inB cmdsL (upT x) && takesK (kindS (upT x)) (r.length : Int)
theorem kinds_alike : ∀ p ∈ cmdsL.zip cmdsK, kindS p.1 = p.2.1 := by decide +kernel
theorem textsAt_lit (W : World) (L : List ByteArray) : TextsAt (W.alloc (.cells (L.map Value.string).toArray 9)) (some ⟨W.heap.size, 0, none⟩) L := by
  refine textsAt_in (heap_alloc_new W _) ?_
  intro j hj _
  simp [hj]
def readsL : List ByteArray := [⟨#[80, 73, 78, 71]⟩, ⟨#[69, 67, 72, 79]⟩, ⟨#[71, 69, 84]⟩, ⟨#[83, 84, 82, 76, 69, 78]⟩, ⟨#[77, 71, 69, 84]⟩, ⟨#[69, 88, 73, 83, 84, 83]⟩, ⟨#[84, 89, 80, 69]⟩, ⟨#[84, 84, 76]⟩, ⟨#[75, 69, 89, 83]⟩, ⟨#[68, 66, 83, 73, 90, 69]⟩, ⟨#[76, 76, 69, 78]⟩, ⟨#[76, 82, 65, 78, 71, 69]⟩, ⟨#[76, 73, 78, 68, 69, 88]⟩, ⟨#[72, 71, 69, 84]⟩, ⟨#[72, 76, 69, 78]⟩, ⟨#[72, 71, 69, 84, 65, 76, 76]⟩, ⟨#[72, 75, 69, 89, 83]⟩, ⟨#[83, 73, 83, 77, 69, 77, 66, 69, 82]⟩, ⟨#[83, 67, 65, 82, 68]⟩, ⟨#[83, 77, 69, 77, 66, 69, 82, 83]⟩]
def writesS (ts : List ByteArray) : Bool := match ts with | [] => false | x :: _ => inB cmdsL (upT x) && !inB readsL (upT x)
def effS (x : ByteArray) : Int := if inB readsL x then 0 else 1
theorem effs_alike : ∀ p ∈ cmdsL.zip cmdsK, effS p.1 = p.2.2 := by decide +kernel
theorem Tryz.guardNm : Tryz.prog.eqGuardType Tryz.prog.depth 125 = false := by kernel_rfl
theorem Tryz.cmdRes : (Tryz.f105).results = #[.cell 2 129, .tmp 3] := rfl
def cmdR (ts : List ByteArray) : Array Value := match ts with | [] => zeroC | x :: _ => if inB cmdsL (upT x) then cmdC (upT x) (kindS (upT x)) (effS (upT x)) else zeroC
theorem zeroC_one : zeroC.all (·.oneCell') = true := by
  rw [Array.all_eq_true_iff_forall_mem]
  intro v hv
  simp [zeroC] at hv
  rcases hv with rfl | rfl <;> rfl
theorem cmd_results (tmps : Array Value) (w : World) (g : Nat) (cs : Array Value) (v : Value) (hp : tmps.getD 2 undef = .pointer (some ⟨g, 0, none⟩)) (hg : w.heap[g]? = some (.cells cs 129 (0, 0))) (hcs : cs.size = 11) (hv : tmps.getD 3 undef = v) :
    (results Tryz.f105 tmps).run Tryz.prog w = .ok (.tuple #[.agg cs, v]) w := by
  rw [results_cell_tmp Tryz.cmdRes, hp, hv]
  have := run_loadVar_row (P := Tryz.prog) w g 129 129 cs (0, 0) _ hg Tryz.underlying129 rfl (Tryz.infoCmd.trans (by rw [hcs]))
  simp [asAddr, this]
def RBox (w W : World) (cs : Array Value) : Prop := W.heap[w.heap.size]? = some (.cells cs 129 (0, 0)) ∧ Below w.heap.size w W
theorem rbox_new (w : World) : RBox w (w.alloc (.cells zeroC 129)) zeroC := ⟨heap_alloc_new w _, (Below.refl _ _).alloc (Nat.le_refl _) _⟩
theorem rbox_on {w W W' : World} {cs : Array Value} (h : RBox w W cs) (b : Below W.heap.size W W') : RBox w W' cs :=
  ⟨(b.block _ (Array.getElem?_eq_some_iff.1 h.1).1).trans h.1, h.2.trans (b.mono h.2.size)⟩
theorem rbox_put {w W : World} {cs : Array Value} (h : RBox w W cs) (cs2 : Array Value) : RBox w (W.setRow w.heap.size cs2) cs2 :=
  ⟨setRow_new _ _ _ _ _ h.1, below_setRow h.2 (Nat.le_refl _) _⟩
theorem not_in {X : ByteArray} (h : ∀ j, j < 41 → cmdsL[j]? ≠ some X) : inB cmdsL X = false := by
  cases hb : inB cmdsL X with
  | false => rfl
  | true =>
    obtain ⟨j, hj, e⟩ := List.mem_iff_getElem.1 ((inB_iff _ _).1 hb)
    exact absurd ((List.getElem?_eq_getElem hj).trans (congrArg some e)) (h j hj)
theorem not_told {X : ByteArray} (h : nmT X ≠ X) : inB cmdsL X = false := by
  cases hb : inB cmdsL X with
  | false => rfl
  | true => exact absurd (cmds_told X ((inB_iff _ _).1 hb)) h
theorem pair_of {k : Nat} {s : ByteArray} {a b : Int} (h1 : cmdsL[k]? = some s) (h2 : cmdsK[k]? = some (a, b)) : (s, (a, b)) ∈ cmdsL.zip cmdsK := by
  refine List.mem_of_getElem? (i := k) ?_
  rw [List.getElem?_zip_eq_some]
  exact ⟨h1, h2⟩
def PBox (w W : World) (n : Nat) (X : ByteArray) : Prop := RBox w W zeroC ∧ W.heap[n]? = some (.cells (nmC X) 125 (0, 0)) ∧ w.heap.size ≤ n
theorem pbox_on {w W W' : World} {n : Nat} {X : ByteArray} (h : PBox w W n X) (b : Below W.heap.size W W') : PBox w W' n X :=
  ⟨rbox_on h.1 b, (b.block _ (Array.getElem?_eq_some_iff.1 h.2.1).1).trans h.2.1, h.2.2⟩
def zero9 : Array Value := #[.int .u8 0, .int .u8 0, .int .u8 0, .int .u8 0, .int .u8 0, .int .u8 0, .int .u8 0, .int .u8 0, .int .u8 0]
theorem pbox_new {w W : World} (X : ByteArray) (h : RBox w W zeroC) : PBox w ((W.alloc (.cells zero9 125)).setRow W.heap.size (nmC X)) W.heap.size X := by
  have hb : Below W.heap.size W ((W.alloc (.cells zero9 125)).setRow W.heap.size (nmC X)) := below_setRow ((Below.refl _ _).alloc (Nat.le_refl _) _) (Nat.le_refl _) _
  exact ⟨rbox_on h hb, setRow_new _ _ _ _ _ (heap_alloc_new W _), h.2.size⟩
theorem commandOf_nil (cap : Nat) (ao : Option Addr) (w : World) : Calls Tryz.prog 105 #[.slice ao 0 cap] w fun e w' => e = .returned (.tuple #[.agg zeroC, .bool false]) ∧ Below w.heap.size w w' := by
  have RB := hide (rbox_new w)
  go_enter Tryz.func105, Tryz.ntmps105
  go_wp2_with (refine wpList_store_row rfl 129 _ _ rfl w.heap.size zeroC rfl rfl 129 _ RB.out.1 Tryz.infoCmd rfl zeroC_one ?_)
  exact bodyPost_ret (v := .tuple #[.agg zeroC, .bool false]) (cmd_results _ _ w.heap.size zeroC _ rfl (rbox_put RB.out zeroC).1 rfl rfl) rfl ⟨rfl, (rbox_put RB.out zeroC).2⟩
theorem commandOf_cons (x : ByteArray) (r : List ByteArray) (ao : Option Addr) (cap : Nat) (w : World) (hl : r.length ≤ 1048575) (hts : TextsAt w ao (x :: r)) (hz : x.size ≤ 1048576) :
    Calls Tryz.prog 105 #[.slice ao (r.length + 1) cap] w fun e w' => e = .returned (.tuple #[.agg (cmdR (x :: r)), .bool (knownS (x :: r))]) ∧ Below w.heap.size w w' := by
  obtain ⟨b, off, rfl, hb, hcell⟩ := hts 0 (by simp)
  rw [Nat.add_zero] at hcell
  have hcell : w.cell? ⟨b, off, none⟩ = some (.string x) := hcell
  have HC := hide hcell
  have KS : Hid (∀ W, Below w.heap.size w W → W.cell? ⟨b, off, none⟩ = some (.string x)) := fun W hW => (hW.cell (p := ⟨b, off, none⟩) hb).trans HC.out
  have SU := hide (fun W => implUpper_any x W hz)
  have h0 : (((r.length : Nat) : Int) + 1 == 0) = false := by rw [beq_eq_false_iff_ne]; omega
  obtain ⟨X, HX⟩ : ∃ X, Hid (upT x = X) := ⟨_, rfl⟩
  have e0 : (⟨(x.data.toList.map upB).toArray⟩ : ByteArray) = X := HX.out
  rw [e0] at SU
  have HR : Hid (cmdR (x :: r) = if inB cmdsL X then cmdC X (kindS X) (effS X) else zeroC) := by
    show (if inB cmdsL (upT x) then cmdC (upT x) (kindS (upT x)) (effS (upT x)) else zeroC) = _
    rw [HX.out]
  have HK : Hid (knownS (x :: r) = inB cmdsL X) := by
    show inB cmdsL (upT x) = _
    rw [HX.out]
  generalize cmdR (x :: r) = R at HR ⊢
  generalize knownS (x :: r) = K at HK ⊢
  have RB := hide (rbox_new w)
  have hc1 := fun o => KS.out _ ((Below.refl _ _).alloc (Nat.le_refl _) o)
  clear hts e0
  go_enter Tryz.func105, Tryz.ntmps105
  go_wp2_with fail
  refine (SU.out _).mono ?_
  rintro e w1 ⟨rfl, b1⟩
  have RB1 := hide (rbox_on RB.out b1)
  clear b1 RB SU
  go_wp2_with fail
  refine (nmOf_any X _).mono ?_
  rintro e w2 ⟨rfl, b2⟩
  have RB2 := hide (rbox_on RB1.out b2)
  have PB := hide (pbox_new X RB2.out)
  clear b2 RB1
  go_wp2_with (first | refine wpList_store_row rfl 125 _ _ rfl w2.heap.size (nmC X) rfl rfl 125 _ (heap_alloc_new w2 (.cells zero9 125)) (Tryz.infoNm.trans (by rw [nmC_size])) (by rw [nmC_size]; rfl) (nmC_one X) ?_ | refine wpList_load_row rfl 125 _ rfl w2.heap.size rfl 125 _ (0, 0) _ PB.out.2.1 Tryz.underlying125 rfl (Tryz.infoNm.trans (by rw [nmC_size])) ?_)
  refine (nmText_any X _).mono ?_
  rintro e w3 ⟨rfl, b3⟩
  have P3 := hide (pbox_on PB.out b3)
  clear b3 PB RB2
  by_cases hT : nmT X = X
  · have hTn : (!((nmT X).toList == X.toList)) = false := by rw [txt_eq hT]; rfl
    have hTn2 := txt_eq hT
    have HT := hide hT
    clear hT
    go_wp2_with fail
    refine (allCmds_any _).mono ?_
    rintro e w4 ⟨rfl, b4⟩
    have P4 := hide (pbox_on P3.out b4)
    clear b4 P3
    go_wp2_with fail
    go_loopw [24] (fun ii wr => ∃ k : Nat, ii = .int .i64 (k : Int) ∧ k ≤ 41 ∧ Hid (∀ j, j < k → cmdsL[j]? ≠ some X) ∧ Hid (PBox w wr w2.heap.size X)) (fun ii _ => 41 - (intOf ii).toNat)
    case atStart => exact ⟨0, rfl, by omega, fun j hj => by omega, P4.out⟩
    case round =>
      obtain ⟨k, rfl, hk, HN, HP⟩ := hrel
      by_cases hlt : k < 41
      · have hlt' : decide ((k : Int) < 41) = true := by simp; omega
        obtain ⟨s, a, b', hs, hp, he⟩ := allV_get k hlt
        have hidx := all_index k hlt s a b' he
        have HBX := hide (cbox_new wr s a b')
        have hbw : Below wr.heap.size wr ((wr.alloc (.cells zeroC 129)).setRow wr.heap.size (cmdC s a b')) := cbox_below (Below.refl _ _) (Nat.le_refl _) s a b'
        have HP2 := hide (pbox_on HP.out hbw)
        have heq := fun W => eql_names s X W
        have hguard := Tryz.guardNm
        rw [names_same (cmd_name hs) HT.out] at heq
        by_cases hsX : s = X
        · rw [decide_eq_true hsX] at heq
          have HRR : Hid (R = cmdC s a b' ∧ K = true) := by
            have h1 := kinds_alike _ (pair_of hs hp)
            have h2 := effs_alike _ (pair_of hs hp)
            have h3 : inB cmdsL X = true := (inB_iff _ _).2 (hsX ▸ cmd_name hs)
            refine ⟨?_, ?_⟩
            · rw [HR.out, h3, if_pos rfl, ← hsX, show kindS s = a from h1, show effS s = b' from h2]
            · rw [HK.out, h3]
          clear hs hp he hsX hbw
          go_wp2_with (first | refine wpList_store_row rfl 129 _ _ rfl wr.heap.size _ rfl rfl 129 _ (heap_alloc_new wr (.cells zeroC 129)) (Tryz.infoCmd.trans (by rw [cmdC_size])) (by rw [cmdC_size]; rfl) (cmdC_one s a b') ?_ | refine wpList_load_part rfl 125 _ rfl wr.heap.size rfl 129 (nmC s) _ (0, 0) _ HBX.out Tryz.underlying125 rfl (Tryz.infoNm.trans (by rw [nmC_size])) ?_ | refine wpList_load_row rfl 125 _ rfl w2.heap.size rfl 125 _ (0, 0) _ HP2.out.2.1 Tryz.underlying125 rfl (Tryz.infoNm.trans (by rw [nmC_size])) ?_ | refine wpList_load_row rfl 129 _ rfl wr.heap.size rfl 129 (cmdC s a b') (0, 0) _ HBX.out Tryz.underlying129 rfl (Tryz.infoCmd.trans (by rw [cmdC_size])) ?_ | refine wpList_store_row rfl 129 _ _ rfl w.heap.size _ rfl rfl 129 _ HP2.out.1.1 (Tryz.infoCmd.trans (by rw [cmdC_size])) (by rw [cmdC_size]; rfl) (cmdC_one s a b') ?_)
          rw [HRR.out.1, HRR.out.2]
          exact bodyPost_ret (v := .tuple #[.agg (cmdC s a b'), .bool true]) (cmd_results _ _ w.heap.size (cmdC s a b') _ rfl (rbox_put HP2.out.1 _).1 (cmdC_size _ _ _) rfl) rfl ⟨rfl, (rbox_put HP2.out.1 _).2⟩
        · rw [decide_eq_false hsX] at heq
          have HN2 : Hid (∀ j, j < k + 1 → cmdsL[j]? ≠ some X) := by
            intro j hj
            by_cases hjk : j = k
            · subst hjk
              rw [hs]
              intro e
              exact hsX (Option.some.inj e)
            · exact HN.out j (by omega)
          clear hs hp he hsX hbw
          go_wp2_with (first | refine wpList_store_row rfl 129 _ _ rfl wr.heap.size _ rfl rfl 129 _ (heap_alloc_new wr (.cells zeroC 129)) (Tryz.infoCmd.trans (by rw [cmdC_size])) (by rw [cmdC_size]; rfl) (cmdC_one s a b') ?_ | refine wpList_load_part rfl 125 _ rfl wr.heap.size rfl 129 (nmC s) _ (0, 0) _ HBX.out Tryz.underlying125 rfl (Tryz.infoNm.trans (by rw [nmC_size])) ?_ | refine wpList_load_row rfl 125 _ rfl w2.heap.size rfl 125 _ (0, 0) _ HP2.out.2.1 Tryz.underlying125 rfl (Tryz.infoNm.trans (by rw [nmC_size])) ?_)
          go_roundw
          case rel => exact ⟨k + 1, by go_num, by omega, HN2, HP2⟩
          case measure => simp [intOf]; omega
      · have hlt' : decide ((k : Int) < 41) = false := by simp; omega
        have HRR : Hid (R = zeroC ∧ K = false) := by
          have h3 := not_in (X := X) (fun j hj => HN.out j (by omega))
          refine ⟨?_, ?_⟩
          · rw [HR.out, h3]
            rfl
          · rw [HK.out, h3]
        go_wp2_with (refine wpList_store_row rfl 129 _ _ rfl w.heap.size zeroC rfl rfl 129 _ HP.out.1.1 Tryz.infoCmd rfl zeroC_one ?_)
        rw [HRR.out.1, HRR.out.2]
        exact bodyPost_ret (v := .tuple #[.agg zeroC, .bool false]) (cmd_results _ _ w.heap.size zeroC _ rfl (rbox_put HP.out.1 zeroC).1 rfl rfl) rfl ⟨rfl, (rbox_put HP.out.1 zeroC).2⟩
  · have hTn : (!((nmT X).toList == X.toList)) = true := by rw [txt_ne hT]; rfl
    have hTn2 := txt_ne hT
    have HRR : Hid (R = zeroC ∧ K = false) := by
      have h3 := not_told hT
      refine ⟨?_, ?_⟩
      · rw [HR.out, h3]
        rfl
      · rw [HK.out, h3]
    clear hT
    go_wp2_with (refine wpList_store_row rfl 129 _ _ rfl w.heap.size zeroC rfl rfl 129 _ P3.out.1.1 Tryz.infoCmd rfl zeroC_one ?_)
    rw [HRR.out.1, HRR.out.2]
    exact bodyPost_ret (v := .tuple #[.agg zeroC, .bool false]) (cmd_results _ _ w.heap.size zeroC _ rfl (rbox_put P3.out.1 zeroC).1 rfl rfl) rfl ⟨rfl, (rbox_put P3.out.1 zeroC).2⟩
theorem kindS_range (x : ByteArray) : 0 ≤ kindS x ∧ kindS x ≤ 6 := by
  unfold kindS
  repeat' split
  all_goals omega
def CmdPost (ts : List ByteArray) (w : World) (e : Ending) (w' : World) : Prop :=
  ((knownS ts = false ∧ okS ts = false ∧ writesS ts = false ∧ e = .returned (.tuple #[.agg zeroC, .bool false])) ∨
    (knownS ts = true ∧ 0 < ts.length ∧ ∃ X k ef, e = .returned (.tuple #[.agg (cmdC X k ef), .bool true]) ∧ okS ts = takesK k ((ts.length : Int) - 1) ∧ (0 ≤ k ∧ k ≤ 6) ∧ writesS ts = (ef == 1))) ∧ Below w.heap.size w w'
theorem commandOf_any (ts : List ByteArray) (ao : Option Addr) (cap : Nat) (w : World) (hl : ts.length ≤ 1048576) (hts : TextsAt w ao ts) (hz : ∀ x ∈ ts, x.size ≤ 1048576) :
    Calls Tryz.prog 105 #[.slice ao ts.length cap] w (CmdPost ts w) := by
  cases ts with
  | nil =>
    refine (commandOf_nil cap ao w).mono ?_
    rintro e w' ⟨rfl, b⟩
    exact ⟨.inl ⟨rfl, rfl, rfl, rfl⟩, b⟩
  | cons x r =>
    refine (commandOf_cons x r ao cap w (by simpa using hl) hts (hz x List.mem_cons_self)).mono ?_
    rintro e w' ⟨rfl, b⟩
    refine ⟨?_, b⟩
    cases hk : inB cmdsL (upT x) with
    | false =>
      have h1 : knownS (x :: r) = false := hk
      have h2 : okS (x :: r) = false := by show (inB cmdsL (upT x) && _) = false; rw [hk]; rfl
      have h3 : writesS (x :: r) = false := by show (inB cmdsL (upT x) && _) = false; rw [hk]; rfl
      have h4 : cmdR (x :: r) = zeroC := by show (if inB cmdsL (upT x) then _ else _) = _; rw [hk]; rfl
      exact .inl ⟨h1, h2, h3, by rw [h1, h4]⟩
    | true =>
      have h1 : knownS (x :: r) = true := hk
      have h2 : okS (x :: r) = takesK (kindS (upT x)) (((x :: r).length : Int) - 1) := by
        show (inB cmdsL (upT x) && takesK (kindS (upT x)) (r.length : Int)) = _
        rw [hk, Bool.true_and, List.length_cons]
        congr 1
        omega
      have h3 : writesS (x :: r) = (effS (upT x) == 1) := by
        show (inB cmdsL (upT x) && !inB readsL (upT x)) = _
        rw [hk, Bool.true_and]
        unfold effS
        cases inB readsL (upT x) <;> rfl
      have h4 : cmdR (x :: r) = cmdC (upT x) (kindS (upT x)) (effS (upT x)) := by show (if inB cmdsL (upT x) then _ else _) = _; rw [hk]; rfl
      exact .inr ⟨h1, by simp, _, _, _, by rw [h1, h4], h2, kindS_range _, h3⟩
theorem takesK_6 (n : Int) (hn : 0 ≤ n) : takesK 6 n = (decide (n % 2 = 0) && decide (2 ≤ n) && decide (n ≤ 6)) := by
  have : takesK 6 n = (n == 2 || n == 4 || n == 6) := rfl
  rw [this, Bool.eq_iff_iff]
  simp
  omega
theorem takes_any (k n : Int) (w : World) (hk : 0 ≤ k ∧ k ≤ 6) (hn : 0 ≤ n) (hn2 : n ≤ 1048576) : Calls Tryz.prog 106 #[.int .i64 k, .int .i64 n] w fun e w' => e = .returned (.bool (takesK k n)) ∧ Below w.heap.size w w' := by
  have hc : k = 0 ∨ k = 1 ∨ k = 2 ∨ k = 3 ∨ k = 4 ∨ k = 5 ∨ k = 6 := by omega
  rcases hc with rfl | rfl | rfl | rfl | rfl | rfl | rfl
  all_goals clear hk
  case inr.inr.inr.inr.inr.inr =>
    go_enter Tryz.func106, Tryz.ntmps106
    go_wp2
    all_goals
      go_ret
      refine ⟨?_, Below.refl _ _⟩
      rw [takesK_6 n hn]
      first | (simp [*]; done) | (simp [*]; omega)
  all_goals
    go_enter Tryz.func106, Tryz.ntmps106
    go_wp2
    go_ret
    exact ⟨by simp [takesK], Below.refl _ _⟩
theorem implArityOk_any (ts : List ByteArray) (ao : Option Addr) (cap : Nat) (w : World) (hl : ts.length ≤ 1048576) (hts : TextsAt w ao ts) (hz : ∀ x ∈ ts, x.size ≤ 1048576) :
    Calls Tryz.prog 64 #[.slice ao ts.length cap] w fun e w' => e = .returned (.bool (okS ts)) ∧ Below w.heap.size w w' := by
  have CO := hide (commandOf_any ts ao cap w hl hts hz)
  clear hts hz
  go_enter Tryz.func64, Tryz.ntmps64
  go_wp2_with fail
  refine CO.out.mono ?_
  rintro e w1 ⟨⟨hk, hok, hw, rfl⟩ | ⟨hk, hpos, X, k, ef, rfl, hok, hkr, hw⟩, b1⟩
  · have B1 := hide b1
    have B2 := hide (below_setRow (b1.alloc b1.size (.cells zeroC 129)) b1.size zeroC)
    have HK := hide hk
    have HOK := hide hok
    have HW := hide hw
    clear b1 hk hok hw
    go_wp2_with (refine wpList_store_row rfl 129 _ _ rfl w1.heap.size zeroC rfl rfl 129 _ (heap_alloc_new w1 (.cells zeroC 129)) Tryz.infoCmd rfl zeroC_one ?_)
    go_ret
    exact ⟨by rw [HOK.out]; rfl, B2.out⟩
  · have B1 := hide b1
    have B2 := hide (below_setRow (b1.alloc b1.size (.cells zeroC 129)) b1.size (cmdC X k ef))
    have HBX := hide (cbox_new w1 X k ef)
    have hc9 : ((w1.alloc (.cells zeroC 129)).setRow w1.heap.size (cmdC X k ef)).cell? ⟨w1.heap.size, 9, none⟩ = some (.int .i64 k) := by
      rw [cell_of_row _ _ 9 _ _ (0, 0) HBX.out, Array.getElem?_append_right (Nat.le_of_eq (nmC_size _)), nmC_size]
      rfl
    have hc10 : ((w1.alloc (.cells zeroC 129)).setRow w1.heap.size (cmdC X k ef)).cell? ⟨w1.heap.size, 10, none⟩ = some (.int .i64 ef) := by
      rw [cell_of_row _ _ 10 _ _ (0, 0) HBX.out, Array.getElem?_append_right (by rw [nmC_size]; omega), nmC_size]
      rfl
    have HK := hide hk
    have HOK := hide hok
    have HW := hide hw
    clear b1 hk hok hw
    unfold zeroC at hc9 hc10
    have TK := hide (fun W => takes_any k ((ts.length : Int) - 1) W hkr (by omega) (by omega))
    go_wp2_with (refine wpList_store_row rfl 129 _ _ rfl w1.heap.size (cmdC X k ef) rfl rfl 129 _ (heap_alloc_new w1 (.cells zeroC 129)) (Tryz.infoCmd.trans (by rw [cmdC_size])) (by rw [cmdC_size]; rfl) (cmdC_one X k ef) ?_)
    refine (TK.out _).mono ?_
    rintro e w2 ⟨rfl, b2⟩
    go_wp2
    go_ret
    exact ⟨by rw [HOK.out]; rfl, B2.out.trans (b2.mono B2.out.size)⟩
theorem buildE_le {w : World} {B B' : Nat} {v : Value} {T : List EntD} (h : BuildE w B v T) (hB : B' ≤ B) : BuildE w B' v T := by
  obtain ⟨vs, h1, h2, h3, h4⟩ := h
  refine ⟨vs, h1, ⟨h2.1, ?_⟩, fun j x b hx hj => rowText_le (h3 j x b hx hj) hB, h4⟩
  rcases h2.2 with h | ⟨g, cap, cur, e, hg, r⟩
  · exact .inl h
  · exact .inr ⟨g, cap, cur, e, by omega, r⟩
def outT (T : List EntD) (r : ByteArray) (er : Option ByteArray) (T2 : List EntD) : List EntD × ByteArray := match er with | none => (T2, r) | some s => (T, lineB ⟨#[45]⟩ s)
def OthV (w : World) (x : Value) : Prop := (∃ a, x = .iface 209 (.pointer (some a))) ∧ w.cell? ⟨0, 0, none⟩ = some x ∧ 0 < w.heap.size
theorem run_eql_types {P : Program} (w : World) {ti : TypeId} {ms : Array (String × TypeId)} (tx ty : TypeId) (vx vy : Value) (hi : P.underlying ti = some (.interface ms)) (hne : tx ≠ ty) :
    (binOp .eql ti (.iface tx vx) (.iface ty vy)).run P w = .ok (.bool false) w := by
  have h : ∀ d : Nat, (Op.equalIn (d + 1) ti (.iface tx vx) (.iface ty vy)).run P w = .ok false w := fun d => by simp [Op.equalIn, run_underlying hi, hne]
  simp only [binOp]
  simp [Op.equal, Op.maxDepth, h 9999]
theorem faultError_any (s : ByteArray) (w : World) : Calls Tryz.prog 214 #[.string s] w fun e w' => e = .returned (.string s) ∧ w' = w := by
  go_enter Tryz.func214, Tryz.ntmps214
  go_wp2
  go_ret
  exact ⟨rfl, rfl⟩
def WorkE (tb : TypeId) (w : World) (B b : Nat) (T : List EntD) (n : Nat) : Prop := B ≤ b ∧ ∃ (v : Value) (E : List Value), E.length = n ∧ w.heap[b]? = some (.cells ⟨v :: E⟩ tb (0, 0)) ∧ BuildE w B v T
theorem workE_S {tb : TypeId} {w : World} {B b n : Nat} {T : List EntD} (h : WorkE tb w B b T n) : WorkS tb w B b T := by
  obtain ⟨h1, v, E, -, h2, h3⟩ := h
  exact ⟨h1, v, E, h2, h3⟩
theorem workE_below {tb : TypeId} {w w' : World} {B b n : Nat} {T : List EntD} (h : WorkE tb w B b T n) (hb : Below w.heap.size w w') : WorkE tb w' B b T n := by
  obtain ⟨h1, v, E, hE, h2, h3⟩ := h
  exact ⟨h1, v, E, hE, (hb.block b (obj_lt h2)).trans h2, buildE_below h3 hb⟩
theorem workE_first {tb : TypeId} {w : World} {B bx n : Nat} {v0 v : Value} {E : List Value} {T : List EntD} (hE : E.length = n) (hbx : w.heap[bx]? = some (.cells ⟨v0 :: E⟩ tb (0, 0))) (hB : B ≤ bx) (hv : BuildE w B v T) (htb : (tb == 40) = false) (htb9 : (tb == 9) = false) :
    WorkE tb (w.setCell ⟨bx, 0, none⟩ v) B bx T n := by
  refine ⟨hB, v, E, hE, (heap_setCell_same w bx 0 _ tb _ hbx).trans rfl, buildE_box hv (fun g C t hg ht => Below.heap_setCell _ _ _ _ (fun e => ?_))⟩
  simp only at e
  rw [e, hbx] at hg
  simp at hg
  rcases ht with ht | ht
  · rw [hg.2, ht] at htb; simp at htb
  · rw [hg.2, ht] at htb9; simp at htb9
end Go.Proofs.YtifjneldjjmeaaaGreatDoor
