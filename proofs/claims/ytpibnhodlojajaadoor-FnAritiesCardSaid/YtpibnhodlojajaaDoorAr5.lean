import Derived.Lib.AppendStr
import Derived.Deep.LoopGhost
import Derived.WalkMore
import Derived.WalkSmall
import Derived.Test.YtpibnhodlojajaaDoorAr4
import Derived.Test.YtpibnhodlojajaaDoorAr0
import Derived.Test.YtpibnhodlojajaaDoorAr2
set_option maxRecDepth 100000
set_option maxHeartbeats 4000000
namespace Go.Proofs.YtpibnhodlojajaaDoor
open Go.RowKit
theorem append_madeS {P : Program} (w : World) (B : Nat) (t u ty e : TypeId) (ht : P.underlying t = some (.slice e)) (hu : P.underlying u = some .string) (hinfo : (P.info? e).map (fun i => (i.zero, i.size, i.bytes)) = some (some (.int .u8 0), 1, 1))
    (v : Value) (l : List UInt8) (s : ByteArray) (hown : OwnsB w B e v l) (hlen : l.length + s.size ≤ 70368744177664) (hbase : B ≤ w.heap.size) :
    ∃ v' w', (Builtin.append_ #[t, u] ty #[v, .string s]).run P w = .ok v' w' ∧ OwnsB w' B e v' (l ++ s.data.toList) ∧ w.grownBy w' v.ownBlock := by
  obtain ⟨i0, hi, hz0, hz1, hz2⟩ := info_parts hinfo
  obtain ⟨g, cap, cur, fz, rfl, hB, hC, hfz, hnc, hcm, hcs, htk⟩ := hown
  have hsl : (s.data.toList.map bv).length = s.size := by rw [List.length_map]; rfl
  have hsc : Lib.strCells s = s.data.toList.map bv := rfl
  have hmx : l.length + s.size ≤ maxLen := by unfold maxLen; omega
  by_cases hroom : l.length + s.size ≤ cap
  · have hf := Lib.run_firstCells_string (P := P) w 1 s
    have hst := store_behind (P := P) g l.length e fz (s.data.toList.map bv) 0 cur w hC hfz (by rw [hsl]; omega) (bv_one s.data.toList)
    rw [hsc] at hf
    simp only [Nat.add_zero] at hst
    obtain ⟨X, hX⟩ : ∃ X, X = (cur.toList.take l.length ++ s.data.toList.map bv ++ cur.toList.drop (l.length + (s.data.toList.map bv).length)).toArray := ⟨_, rfl⟩
    rw [← hX] at hst
    have hXs : X.size = cur.size := by rw [hX]; simp only [List.size_toArray, List.length_append, List.length_take, List.length_drop, Array.length_toList, hsl]; omega
    refine ⟨.slice (some ⟨g, 0, none⟩) (l.length + s.size) cap, w.setRow g X, ?_, ⟨g, cap, X, fz, by rw [List.length_append]; rfl, hB, setRow_heap w g cur X e fz hC, ?_, by rw [List.length_append]; exact hroom, hcm, ?_, ?_⟩, ⟨rfl, rfl, rfl, by simp, fun k _ hk => setRow_other w g k _ (fun e => hk (by simp [Value.ownBlock, e]))⟩⟩
    · simp [Builtin.append_, run_underlying ht, run_underlying hu, sizeOf, typeInfo, hi, hz1, Builtin.lenOf, hroom, hf, Addr.add_lit, hst]
    · rcases hfz with h | h
      · exact .inl h
      · exact .inr (by omega)
    · omega
    · rw [hX, htk, List.map_append, show (l ++ s.data.toList).length = (l.map bv ++ s.data.toList.map bv).length from by simp]
      exact List.take_left
  · have hr := Lib.run_append_grow_string (P := P) w t u ty e i0 (.int .u8 0) ht hu hi hz0 ⟨g, 0, none⟩ l.length cap (l.map bv) (by rw [hz1]; simp) (ownsB_cells ⟨g, cap, cur, fz, rfl, hB, hC, hfz, hnc, hcm, hcs, htk⟩) s (by omega) (by unfold maxLen at hmx; omega) (by rw [hz2]; exact growslice_fits (by omega) (by omega))
    have hge := grownCap_ge w (l.length + s.size) cap e
    rw [hsc] at hr
    refine ⟨_, _, hr, ⟨w.heap.size, _, _, (0, 0), by rw [List.length_append]; rfl, hbase, heap_alloc_new w.drew _, .inl rfl, by rw [List.length_append]; exact hge, grownCap_le_maxLen w _ _ e hmx, ?_, ?_⟩, ⟨rfl, rfl, rfl, by simp, fun k hk _ => Go.heap_alloc_old w.drew _ hk⟩⟩
    · have hz : (Value.int IntKind.u8 0).cells.size = 1 := rfl
      simp only [Array.size_append, List.size_toArray, size_zeroCells, hz, List.length_map, hsl]
      have e1 : s.data.toList.length = s.size := rfl
      omega
    · simp only [Array.toList_append]
      rw [List.map_append, show (l ++ s.data.toList).length = (l.map bv ++ s.data.toList.map bv).length from by simp]
      exact List.take_left
theorem app_textB {P : Program} {ops : Array Oper} {rest : List Oper} {o : Oper} {a : Act} {Q : Exit → Act → World → Prop} (w : World) (t u e : TypeId) (ht : P.underlying t = some (.slice e)) (hu : P.underlying u = some .string) (hinfo : (P.info? e).map (fun i => (i.zero, i.size, i.bytes)) = some (some (.int .u8 0), 1, 1))
    (B : Nat) (hgd : o.guard = none) (sl x : Operand) (ho : o.op = .call { callee := .builtin .append, args := #[sl, x], argTypes := #[t, u] }) (v : Value) (l : List UInt8) (s : ByteArray) (hs : a.eval sl = v) (hown : OwnsB w B e v l) (hx : a.eval x = .string s)
    (hlen : l.length + s.size ≤ 70368744177664) (hbase : B ≤ w.heap.size)
    (h : ∀ v' w', OwnsB w' B e v' (l ++ s.data.toList) → w.grownBy w' v.ownBlock → wpList P ops Q rest (a.put o.dst v') w') : wpList P ops Q (o :: rest) a w := by
  refine wpList_plain hgd fun K hK => ?_
  obtain ⟨v', w', hr, h2, h3⟩ := append_madeS (P := P) w B t u o.type e ht hu hinfo v l s hown hlen hbase
  unfold Oper.wp execOp
  simp only [ho, resolve, invoke, builtin, Sem.run_bind, Sem.run_pure, Result.andThen_ok, List.map_toArray, List.map_cons, List.map_nil, hs, hx, hr]
  exact hK _ _ (h v' w' h2 h3)
def catB : ByteArray → List ByteArray → ByteArray
  | s, [] => s
  | s, x :: r => catB (s ++ x) r
theorem catB_snoc : ∀ (ts : List ByteArray) (s x : ByteArray), catB s (ts ++ [x]) = catB s ts ++ x
  | [], _, _ => rfl
  | t :: r, s, x => catB_snoc r (s ++ t) x
theorem catB_size : ∀ (ts : List ByteArray) (s : ByteArray) (M : Nat), (∀ x ∈ ts, x.size ≤ M) → (catB s ts).size ≤ s.size + ts.length * M
  | [], s, M, _ => by simp [catB]
  | t :: r, s, M, h => by
    have h1 := catB_size r (s ++ t) M (fun x hx => h x (List.mem_cons_of_mem _ hx))
    have h2 := h t List.mem_cons_self
    rw [ByteArray.size_append] at h1
    rw [catB, List.length_cons, Nat.add_mul, Nat.one_mul]
    omega
theorem written_any (h : ByteArray) (ts : List ByteArray) (ao : Option Addr) (cap : Nat) (w : World) (hh : h.size ≤ 1048600) (hl : ts.length ≤ 1048576) (hts : TextsAt w ao ts) (hz : ∀ x ∈ ts, x.size ≤ 1048576) :
    Calls Tryd.prog 41 #[.string h, .slice ao ts.length cap] w fun e w' => e = .returned (.string (catB h ts)) ∧ Below w.heap.size w w' := by
  have HT := hide hts
  have HZ := hide hz
  clear hts hz
  obtain ⟨w1, C1, hcv, b1, hs1, ho1⟩ := conv_made (P := Tryd.prog) w 9 25 5 h Tryd.underlying9 Tryd.underlying25 Tryd.underlying5 (by unfold maxLen; omega)
  have B1 := hide b1
  have HO1 : Hid (OwnsB w1 w.heap.size 5 (.slice (some ⟨w.heap.size, 0, none⟩) h.size C1) (catB h (ts.take 0)).data.toList) := by
    show OwnsB _ _ _ _ _
    rw [List.take_zero, catB]
    exact ho1
  clear b1 hs1 ho1
  go_enter Tryd.func41, Tryd.ntmps41
  go_wp2_with fail
  go_loopw [5, 12] (fun vo ii wr => ∃ (k : Nat), ii = .int .i64 k ∧ k ≤ ts.length ∧ Hid (OwnsB wr w.heap.size 5 vo (catB h (ts.take k)).data.toList) ∧ Hid (Below w.heap.size w wr)) (fun _ ii _ => ts.length - (intOf ii).toNat)
  case atStart => exact ⟨0, rfl, Nat.zero_le _, HO1, B1⟩
  case round =>
    obtain ⟨k, rfl, hk, HO, HB⟩ := hrel
    have hws := HB.out.size
    by_cases hlt : k < ts.length
    · have hlt' : decide ((k : Int) < (ts.length : Int)) = true := by simp; omega
      have hi0 : (0 : Int) ≤ (k : Int) := by omega
      have hi1 : (k : Int) < (ts.length : Int) := by omega
      obtain ⟨b, off, rfl, hbw, hd0⟩ := textsAt_keep HT.out HB.out k hlt
      have hxz := HZ.out ts[k] (List.getElem_mem hlt)
      have htk := hide (List.take_succ_eq_append_getElem hlt)
      generalize ts[k] = T at hd0 hxz htk
      obtain ⟨LL, HLL⟩ : ∃ LL, Hid (LL = (catB h (ts.take k)).data.toList) := ⟨_, rfl⟩
      rw [← HLL.out] at HO
      have hLl : LL.length + T.size ≤ 70368744177664 := by
        have h1 := catB_size (ts.take k) h 1048576 (fun x hx => HZ.out x (List.mem_of_mem_take hx))
        have h3 : (ts.take k).length ≤ 1048576 := by rw [List.length_take]; omega
        have h4 : (ts.take k).length * 1048576 ≤ 1048576 * 1048576 := Nat.mul_le_mul_right _ h3
        have e1 : LL.length = (catB h (ts.take k)).size := by rw [HLL.out]; rfl
        omega
      go_wp2_with (at_builtin; refine app_textB _ 25 9 5 Tryd.underlying25 Tryd.underlying9 Tryd.info5 w.heap.size rfl _ _ rfl _ LL T rfl HO.out rfl hLl hws ?_; intro v7 w7 ho7 hg7; have HO7 := hide ho7; have HG7 := hide hg7; clear ho7 hg7)
      go_roundw
      case rel =>
        refine ⟨k + 1, by go_num, by omega, ?_, HB.out.grown HG7.out hws (fun g hg => (ownsB_lt HO.out g hg).1)⟩
        have e2 : (catB h (ts.take (k + 1))).data.toList = LL ++ T.data.toList := by
          rw [HLL.out, htk.out, catB_snoc]
          simp
        show OwnsB _ _ _ _ _
        rw [e2]
        exact HO7.out
      case measure => simp [intOf]; omega
    · have hlt' : decide ((k : Int) < (ts.length : Int)) = false := by simp; omega
      rw [show ts.take k = ts from List.take_of_length_le (by omega)] at HO
      obtain ⟨L, HL⟩ : ∃ L, Hid ((catB h ts).data.toList = L) := ⟨_, rfl⟩
      rw [HL.out] at HO
      have hcv := conv_backB (P := Tryd.prog) wr 25 9 5 _ u5 L Tryd.underlying25 Tryd.underlying5 Tryd.underlying9 HO.out
      have HR : Hid ((⟨L.toArray⟩ : ByteArray) = catB h ts) := by show _ = _; rw [← HL.out]
      clear HL
      obtain ⟨g, co, cur, fz, rfl, -, -, -, hLc, hcm, -, -⟩ := HO.out
      go_wp2
      go_ret
      rw [HR.out]
      exact ⟨rfl, HB.out⟩
theorem textsAt_two (w : World) (a b : ByteArray) : TextsAt (w.alloc (.cells #[.string a, .string b] 9)) (some ⟨w.heap.size, 0, none⟩) [a, b] := by
  refine textsAt_in (heap_alloc_new w _) ?_
  intro j hj _
  match j, hj with
  | 0, _ => rfl
  | 1, _ => rfl
def lineB (m s : ByteArray) : ByteArray := (m ++ s) ++ ⟨#[13, 10]⟩
theorem written_line (m s : ByteArray) (w : World) (hm : m.size ≤ 1048600) (hs : s.size ≤ 1048576) :
    Calls Tryd.prog 41 #[.string m, .slice (some ⟨w.heap.size, 0, none⟩) 2 2] (w.alloc (.cells #[.string s, .string ⟨#[13, 10]⟩] 9)) fun e w' => e = .returned (.string (lineB m s)) ∧ Below w.heap.size w w' := by
  refine (written_any m [s, ⟨#[13, 10]⟩] (some ⟨w.heap.size, 0, none⟩) 2 _ hm (by simp) (textsAt_two w s _) ?_).mono ?_
  · intro x hx
    rcases List.mem_cons.1 hx with rfl | hx
    · exact hs
    · obtain rfl : x = ⟨#[13, 10]⟩ := by simpa using hx
      decide
  · rintro e w' ⟨rfl, hb⟩
    exact ⟨rfl, ((Below.refl _ w).alloc (Nat.le_refl _) _).trans (hb.mono (by simp))⟩
theorem implFault_any (s : ByteArray) (w : World) (hs : s.size ≤ 1048576) : Calls Tryd.prog 23 #[.string s] w fun e w' => e = .returned (.string (lineB ⟨#[45]⟩ s)) ∧ Below w.heap.size w w' := by
  have HW := hide (fun W => written_line ⟨#[45]⟩ s W (by decide) hs)
  generalize lineB ⟨#[45]⟩ s = R at HW
  go_enter Tryd.func23, Tryd.ntmps23
  go_wp2_with fail
  refine (HW.out _).mono ?_
  rintro e w1 ⟨rfl, b1⟩
  go_wp2
  go_ret
  exact ⟨rfl, b1⟩
def readsL : List ByteArray := [⟨#[80, 73, 78, 71]⟩, ⟨#[69, 67, 72, 79]⟩, ⟨#[71, 69, 84]⟩, ⟨#[83, 84, 82, 76, 69, 78]⟩, ⟨#[77, 71, 69, 84]⟩, ⟨#[69, 88, 73, 83, 84, 83]⟩, ⟨#[84, 89, 80, 69]⟩, ⟨#[84, 84, 76]⟩, ⟨#[75, 69, 89, 83]⟩, ⟨#[68, 66, 83, 73, 90, 69]⟩, ⟨#[76, 76, 69, 78]⟩, ⟨#[76, 82, 65, 78, 71, 69]⟩, ⟨#[76, 73, 78, 68, 69, 88]⟩, ⟨#[72, 71, 69, 84]⟩, ⟨#[72, 76, 69, 78]⟩, ⟨#[72, 71, 69, 84, 65, 76, 76]⟩, ⟨#[72, 75, 69, 89, 83]⟩, ⟨#[83, 73, 83, 77, 69, 77, 66, 69, 82]⟩, ⟨#[83, 67, 65, 82, 68]⟩, ⟨#[83, 77, 69, 77, 66, 69, 82, 83]⟩]
def writesS (ts : List ByteArray) : Bool := match ts with | [] => false | x :: _ => inB cmdsL (upT x) && !inB readsL (upT x)
def effS (x : ByteArray) : Int := if inB readsL x then 0 else 1
theorem effs_alike : ∀ p ∈ cmdsL.zip cmdsK, effS p.1 = p.2.2 := by decide +kernel
def unkT : ByteArray := ⟨#[69, 82, 82, 32, 117, 110, 107, 110, 111, 119, 110]⟩
def argT : ByteArray := ⟨#[69, 82, 82, 32, 97, 114, 103, 117, 109, 101, 110, 116, 115]⟩
def unkS (ts : List ByteArray) : ByteArray := if knownS ts then (if okS ts then ⟨#[]⟩ else lineB ⟨#[45]⟩ argT) else lineB ⟨#[45]⟩ unkT
theorem specArity_any (ts : List ByteArray) (ao : Option Addr) (cap : Nat) (w : World) (hl : ts.length ≤ 1048576) (hts : TextsAt w ao ts) (hz : ∀ x ∈ ts, x.size ≤ 1048576) :
    Calls Tryd.prog 13 #[.slice ao ts.length cap] w fun e w' => e = .returned (.bool (okS ts)) ∧ Below w.heap.size w w' := by
  cases ts with
  | nil => exact specArity_nil cap ao w
  | cons x r => exact specArity_cons x r ao cap w (by simpa using hl) hts (hz x List.mem_cons_self)
theorem Tryd.guardNm : Tryd.prog.eqGuardType Tryd.prog.depth 41 = false := by kernel_rfl
theorem Tryd.cmdRes : (Tryd.f22).results = #[.cell 2 45, .tmp 3] := rfl
def cmdR (ts : List ByteArray) : Array Value := match ts with | [] => zeroC | x :: _ => if inB cmdsL (upT x) then cmdC (upT x) (kindS (upT x)) (effS (upT x)) else zeroC
theorem zeroC_one : zeroC.all (·.oneCell') = true := by
  rw [Array.all_eq_true_iff_forall_mem]
  intro v hv
  simp [zeroC] at hv
  rcases hv with rfl | rfl <;> rfl
theorem cmd_results (tmps : Array Value) (w : World) (g : Nat) (cs : Array Value) (v : Value) (hp : tmps.getD 2 undef = .pointer (some ⟨g, 0, none⟩)) (hg : w.heap[g]? = some (.cells cs 45 (0, 0))) (hcs : cs.size = 11) (hv : tmps.getD 3 undef = v) :
    (results Tryd.f22 tmps).run Tryd.prog w = .ok (.tuple #[.agg cs, v]) w := by
  rw [results_cell_tmp Tryd.cmdRes, hp, hv]
  have := run_loadVar_row (P := Tryd.prog) w g 45 45 cs (0, 0) _ hg Tryd.underlying45 rfl (Tryd.infoCmd.trans (by rw [hcs]))
  simp [asAddr, this]
def RBox (w W : World) (cs : Array Value) : Prop := W.heap[w.heap.size]? = some (.cells cs 45 (0, 0)) ∧ Below w.heap.size w W
theorem rbox_new (w : World) : RBox w (w.alloc (.cells zeroC 45)) zeroC := ⟨heap_alloc_new w _, (Below.refl _ _).alloc (Nat.le_refl _) _⟩
theorem rbox_on {w W W' : World} {cs : Array Value} (h : RBox w W cs) (b : Below W.heap.size W W') : RBox w W' cs :=
  ⟨(b.block _ (Array.getElem?_eq_some_iff.1 h.1).1).trans h.1, h.2.trans (b.mono h.2.size)⟩
theorem rbox_put {w W : World} {cs : Array Value} (h : RBox w W cs) (cs2 : Array Value) : RBox w (W.setRow w.heap.size cs2) cs2 :=
  ⟨setRow_new _ _ _ _ _ h.1, below_setRow h.2 (Nat.le_refl _) _⟩
theorem not_in {X : ByteArray} (h : ∀ j, j < 41 → cmdsL[j]? ≠ some X) : inB cmdsL X = false := by
  cases hb : inB cmdsL X with
  | false => rfl
  | true =>
    obtain ⟨j, hj, e⟩ := List.mem_iff_getElem.1 ((inB_iff _ _).1 hb)
    exact absurd ((List.getElem?_eq_getElem hj).trans (congrArg some e)) (h j hj)
theorem not_told {X : ByteArray} (h : nmT X ≠ X) : inB cmdsL X = false := by
  cases hb : inB cmdsL X with
  | false => rfl
  | true => exact absurd (cmds_told X ((inB_iff _ _).1 hb)) h
theorem pair_of {k : Nat} {s : ByteArray} {a b : Int} (h1 : cmdsL[k]? = some s) (h2 : cmdsK[k]? = some (a, b)) : (s, (a, b)) ∈ cmdsL.zip cmdsK := by
  refine List.mem_of_getElem? (i := k) ?_
  rw [List.getElem?_zip_eq_some]
  exact ⟨h1, h2⟩
def PBox (w W : World) (n : Nat) (X : ByteArray) : Prop := RBox w W zeroC ∧ W.heap[n]? = some (.cells (nmC X) 41 (0, 0)) ∧ w.heap.size ≤ n
theorem pbox_on {w W W' : World} {n : Nat} {X : ByteArray} (h : PBox w W n X) (b : Below W.heap.size W W') : PBox w W' n X :=
  ⟨rbox_on h.1 b, (b.block _ (Array.getElem?_eq_some_iff.1 h.2.1).1).trans h.2.1, h.2.2⟩
def zero9 : Array Value := #[.int .u8 0, .int .u8 0, .int .u8 0, .int .u8 0, .int .u8 0, .int .u8 0, .int .u8 0, .int .u8 0, .int .u8 0]
theorem pbox_new {w W : World} (X : ByteArray) (h : RBox w W zeroC) : PBox w ((W.alloc (.cells zero9 41)).setRow W.heap.size (nmC X)) W.heap.size X := by
  have hb : Below W.heap.size W ((W.alloc (.cells zero9 41)).setRow W.heap.size (nmC X)) := below_setRow ((Below.refl _ _).alloc (Nat.le_refl _) _) (Nat.le_refl _) _
  exact ⟨rbox_on h hb, setRow_new _ _ _ _ _ (heap_alloc_new W _), h.2.size⟩
theorem commandOf_nil (cap : Nat) (ao : Option Addr) (w : World) : Calls Tryd.prog 22 #[.slice ao 0 cap] w fun e w' => e = .returned (.tuple #[.agg zeroC, .bool false]) ∧ Below w.heap.size w w' := by
  have RB := hide (rbox_new w)
  go_enter Tryd.func22, Tryd.ntmps22
  go_wp2_with (refine wpList_store_row rfl 45 _ _ rfl w.heap.size zeroC rfl rfl 45 _ RB.out.1 Tryd.infoCmd rfl zeroC_one ?_)
  exact bodyPost_ret (v := .tuple #[.agg zeroC, .bool false]) (cmd_results _ _ w.heap.size zeroC _ rfl (rbox_put RB.out zeroC).1 rfl rfl) rfl ⟨rfl, (rbox_put RB.out zeroC).2⟩
theorem commandOf_cons (x : ByteArray) (r : List ByteArray) (ao : Option Addr) (cap : Nat) (w : World) (hl : r.length ≤ 1048575) (hts : TextsAt w ao (x :: r)) (hz : x.size ≤ 1048576) :
    Calls Tryd.prog 22 #[.slice ao (r.length + 1) cap] w fun e w' => e = .returned (.tuple #[.agg (cmdR (x :: r)), .bool (knownS (x :: r))]) ∧ Below w.heap.size w w' := by
  obtain ⟨b, off, rfl, hb, hcell⟩ := hts 0 (by simp)
  rw [Nat.add_zero] at hcell
  have hcell : w.cell? ⟨b, off, none⟩ = some (.string x) := hcell
  have HC := hide hcell
  have KS : Hid (∀ W, Below w.heap.size w W → W.cell? ⟨b, off, none⟩ = some (.string x)) := fun W hW => (hW.cell (p := ⟨b, off, none⟩) hb).trans HC.out
  have SU := hide (fun W => implUpper_any x W hz)
  have h0 : (((r.length : Nat) : Int) + 1 == 0) = false := by rw [beq_eq_false_iff_ne]; omega
  obtain ⟨X, HX⟩ : ∃ X, Hid (upT x = X) := ⟨_, rfl⟩
  have e0 : (⟨(x.data.toList.map upB).toArray⟩ : ByteArray) = X := HX.out
  rw [e0] at SU
  have HR : Hid (cmdR (x :: r) = if inB cmdsL X then cmdC X (kindS X) (effS X) else zeroC) := by
    show (if inB cmdsL (upT x) then cmdC (upT x) (kindS (upT x)) (effS (upT x)) else zeroC) = _
    rw [HX.out]
  have HK : Hid (knownS (x :: r) = inB cmdsL X) := by
    show inB cmdsL (upT x) = _
    rw [HX.out]
  generalize cmdR (x :: r) = R at HR ⊢
  generalize knownS (x :: r) = K at HK ⊢
  have RB := hide (rbox_new w)
  have hc1 := fun o => KS.out _ ((Below.refl _ _).alloc (Nat.le_refl _) o)
  clear hts e0
  go_enter Tryd.func22, Tryd.ntmps22
  go_wp2_with fail
  refine (SU.out _).mono ?_
  rintro e w1 ⟨rfl, b1⟩
  have RB1 := hide (rbox_on RB.out b1)
  clear b1 RB SU
  go_wp2_with fail
  refine (nmOf_any X _).mono ?_
  rintro e w2 ⟨rfl, b2⟩
  have RB2 := hide (rbox_on RB1.out b2)
  have PB := hide (pbox_new X RB2.out)
  clear b2 RB1
  go_wp2_with (first | refine wpList_store_row rfl 41 _ _ rfl w2.heap.size (nmC X) rfl rfl 41 _ (heap_alloc_new w2 (.cells zero9 41)) (Tryd.infoNm.trans (by rw [nmC_size])) (by rw [nmC_size]; rfl) (nmC_one X) ?_ | refine wpList_load_row rfl 41 _ rfl w2.heap.size rfl 41 _ (0, 0) _ PB.out.2.1 Tryd.underlying41 rfl (Tryd.infoNm.trans (by rw [nmC_size])) ?_)
  refine (nmText_any X _).mono ?_
  rintro e w3 ⟨rfl, b3⟩
  have P3 := hide (pbox_on PB.out b3)
  clear b3 PB RB2
  by_cases hT : nmT X = X
  · have hTn : (!((nmT X).toList == X.toList)) = false := by rw [txt_eq hT]; rfl
    have hTn2 := txt_eq hT
    have HT := hide hT
    clear hT
    go_wp2_with fail
    refine (allCmds_any _).mono ?_
    rintro e w4 ⟨rfl, b4⟩
    have P4 := hide (pbox_on P3.out b4)
    clear b4 P3
    go_wp2_with fail
    go_loopw [24] (fun ii wr => ∃ k : Nat, ii = .int .i64 (k : Int) ∧ k ≤ 41 ∧ Hid (∀ j, j < k → cmdsL[j]? ≠ some X) ∧ Hid (PBox w wr w2.heap.size X)) (fun ii _ => 41 - (intOf ii).toNat)
    case atStart => exact ⟨0, rfl, by omega, fun j hj => by omega, P4.out⟩
    case round =>
      obtain ⟨k, rfl, hk, HN, HP⟩ := hrel
      by_cases hlt : k < 41
      · have hlt' : decide ((k : Int) < 41) = true := by simp; omega
        obtain ⟨s, a, b', hs, hp, he⟩ := allV_get k hlt
        have hidx := all_index k hlt s a b' he
        have HBX := hide (cbox_new wr s a b')
        have hbw : Below wr.heap.size wr ((wr.alloc (.cells zeroC 45)).setRow wr.heap.size (cmdC s a b')) := cbox_below (Below.refl _ _) (Nat.le_refl _) s a b'
        have HP2 := hide (pbox_on HP.out hbw)
        have heq := fun W => eql_names s X W
        have hguard := Tryd.guardNm
        rw [names_same (cmd_name hs) HT.out] at heq
        by_cases hsX : s = X
        · rw [decide_eq_true hsX] at heq
          have HRR : Hid (R = cmdC s a b' ∧ K = true) := by
            have h1 := kinds_alike _ (pair_of hs hp)
            have h2 := effs_alike _ (pair_of hs hp)
            have h3 : inB cmdsL X = true := (inB_iff _ _).2 (hsX ▸ cmd_name hs)
            refine ⟨?_, ?_⟩
            · rw [HR.out, h3, if_pos rfl, ← hsX, show kindS s = a from h1, show effS s = b' from h2]
            · rw [HK.out, h3]
          clear hs hp he hsX hbw
          go_wp2_with (first | refine wpList_store_row rfl 45 _ _ rfl wr.heap.size _ rfl rfl 45 _ (heap_alloc_new wr (.cells zeroC 45)) (Tryd.infoCmd.trans (by rw [cmdC_size])) (by rw [cmdC_size]; rfl) (cmdC_one s a b') ?_ | refine wpList_load_part rfl 41 _ rfl wr.heap.size rfl 45 (nmC s) _ (0, 0) _ HBX.out Tryd.underlying41 rfl (Tryd.infoNm.trans (by rw [nmC_size])) ?_ | refine wpList_load_row rfl 41 _ rfl w2.heap.size rfl 41 _ (0, 0) _ HP2.out.2.1 Tryd.underlying41 rfl (Tryd.infoNm.trans (by rw [nmC_size])) ?_ | refine wpList_load_row rfl 45 _ rfl wr.heap.size rfl 45 (cmdC s a b') (0, 0) _ HBX.out Tryd.underlying45 rfl (Tryd.infoCmd.trans (by rw [cmdC_size])) ?_ | refine wpList_store_row rfl 45 _ _ rfl w.heap.size _ rfl rfl 45 _ HP2.out.1.1 (Tryd.infoCmd.trans (by rw [cmdC_size])) (by rw [cmdC_size]; rfl) (cmdC_one s a b') ?_)
          rw [HRR.out.1, HRR.out.2]
          exact bodyPost_ret (v := .tuple #[.agg (cmdC s a b'), .bool true]) (cmd_results _ _ w.heap.size (cmdC s a b') _ rfl (rbox_put HP2.out.1 _).1 (cmdC_size _ _ _) rfl) rfl ⟨rfl, (rbox_put HP2.out.1 _).2⟩
        · rw [decide_eq_false hsX] at heq
          have HN2 : Hid (∀ j, j < k + 1 → cmdsL[j]? ≠ some X) := by
            intro j hj
            by_cases hjk : j = k
            · subst hjk
              rw [hs]
              intro e
              exact hsX (Option.some.inj e)
            · exact HN.out j (by omega)
          clear hs hp he hsX hbw
          go_wp2_with (first | refine wpList_store_row rfl 45 _ _ rfl wr.heap.size _ rfl rfl 45 _ (heap_alloc_new wr (.cells zeroC 45)) (Tryd.infoCmd.trans (by rw [cmdC_size])) (by rw [cmdC_size]; rfl) (cmdC_one s a b') ?_ | refine wpList_load_part rfl 41 _ rfl wr.heap.size rfl 45 (nmC s) _ (0, 0) _ HBX.out Tryd.underlying41 rfl (Tryd.infoNm.trans (by rw [nmC_size])) ?_ | refine wpList_load_row rfl 41 _ rfl w2.heap.size rfl 41 _ (0, 0) _ HP2.out.2.1 Tryd.underlying41 rfl (Tryd.infoNm.trans (by rw [nmC_size])) ?_)
          go_roundw
          case rel => exact ⟨k + 1, by go_num, by omega, HN2, HP2⟩
          case measure => simp [intOf]; omega
      · have hlt' : decide ((k : Int) < 41) = false := by simp; omega
        have HRR : Hid (R = zeroC ∧ K = false) := by
          have h3 := not_in (X := X) (fun j hj => HN.out j (by omega))
          refine ⟨?_, ?_⟩
          · rw [HR.out, h3]
            rfl
          · rw [HK.out, h3]
        go_wp2_with (refine wpList_store_row rfl 45 _ _ rfl w.heap.size zeroC rfl rfl 45 _ HP.out.1.1 Tryd.infoCmd rfl zeroC_one ?_)
        rw [HRR.out.1, HRR.out.2]
        exact bodyPost_ret (v := .tuple #[.agg zeroC, .bool false]) (cmd_results _ _ w.heap.size zeroC _ rfl (rbox_put HP.out.1 zeroC).1 rfl rfl) rfl ⟨rfl, (rbox_put HP.out.1 zeroC).2⟩
  · have hTn : (!((nmT X).toList == X.toList)) = true := by rw [txt_ne hT]; rfl
    have hTn2 := txt_ne hT
    have HRR : Hid (R = zeroC ∧ K = false) := by
      have h3 := not_told hT
      refine ⟨?_, ?_⟩
      · rw [HR.out, h3]
        rfl
      · rw [HK.out, h3]
    clear hT
    go_wp2_with (refine wpList_store_row rfl 45 _ _ rfl w.heap.size zeroC rfl rfl 45 _ P3.out.1.1 Tryd.infoCmd rfl zeroC_one ?_)
    rw [HRR.out.1, HRR.out.2]
    exact bodyPost_ret (v := .tuple #[.agg zeroC, .bool false]) (cmd_results _ _ w.heap.size zeroC _ rfl (rbox_put P3.out.1 zeroC).1 rfl rfl) rfl ⟨rfl, (rbox_put P3.out.1 zeroC).2⟩
theorem kindS_range (x : ByteArray) : 0 ≤ kindS x ∧ kindS x ≤ 6 := by
  unfold kindS
  repeat' split
  all_goals omega
def CmdPost (ts : List ByteArray) (w : World) (e : Ending) (w' : World) : Prop :=
  ((knownS ts = false ∧ okS ts = false ∧ writesS ts = false ∧ e = .returned (.tuple #[.agg zeroC, .bool false])) ∨
    (knownS ts = true ∧ 0 < ts.length ∧ ∃ X k ef, e = .returned (.tuple #[.agg (cmdC X k ef), .bool true]) ∧ okS ts = takesK k ((ts.length : Int) - 1) ∧ (0 ≤ k ∧ k ≤ 6) ∧ writesS ts = (ef == 1))) ∧ Below w.heap.size w w'
theorem commandOf_any (ts : List ByteArray) (ao : Option Addr) (cap : Nat) (w : World) (hl : ts.length ≤ 1048576) (hts : TextsAt w ao ts) (hz : ∀ x ∈ ts, x.size ≤ 1048576) :
    Calls Tryd.prog 22 #[.slice ao ts.length cap] w (CmdPost ts w) := by
  cases ts with
  | nil =>
    refine (commandOf_nil cap ao w).mono ?_
    rintro e w' ⟨rfl, b⟩
    exact ⟨.inl ⟨rfl, rfl, rfl, rfl⟩, b⟩
  | cons x r =>
    refine (commandOf_cons x r ao cap w (by simpa using hl) hts (hz x List.mem_cons_self)).mono ?_
    rintro e w' ⟨rfl, b⟩
    refine ⟨?_, b⟩
    cases hk : inB cmdsL (upT x) with
    | false =>
      have h1 : knownS (x :: r) = false := hk
      have h2 : okS (x :: r) = false := by show (inB cmdsL (upT x) && _) = false; rw [hk]; rfl
      have h3 : writesS (x :: r) = false := by show (inB cmdsL (upT x) && _) = false; rw [hk]; rfl
      have h4 : cmdR (x :: r) = zeroC := by show (if inB cmdsL (upT x) then _ else _) = _; rw [hk]; rfl
      exact .inl ⟨h1, h2, h3, by rw [h1, h4]⟩
    | true =>
      have h1 : knownS (x :: r) = true := hk
      have h2 : okS (x :: r) = takesK (kindS (upT x)) (((x :: r).length : Int) - 1) := by
        show (inB cmdsL (upT x) && takesK (kindS (upT x)) (r.length : Int)) = _
        rw [hk, Bool.true_and, List.length_cons]
        congr 1
        omega
      have h3 : writesS (x :: r) = (effS (upT x) == 1) := by
        show (inB cmdsL (upT x) && !inB readsL (upT x)) = _
        rw [hk, Bool.true_and]
        unfold effS
        cases inB readsL (upT x) <;> rfl
      have h4 : cmdR (x :: r) = cmdC (upT x) (kindS (upT x)) (effS (upT x)) := by show (if inB cmdsL (upT x) then _ else _) = _; rw [hk]; rfl
      exact .inr ⟨h1, by simp, _, _, _, by rw [h1, h4], h2, kindS_range _, h3⟩
theorem takesK_6 (n : Int) (hn : 0 ≤ n) : takesK 6 n = (decide (n % 2 = 0) && decide (2 ≤ n) && decide (n ≤ 6)) := by
  have : takesK 6 n = (n == 2 || n == 4 || n == 6) := rfl
  rw [this, Bool.eq_iff_iff]
  simp
  omega
theorem takes_any (k n : Int) (w : World) (hk : 0 ≤ k ∧ k ≤ 6) (hn : 0 ≤ n) (hn2 : n ≤ 1048576) : Calls Tryd.prog 24 #[.int .i64 k, .int .i64 n] w fun e w' => e = .returned (.bool (takesK k n)) ∧ Below w.heap.size w w' := by
  have hc : k = 0 ∨ k = 1 ∨ k = 2 ∨ k = 3 ∨ k = 4 ∨ k = 5 ∨ k = 6 := by omega
  rcases hc with rfl | rfl | rfl | rfl | rfl | rfl | rfl
  all_goals clear hk
  case inr.inr.inr.inr.inr.inr =>
    go_enter Tryd.func24, Tryd.ntmps24
    go_wp2
    all_goals
      go_ret
      refine ⟨?_, Below.refl _ _⟩
      rw [takesK_6 n hn]
      first | (simp [*]; done) | (simp [*]; omega)
  all_goals
    go_enter Tryd.func24, Tryd.ntmps24
    go_wp2
    go_ret
    exact ⟨by simp [takesK], Below.refl _ _⟩
theorem implArityOk_any (ts : List ByteArray) (ao : Option Addr) (cap : Nat) (w : World) (hl : ts.length ≤ 1048576) (hts : TextsAt w ao ts) (hz : ∀ x ∈ ts, x.size ≤ 1048576) :
    Calls Tryd.prog 10 #[.slice ao ts.length cap] w fun e w' => e = .returned (.bool (okS ts)) ∧ Below w.heap.size w w' := by
  have CO := hide (commandOf_any ts ao cap w hl hts hz)
  clear hts hz
  go_enter Tryd.func10, Tryd.ntmps10
  go_wp2_with fail
  refine CO.out.mono ?_
  rintro e w1 ⟨⟨hk, hok, hw, rfl⟩ | ⟨hk, hpos, X, k, ef, rfl, hok, hkr, hw⟩, b1⟩
  · have B1 := hide b1
    have B2 := hide (below_setRow (b1.alloc b1.size (.cells zeroC 45)) b1.size zeroC)
    have HK := hide hk
    have HOK := hide hok
    have HW := hide hw
    clear b1 hk hok hw
    go_wp2_with (refine wpList_store_row rfl 45 _ _ rfl w1.heap.size zeroC rfl rfl 45 _ (heap_alloc_new w1 (.cells zeroC 45)) Tryd.infoCmd rfl zeroC_one ?_)
    go_ret
    exact ⟨by rw [HOK.out]; rfl, B2.out⟩
  · have B1 := hide b1
    have B2 := hide (below_setRow (b1.alloc b1.size (.cells zeroC 45)) b1.size (cmdC X k ef))
    have HBX := hide (cbox_new w1 X k ef)
    have hc9 : ((w1.alloc (.cells zeroC 45)).setRow w1.heap.size (cmdC X k ef)).cell? ⟨w1.heap.size, 9, none⟩ = some (.int .i64 k) := by
      rw [cell_of_row _ _ 9 _ _ (0, 0) HBX.out, Array.getElem?_append_right (Nat.le_of_eq (nmC_size _)), nmC_size]
      rfl
    have hc10 : ((w1.alloc (.cells zeroC 45)).setRow w1.heap.size (cmdC X k ef)).cell? ⟨w1.heap.size, 10, none⟩ = some (.int .i64 ef) := by
      rw [cell_of_row _ _ 10 _ _ (0, 0) HBX.out, Array.getElem?_append_right (by rw [nmC_size]; omega), nmC_size]
      rfl
    have HK := hide hk
    have HOK := hide hok
    have HW := hide hw
    clear b1 hk hok hw
    unfold zeroC at hc9 hc10
    have TK := hide (fun W => takes_any k ((ts.length : Int) - 1) W hkr (by omega) (by omega))
    go_wp2_with (refine wpList_store_row rfl 45 _ _ rfl w1.heap.size (cmdC X k ef) rfl rfl 45 _ (heap_alloc_new w1 (.cells zeroC 45)) (Tryd.infoCmd.trans (by rw [cmdC_size])) (by rw [cmdC_size]; rfl) (cmdC_one X k ef) ?_)
    refine (TK.out _).mono ?_
    rintro e w2 ⟨rfl, b2⟩
    go_wp2
    go_ret
    exact ⟨by rw [HOK.out]; rfl, B2.out.trans (b2.mono B2.out.size)⟩
theorem implWrites_any (ts : List ByteArray) (ao : Option Addr) (cap : Nat) (w : World) (hl : ts.length ≤ 1048576) (hts : TextsAt w ao ts) (hz : ∀ x ∈ ts, x.size ≤ 1048576) :
    Calls Tryd.prog 14 #[.slice ao ts.length cap] w fun e w' => e = .returned (.bool (writesS ts)) ∧ Below w.heap.size w w' := by
  have CO := hide (commandOf_any ts ao cap w hl hts hz)
  clear hts hz
  go_enter Tryd.func14, Tryd.ntmps14
  go_wp2_with fail
  refine CO.out.mono ?_
  rintro e w1 ⟨⟨hk, hok, hw, rfl⟩ | ⟨hk, hpos, X, k, ef, rfl, hok, hkr, hw⟩, b1⟩
  · have B1 := hide b1
    have B2 := hide (below_setRow (b1.alloc b1.size (.cells zeroC 45)) b1.size zeroC)
    have HK := hide hk
    have HOK := hide hok
    have HW := hide hw
    clear b1 hk hok hw
    go_wp2_with (refine wpList_store_row rfl 45 _ _ rfl w1.heap.size zeroC rfl rfl 45 _ (heap_alloc_new w1 (.cells zeroC 45)) Tryd.infoCmd rfl zeroC_one ?_)
    go_ret
    exact ⟨by rw [HW.out]; rfl, B2.out⟩
  · have B1 := hide b1
    have B2 := hide (below_setRow (b1.alloc b1.size (.cells zeroC 45)) b1.size (cmdC X k ef))
    have HBX := hide (cbox_new w1 X k ef)
    have hc9 : ((w1.alloc (.cells zeroC 45)).setRow w1.heap.size (cmdC X k ef)).cell? ⟨w1.heap.size, 9, none⟩ = some (.int .i64 k) := by
      rw [cell_of_row _ _ 9 _ _ (0, 0) HBX.out, Array.getElem?_append_right (Nat.le_of_eq (nmC_size _)), nmC_size]
      rfl
    have hc10 : ((w1.alloc (.cells zeroC 45)).setRow w1.heap.size (cmdC X k ef)).cell? ⟨w1.heap.size, 10, none⟩ = some (.int .i64 ef) := by
      rw [cell_of_row _ _ 10 _ _ (0, 0) HBX.out, Array.getElem?_append_right (by rw [nmC_size]; omega), nmC_size]
      rfl
    have HK := hide hk
    have HOK := hide hok
    have HW := hide hw
    clear b1 hk hok hw
    unfold zeroC at hc9 hc10
    go_wp2_with (refine wpList_store_row rfl 45 _ _ rfl w1.heap.size (cmdC X k ef) rfl rfl 45 _ (heap_alloc_new w1 (.cells zeroC 45)) (Tryd.infoCmd.trans (by rw [cmdC_size])) (by rw [cmdC_size]; rfl) (cmdC_one X k ef) ?_)
    go_ret
    exact ⟨by rw [HW.out]; rfl, B2.out⟩
theorem implUnknown_any (ts : List ByteArray) (ao : Option Addr) (cap : Nat) (w : World) (hl : ts.length ≤ 1048576) (hts : TextsAt w ao ts) (hz : ∀ x ∈ ts, x.size ≤ 1048576) :
    Calls Tryd.prog 9 #[.slice ao ts.length cap] w fun e w' => e = .returned (.string (unkS ts)) ∧ Below w.heap.size w w' := by
  have CO := hide (commandOf_any ts ao cap w hl hts hz)
  have AR := hide (fun W (h : TextsAt W ao ts) => implArityOk_any ts ao cap W hl h hz)
  have HT := hide hts
  clear hts hz
  go_enter Tryd.func9, Tryd.ntmps9
  go_wp2_with fail
  refine CO.out.mono ?_
  rintro e w1 ⟨⟨hk, hok, hw, rfl⟩ | ⟨hk, hpos, X, k, ef, rfl, hok, hkr, hw⟩, b1⟩
  · have B1 := hide b1
    have B2 := hide (below_setRow (b1.alloc b1.size (.cells zeroC 45)) b1.size zeroC)
    have HK := hide hk
    have HOK := hide hok
    have HW := hide hw
    clear b1 hk hok hw
    go_wp2_with (refine wpList_store_row rfl 45 _ _ rfl w1.heap.size zeroC rfl rfl 45 _ (heap_alloc_new w1 (.cells zeroC 45)) Tryd.infoCmd rfl zeroC_one ?_)
    refine (implFault_any unkT _ (by decide)).mono ?_
    rintro e w2 ⟨rfl, b2⟩
    go_wp2
    go_ret
    exact ⟨by unfold unkS; rw [HK.out]; rfl, B2.out.trans (b2.mono B2.out.size)⟩
  · have B1 := hide b1
    have B2 := hide (below_setRow (b1.alloc b1.size (.cells zeroC 45)) b1.size (cmdC X k ef))
    have HBX := hide (cbox_new w1 X k ef)
    have hc9 : ((w1.alloc (.cells zeroC 45)).setRow w1.heap.size (cmdC X k ef)).cell? ⟨w1.heap.size, 9, none⟩ = some (.int .i64 k) := by
      rw [cell_of_row _ _ 9 _ _ (0, 0) HBX.out, Array.getElem?_append_right (Nat.le_of_eq (nmC_size _)), nmC_size]
      rfl
    have hc10 : ((w1.alloc (.cells zeroC 45)).setRow w1.heap.size (cmdC X k ef)).cell? ⟨w1.heap.size, 10, none⟩ = some (.int .i64 ef) := by
      rw [cell_of_row _ _ 10 _ _ (0, 0) HBX.out, Array.getElem?_append_right (by rw [nmC_size]; omega), nmC_size]
      rfl
    have HK := hide hk
    have HOK := hide hok
    have HW := hide hw
    clear b1 hk hok hw
    unfold zeroC at hc9 hc10
    have HT2 := hide (textsAt_keep HT.out B2.out)
    go_wp2_with (refine wpList_store_row rfl 45 _ _ rfl w1.heap.size (cmdC X k ef) rfl rfl 45 _ (heap_alloc_new w1 (.cells zeroC 45)) (Tryd.infoCmd.trans (by rw [cmdC_size])) (by rw [cmdC_size]; rfl) (cmdC_one X k ef) ?_)
    refine (AR.out _ HT2.out).mono ?_
    rintro e w2 ⟨rfl, b2⟩
    have B3 := hide (B2.out.trans (b2.mono B2.out.size))
    clear b2
    cases ho : okS ts with
    | true =>
      go_wp2
      go_ret
      exact ⟨by unfold unkS; rw [HK.out, ho]; rfl, B3.out⟩
    | false =>
      go_wp2_with fail
      refine (implFault_any argT _ (by decide)).mono ?_
      rintro e w4 ⟨rfl, b4⟩
      go_wp2
      go_ret
      exact ⟨by unfold unkS; rw [HK.out, ho]; rfl, B3.out.trans (b4.mono B3.out.size)⟩
theorem bt_ext {s t : ByteArray} (h : s.size = t.size) (hb : ∀ p, p < t.size → Wd.bt s p = Wd.bt t p) : s = t := by
  apply ByteArray.ext_getElem h
  intro p h1 h2
  have := hb p h2
  rw [← Wd.bt_eq s p h1, ← Wd.bt_eq t p h2] at this
  exact UInt8.toNat_inj.1 this
theorem bt_left {a b : ByteArray} {p : Nat} (h : p < a.size) : Wd.bt (a ++ b) p = Wd.bt a p := by
  rw [← Wd.bt_eq (a ++ b) p (by rw [ByteArray.size_append]; omega), ← Wd.bt_eq a p h, ByteArray.getElem_append_left h]
theorem bt_right {a b : ByteArray} {p : Nat} (h : p < b.size) : Wd.bt (a ++ b) (a.size + p) = Wd.bt b p := by
  rw [← Wd.bt_eq (a ++ b) (a.size + p) (by rw [ByteArray.size_append]; omega), ← Wd.bt_eq b p h, ByteArray.getElem_append_right (by omega)]
  congr 2
  omega
theorem bt_ex (s : ByteArray) (a b p : Nat) (h : p < b - a) (hb : b ≤ s.size) : Wd.bt (s.extract a b) p = Wd.bt s (a + p) := by
  have h1 : p < (s.extract a b).size := by rw [ByteArray.size_extract]; omega
  have h2 : a + p < s.size := by omega
  rw [← Wd.bt_eq _ _ h1, ← Wd.bt_eq _ _ h2, ByteArray.getElem_extract]
def Wd.good (s : ByteArray) : Prop := s.size ≠ 0 ∧ s.size ≤ 10 ∧ Wd.digs s s.size ∧ (s.size = 1 ∨ Wd.bt s 0 ≠ 48) ∧ Wd.numF s s.size ≤ 1000000000
instance (s : ByteArray) : Decidable (Wd.good s) := by unfold Wd.good Wd.digs; infer_instance
def decV (l : ByteArray) : Option Nat := if Wd.good l then some (Wd.numF l l.size) else none
def valS (l : ByteArray) : Option Int :=
  match decV l with
  | some n => some (n : Int)
  | none => if 1 < l.size ∧ Wd.bt l 0 = 45 ∧ l ≠ ⟨#[45, 48]⟩ then (match decV (l.extract 1 l.size) with | some n => some (-(n : Int)) | none => none) else none
theorem decV_minus {l : ByteArray} (h : Wd.bt l 0 = 45) : decV l = none := by
  unfold decV
  rw [if_neg]
  intro hg
  have := (hg.2.2.1 0 (by have := hg.1; omega)).1
  omega
theorem decV_text {l : ByteArray} {n : Nat} (h : decV l = some n) : l = ⟨(Wd.decS (n : Int)).toArray⟩ ∧ n ≤ 1000000000 ∧ l.size ≤ 10 := by
  unfold decV at h
  split at h
  · rename_i hg
    simp at h
    subst h
    have e := (Wd.dec_canon l hg.2.2.1 hg.2.1).2 ⟨hg.1, hg.2.2.2.1⟩
    exact ⟨by rw [e], hg.2.2.2.2, hg.2.1⟩
  · cases h
theorem tail_text {l : ByteArray} {n : Nat} (hz : 1 < l.size) (h0 : Wd.bt l 0 = 45) (h : decV (l.extract 1 l.size) = some n) : l = ⟨(45 :: Wd.decS (n : Int)).toArray⟩ := by
  have e := (decV_text h).1
  have hs : (l.extract 1 l.size).size = l.size - 1 := by rw [ByteArray.size_extract]; omega
  have hc : (⟨(45 :: Wd.decS (n : Int)).toArray⟩ : ByteArray) = ⟨#[45]⟩ ++ l.extract 1 l.size := by rw [e]; exact (cat_list [45] _).symm
  rw [hc]
  have h1 : (⟨#[45]⟩ : ByteArray).size = 1 := rfl
  refine bt_ext (by rw [ByteArray.size_append]; omega) fun p hp => ?_
  rw [ByteArray.size_append] at hp
  by_cases hp0 : p = 0
  · subst hp0
    rw [bt_left (by decide), h0]
    rfl
  · obtain ⟨q, rfl⟩ : ∃ q, p = (⟨#[45]⟩ : ByteArray).size + q := ⟨p - 1, by omega⟩
    rw [bt_right (by omega), bt_ex l 1 l.size q (by omega) (by omega)]
    rfl
end Go.Proofs.YtpibnhodlojajaaDoor
