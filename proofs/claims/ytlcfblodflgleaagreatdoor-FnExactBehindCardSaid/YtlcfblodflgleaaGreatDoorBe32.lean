import Derived.Deep.RegionHeld3
import Derived.Laws.MakeOwn
import Derived.Test.YtlcfblodflgleaaGreatDoorBe31
import Derived.Test.YtlcfblodflgleaaGreatDoorBe0
import Derived.Test.YtlcfblodflgleaaGreatDoorBe29
import Derived.Test.YtlcfblodflgleaaGreatDoorBe20
import Derived.Test.YtlcfblodflgleaaGreatDoorBe2
set_option maxRecDepth 100000
set_option maxHeartbeats 1600000
namespace Go.Proofs.YtlcfblodflgleaaGreatDoor
open Go.RowKit
def cellsAct : List ActD → List Value
  | [] => []
  | A :: r => .int .i64 A.kind :: .string A.name :: .string A.text :: .string A.toN :: cellsAct r
theorem cellsAct_append : ∀ (a b : List ActD), cellsAct (a ++ b) = cellsAct a ++ cellsAct b
  | [], _ => rfl
  | A :: r, b => by simp [cellsAct, cellsAct_append r b]
theorem cellsAct_length : ∀ a : List ActD, (cellsAct a).length = a.length * 4
  | [] => rfl
  | A :: r => by simp [cellsAct, cellsAct_length r]; omega
theorem cellsAct_one : ∀ (a : List ActD), ∀ u ∈ cellsAct a, u.oneCell' = true
  | [], u, h => absurd h List.not_mem_nil
  | A :: r, u, h => by
    simp only [cellsAct, List.mem_cons] at h
    rcases h with rfl | rfl | rfl | rfl | h
    · rfl
    · rfl
    · rfl
    · rfl
    · exact cellsAct_one r u h
theorem cellsAct_get : ∀ (a : List ActD) (j : Nat) (h : j < a.length), (cellsAct a)[j * 4]? = some (.int .i64 a[j].kind) ∧ (cellsAct a)[j * 4 + 1]? = some (.string a[j].name) ∧ (cellsAct a)[j * 4 + 2]? = some (.string a[j].text) ∧ (cellsAct a)[j * 4 + 3]? = some (.string a[j].toN)
  | [], _, h => absurd h (by simp)
  | A :: r, 0, _ => by simp [cellsAct]
  | A :: r, j + 1, h => by
    have := cellsAct_get r j (by simpa using h)
    have e : (j + 1) * 4 = j * 4 + 4 := by omega
    simp only [cellsAct, e]
    simpa using this
def RowAct (w : World) (B : Nat) (v : Value) (fs : List ActD) : Prop := (v = .slice none 0 0 ∧ fs = []) ∨
  ∃ (g cap : Nat) (C : Array Value), v = .slice (some ⟨g, 0, none⟩) fs.length cap ∧ B ≤ g ∧ w.heap[g]? = some (.cells C 61 (0, 0)) ∧ fs.length * 4 ≤ C.size ∧ ActsIn C fs fs.length
theorem rowAct_at {w : World} {B : Nat} {v : Value} {fs : List ActD} (h : RowAct w B v fs) : ∃ ao cap, v = .slice ao fs.length cap ∧ ActsAt w ao fs := by
  rcases h with ⟨rfl, rfl⟩ | ⟨g, cap, C, rfl, _, hC, _, hI⟩
  · exact ⟨none, 0, rfl, fun j hj => absurd hj (by simp)⟩
  · exact ⟨_, cap, rfl, actsAt_own hC hI⟩
theorem take_getAct {C : Array Value} {xs : List Value} {n : Nat} (h : C.toList.take n = xs) {j : Nat} {u : Value} (hj : j < n) (hu : xs[j]? = some u) : C[j]? = some u := by
  rw [← h, List.getElem?_take_of_lt hj] at hu
  simpa using hu
theorem rowAct_own {w : World} {B : Nat} {v : Value} {fs : List ActD} (h : w.ownsRow B 61 4 v fs.length (cellsAct fs)) : RowAct w B v fs := by
  rcases h.2 with ⟨rfl, hn⟩ | ⟨g, cap, cur, rfl, hB, hC, hle, _, hs, ht⟩
  · exact .inl ⟨rfl, List.eq_nil_of_length_eq_zero hn⟩
  · refine .inr ⟨g, cap, cur, rfl, hB, hC, by omega, ?_⟩
    intro j hj _
    obtain ⟨h0, h1, h2, h3⟩ := cellsAct_get fs j hj
    exact ⟨take_getAct ht (by omega) h0, take_getAct ht (by omega) h1, take_getAct ht (by omega) h2, take_getAct ht (by omega) h3⟩
theorem app_act {ops : Array Oper} {rest : List Oper} {o : Oper} {a : Act} {Q : Exit → Act → World → Prop} (W : World) (B : Nat) (hgd : o.guard = none) (s y : Operand)
    (ho : o.op = .call { callee := .builtin .append, args := #[s, y], argTypes := #[35, 35] }) (v : Value) (l : List ActD) (F : ActD) (hs : a.eval s = v)
    (hown : W.ownsRow B 61 4 v l.length (cellsAct l)) (k : Nat) (hx : a.eval y = .slice (some ⟨k, 0, none⟩) 1 1) (hblk : W.heap[k]? = some (.cells #[.int .i64 F.kind, .string F.name, .string F.text, .string F.toN] 61 (0, 0)))
    (hlen : l.length ≤ 1048576) (hbase : B ≤ W.heap.size)
    (h : ∀ g cap w', w'.ownsRow B 61 4 (.slice (some ⟨g, 0, none⟩) (l.length + 1) cap) (l ++ [F]).length (cellsAct (l ++ [F])) → Below B W w' → B ≤ g → g < w'.heap.size → wpList Tryz.prog ops Q rest (a.put o.dst (.slice (some ⟨g, 0, none⟩) (l.length + 1) cap)) w') :
    wpList Tryz.prog ops Q (o :: rest) a W := by
  obtain ⟨i0, hi, hz0, hz1, hz2⟩ := info_parts Tryz.infoAct
  refine wpList_append_lies W hgd s y 35 ho B 61 i0 (.agg #[.int .i64 0, .string ⟨#[]⟩, .string ⟨#[]⟩, .string ⟨#[]⟩]) 4 56 Tryz.underlying35 hi hz0 hz1 hz2 rfl (by decide) v l.length (cellsAct l) hs hown ⟨k, 0, none⟩ 1 1 (cellsAct [F]) hx (by rw [cellsAct_length]; rfl)
    (fun j u hj => World.news_of_block hblk j u hj) (cellsAct_one [F]) (by omega) (by unfold maxLen; omega) (by omega) hbase W.heap.size rfl ?_
  intro g cap w' hown' hgrow hg hgl
  have hlt := hown.lt
  refine h g cap w' ?_ ((Below.refl B W).grown hgrow hbase (fun k hk => (hlt k hk).1)) ?_ hgl
  · rw [cellsAct_append, List.length_append]
    exact hown'
  · rcases hg with hg | rfl
    · exact (hlt g hg).1
    · exact hbase
theorem app_acts {ops : Array Oper} {rest : List Oper} {o : Oper} {a : Act} {Q : Exit → Act → World → Prop} (W : World) (B : Nat) (hgd : o.guard = none) (s y : Operand)
    (ho : o.op = .call { callee := .builtin .append, args := #[s, y], argTypes := #[35, 35] }) (v : Value) (l rs : List ActD) (hs : a.eval s = v)
    (hown : W.ownsRow B 61 4 v l.length (cellsAct l)) (k n : Nat) (hn : rs.length = n) (hx : a.eval y = .slice (some ⟨k, 0, none⟩) n n) (hblk : W.heap[k]? = some (.cells (cellsAct rs).toArray 61 (0, 0)))
    (hlen : l.length ≤ 1048576) (hn0 : 0 < n) (hn1 : n ≤ 1000) (hbase : B ≤ W.heap.size)
    (h : ∀ g cap w', w'.ownsRow B 61 4 (.slice (some ⟨g, 0, none⟩) (l.length + n) cap) (l ++ rs).length (cellsAct (l ++ rs)) → Below B W w' → B ≤ g → g < w'.heap.size → wpList Tryz.prog ops Q rest (a.put o.dst (.slice (some ⟨g, 0, none⟩) (l.length + n) cap)) w') :
    wpList Tryz.prog ops Q (o :: rest) a W := by
  subst hn
  obtain ⟨i0, hi, hz0, hz1, hz2⟩ := info_parts Tryz.infoAct
  refine wpList_append_lies W hgd s y 35 ho B 61 i0 (.agg #[.int .i64 0, .string ⟨#[]⟩, .string ⟨#[]⟩, .string ⟨#[]⟩]) 4 56 Tryz.underlying35 hi hz0 hz1 hz2 rfl (by decide) v l.length (cellsAct l) hs hown ⟨k, 0, none⟩ rs.length rs.length (cellsAct rs) hx (by rw [cellsAct_length])
    (fun j u hj => World.news_of_block hblk j u (by simpa using hj)) (cellsAct_one rs) (by omega) (by unfold maxLen; omega) (by omega) hbase W.heap.size rfl ?_
  intro g cap w' hown' hgrow hg hgl
  have hlt := hown.lt
  refine h g cap w' ?_ ((Below.refl B W).grown hgrow hbase (fun k hk => (hlt k hk).1)) ?_ hgl
  · rw [cellsAct_append, List.length_append]
    exact hown'
  · rcases hg with hg | rfl
    · exact (hlt g hg).1
    · exact hbase
theorem app_actsR {ops : Array Oper} {rest : List Oper} {o : Oper} {a : Act} {Q : Exit → Act → World → Prop} (W : World) (B : Nat) (hgd : o.guard = none) (s y : Operand)
    (ho : o.op = .call { callee := .builtin .append, args := #[s, y], argTypes := #[35, 35] }) (v : Value) (l rs : List ActD) (hs : a.eval s = v)
    (hown : W.ownsRow B 61 4 v l.length (cellsAct l)) (B2 n : Nat) (v2 : Value) (hn : rs.length = n) (hx : a.eval y = v2) (hown2 : W.ownsRow B2 61 4 v2 rs.length (cellsAct rs))
    (hlen : l.length ≤ 1048576) (hn0 : 0 < n) (hn1 : n ≤ 1000000) (hbase : B ≤ W.heap.size)
    (h : ∀ g cap w', w'.ownsRow B 61 4 (.slice (some ⟨g, 0, none⟩) (l.length + n) cap) (l ++ rs).length (cellsAct (l ++ rs)) → Below B W w' → B ≤ g → g < w'.heap.size → wpList Tryz.prog ops Q rest (a.put o.dst (.slice (some ⟨g, 0, none⟩) (l.length + n) cap)) w') :
    wpList Tryz.prog ops Q (o :: rest) a W := by
  subst hn
  obtain ⟨i0, hi, hz0, hz1, hz2⟩ := info_parts Tryz.infoAct
  rcases hown2.2 with ⟨rfl, hn⟩ | ⟨g2, cap2, cur2, rfl, -⟩
  · omega
  refine wpList_append_lies W hgd s y 35 ho B 61 i0 (.agg #[.int .i64 0, .string ⟨#[]⟩, .string ⟨#[]⟩, .string ⟨#[]⟩]) 4 56 Tryz.underlying35 hi hz0 hz1 hz2 rfl (by decide) v l.length (cellsAct l) hs hown ⟨g2, 0, none⟩ rs.length cap2 (cellsAct rs) hx (by rw [cellsAct_length])
    (fun j u hj => hown2.cells (g := g2) rfl j u hj) (cellsAct_one rs) (by omega) (by unfold maxLen; omega) (by omega) hbase W.heap.size rfl ?_
  intro g cap w' hown' hgrow hg hgl
  have hlt := hown.lt
  refine h g cap w' ?_ ((Below.refl B W).grown hgrow hbase (fun k hk => (hlt k hk).1)) ?_ hgl
  · rw [cellsAct_append, List.length_append]
    exact hown'
  · rcases hg with hg | rfl
    · exact (hlt g hg).1
    · exact hbase
def TextsAt (w : World) (ao : Option Addr) (ts : List ByteArray) : Prop := ∀ j (h : j < ts.length), ∃ b off : Nat, ao = some ⟨b, off, none⟩ ∧ b < w.heap.size ∧ w.cell? ⟨b, off + j, none⟩ = some (.string ts[j])
theorem textsAt_keep {w w' : World} {ao : Option Addr} {ts : List ByteArray} (h : TextsAt w ao ts) (hb : Below w.heap.size w w') : TextsAt w' ao ts := by
  intro j hj
  obtain ⟨b, off, h1, h2, h3⟩ := h j hj
  exact ⟨b, off, h1, Nat.lt_of_lt_of_le h2 hb.size, (hb.cell (p := ⟨b, off + j, none⟩) h2).trans h3⟩
theorem isSegmentBelow_any (m : Nat) (nm : ByteArray) (w : World) (hm : m ≤ 100) :
    Calls Tryz.prog 134 #[.int .i64 (m : Int), .string nm] w fun e w' => e = .returned (.bool (isBelow m nm)) ∧ w' = w := by
  obtain ⟨R, HR⟩ : ∃ R, Hid (isBelow m nm = R) := ⟨_, hide rfl⟩
  rw [HR.out]
  go_enter Tryz.func134, Tryz.ntmps134
  go_wp2_with fail
  go_loopw [7] (fun ii wr => ∃ (k : Nat), ii = .int .i64 k ∧ k ≤ m ∧ Hid (isBelow k nm = false) ∧ wr = w) (fun ii _ => m - (intOf ii).toNat)
  case atStart => exact ⟨0, rfl, Nat.zero_le _, rfl, rfl⟩
  case round =>
    obtain ⟨k, rfl, hk, HK, rfl⟩ := hrel
    by_cases hlt : k < m
    · have hlt' : decide ((k : Int) < (m : Int)) = true := by simp; omega
      obtain ⟨X, HX⟩ : ∃ X, Hid (segNm (k : Int) = X) := ⟨_, hide rfl⟩
      have HN : Hid (∀ W : World, Calls Tryz.prog 115 #[.int .i64 (k : Int)] W fun e w' => e = .returned (.string X) ∧ w' = W) := fun W => by rw [← HX.out]; exact implSegName_any (k : Int) W
      cases hb : (X.toList == nm.toList) with
      | true =>
        have hE : Hid (R = true) := by show _ = _; rw [← HR.out]; exact isBelow_at hlt (by rw [HX.out]; exact hb)
        go_wp2_with fail
        refine (HN.out _).mono ?_
        rintro e w1 ⟨rfl, rfl⟩
        go_wp2
        go_ret
        rw [hE.out]
        exact ⟨rfl, rfl⟩
      | false =>
        have hE : Hid (isBelow (k + 1) nm = false) := by show _ = _; rw [isBelow_succ, HK.out, HX.out, hb]; rfl
        go_wp2_with fail
        refine (HN.out _).mono ?_
        rintro e w1 ⟨rfl, rfl⟩
        go_wp2
        go_roundw
        case rel => exact ⟨k + 1, by go_num, by omega, hE, by first | rfl | trivial⟩
        case measure => simp [intOf]; omega
    · have hlt' : decide ((k : Int) < (m : Int)) = false := by simp; omega
      have hke : k = m := by omega
      subst hke
      have hE : Hid (R = false) := by show _ = _; rw [← HR.out]; exact HK.out
      go_wp2
      go_ret
      rw [hE.out]
      exact ⟨rfl, rfl⟩
theorem seven_cells {W : World} {g : Nat} {a b c d e f f' : Value} {t : TypeId} (h : W.heap[g]? = some (.cells #[a, b, c, d, e, f, f'] t (0, 0))) : W.cell? ⟨g, 0, none⟩ = some a ∧ W.cell? ⟨g, 1, none⟩ = some b ∧ W.cell? ⟨g, 2, none⟩ = some c ∧ W.cell? ⟨g, 3, none⟩ = some d ∧ W.cell? ⟨g, 4, none⟩ = some e ∧ W.cell? ⟨g, 5, none⟩ = some f ∧ W.cell? ⟨g, 6, none⟩ = some f' :=
  ⟨(cell_of_row W g 0 _ _ (0, 0) h).trans rfl, (cell_of_row W g 1 _ _ (0, 0) h).trans rfl, (cell_of_row W g 2 _ _ (0, 0) h).trans rfl, (cell_of_row W g 3 _ _ (0, 0) h).trans rfl, (cell_of_row W g 4 _ _ (0, 0) h).trans rfl, (cell_of_row W g 5 _ _ (0, 0) h).trans rfl, (cell_of_row W g 6 _ _ (0, 0) h).trans rfl⟩
theorem lastOf_any (l : List SegD) (v : Value) (B K : Nat) (w : World) (hl : l.length ≤ 100) (h0 : 0 < l.length) (h : BuildG w B K v l) :
    Calls Tryz.prog 106 #[v] w fun e w' => (∃ a c a' c', e = .returned (.agg #[.int .i64 ((l[l.length - 1]'(by omega)).num : Int), .int .i64 ((l[l.length - 1]'(by omega)).frm : Int), .slice a (l[l.length - 1]'(by omega)).bs.length c, .slice a' (l[l.length - 1]'(by omega)).pls.length c', .int .i64 ((l[l.length - 1]'(by omega)).fin : Int), .bool (l[l.length - 1]'(by omega)).right, .bool (l[l.length - 1]'(by omega)).torn]) ∧ RowBatch w K (.slice a (l[l.length - 1]'(by omega)).bs.length c) (l[l.length - 1]'(by omega)).bs) ∧ Below w.heap.size w w' := by
  obtain ⟨ao, cap, rfl⟩ := buildG_form h
  obtain ⟨g, hg, hgw, hc0, hc1, ⟨a, c, hc2, hrb⟩, ⟨a', c', hc3, hrp⟩, hc4, hc5, hc6⟩ := buildG_at h (l.length - 1) (by omega)
  subst hg
  have HRB := hide hrb
  clear hrb hrp h
  generalize l[l.length - 1]'(by omega) = F at hc0 hc1 hc2 hc3 hc4 hc5 hc6 HRB
  have hj0 : (0 : Int) ≤ (l.length : Int) - 1 := by omega
  have hj1 : (l.length : Int) - 1 < (l.length : Int) := by omega
  have hjn : ((l.length : Int) - 1).toNat = l.length - 1 := by omega
  have hjw : IntKind.i64.wrap ((l.length : Int) - 1) = (l.length : Int) - 1 := by rw [IntKind.wrap_i64]; omega
  go_enter Tryz.func106, Tryz.ntmps106
  go_wp2
  obtain ⟨y0, y1, y2, y3, y4, y5, y6⟩ := seven_cells (heap_alloc_new w (.cells #[.int .i64 (F.num : Int), .int .i64 (F.frm : Int), .slice a F.bs.length c, .slice a' F.pls.length c', .int .i64 (F.fin : Int), .bool F.right, .bool F.torn] 173))
  refine bodyPost_ret (v := .agg #[.int .i64 (F.num : Int), .int .i64 (F.frm : Int), .slice a F.bs.length c, .slice a' F.pls.length c', .int .i64 (F.fin : Int), .bool F.right, .bool F.torn]) ?_ rfl ?_
  · simp [results, Tryz.results106, go_sem, y0, y1, y2, y3, y4, y5, y6]
  · exact ⟨⟨a, c, a', c', rfl, HRB.out⟩, (Below.refl _ w).alloc (Nat.le_refl _) _⟩
theorem newFileActs_any (nm : ByteArray) (ts : List ByteArray) (ao : Option Addr) (cap : Nat) (w : World) (hl : ts.length ≤ 1000000) (hts : TextsAt w ao ts) :
    Calls Tryz.prog 114 #[.string nm, .slice ao ts.length cap] w fun e w' => (∃ a c, e = .returned (.slice a (ts.length + 2) c) ∧ w'.ownsRow w.heap.size 61 4 (.slice a (ts.length + 2) c) (newsA nm ts).length (cellsAct (newsA nm ts))) ∧ Below w.heap.size w w' := by
  have HTS := hide hts
  clear hts
  go_enter Tryz.func114, Tryz.ntmps114
  go_wp2_with fail
  go_loopw [5, 10] (fun vo ii wr => ∃ (k : Nat), ii = .int .i64 k ∧ k ≤ ts.length ∧ Hid (wr.ownsRow w.heap.size 61 4 vo ((ts.take k).map addA).length (cellsAct ((ts.take k).map addA))) ∧ Hid (Below w.heap.size w wr)) (fun _ ii _ => ts.length - (intOf ii).toNat)
  case atStart => exact ⟨0, rfl, Nat.zero_le _, World.ownsRow_nil _ _ _ _, Below.refl _ _⟩
  case round =>
    obtain ⟨k, rfl, hk, HO, HB⟩ := hrel
    have hws := HB.out.size
    by_cases hlt : k < ts.length
    · have hlt' : decide ((k : Int) < (ts.length : Int)) = true := by simp; omega
      have hi0 : (0 : Int) ≤ (k : Int) := by omega
      have hi1 : (k : Int) < (ts.length : Int) := by omega
      obtain ⟨b, off, hab, hbw, hc0⟩ := textsAt_keep HTS.out HB.out k hlt
      have htk := hide (List.take_succ_eq_append_getElem hlt)
      generalize ts[k] = T at hc0 htk
      subst hab
      obtain ⟨L, HL⟩ : ∃ L, Hid ((ts.take k).map addA = L) := ⟨_, hide rfl⟩
      have hLl : L.length ≤ 1048576 := by
        rw [← HL.out, List.length_map, List.length_take]
        omega
      rw [HL.out] at HO
      go_wp2_with fail
      refine (ownText_any ⟨#[109, 43]⟩ _ (by decide)).mono ?_
      rintro e w3 ⟨rfl, b3⟩
      have B3 := hide b3
      have hw3 := b3.size
      clear b3
      go_wp2_with (at_builtin; refine app_act _ w.heap.size (by rfl) _ _ (by rfl) _ L (addA T) (by rfl) ((ownsRow_below HO.out B3.out).alloc _) w3.heap.size (by rfl) (heap_alloc_new w3 _) hLl (by simp; omega) ?_; intro g5 cap5 w5 ho5 hb5 hg5 hgl5; have HO5 := hide ho5; have HB5 := hide hb5; clear ho5 hb5 hg5 hgl5)
      go_roundw
      case rel =>
        refine ⟨k + 1, by go_num, by omega, ?_, ((HB.out.trans (B3.out.mono hws)).alloc (by omega) _).trans HB5.out⟩
        show World.ownsRow _ _ _ _ _ _ _
        rw [htk.out, List.map_append, HL.out]
        exact HO5.out
      case measure => simp [intOf]; omega
    · have hlt' : decide ((k : Int) < (ts.length : Int)) = false := by simp; omega
      have hke : k = ts.length := by omega
      subst hke
      rw [List.take_length] at HO
      obtain ⟨L, HL⟩ : ∃ L, Hid (ts.map addA = L) := ⟨_, hide rfl⟩
      have hLl : L.length ≤ 1048576 := by
        rw [← HL.out, List.length_map]
        omega
      have hLe : Hid (L.length = ts.length) := by show _ = _; rw [← HL.out, List.length_map]
      rw [HL.out] at HO
      have HE : Hid (newsA nm ts = L ++ [⟨2, nmNew, ⟨#[]⟩, ⟨#[]⟩⟩, ⟨3, nmNew, ⟨#[]⟩, nm⟩]) := by show _ = _; unfold newsA; rw [HL.out]
      go_wp2_with fail
      refine (ownText_any ⟨#[109, 43]⟩ _ (by decide)).mono ?_
      rintro e w3 ⟨rfl, b3⟩
      have B3 := hide b3
      have hw3 := b3.size
      clear b3
      go_wp2_with fail
      refine (ownText_any ⟨#[109, 43]⟩ _ (by decide)).mono ?_
      rintro e w4 ⟨rfl, b4⟩
      have B4 := hide (B3.out.trans (b4.mono B3.out.size))
      have hw4 := b4.size
      clear b4
      go_wp2_with (at_builtin; refine app_acts _ w.heap.size (by rfl) _ _ (by rfl) _ L [⟨2, nmNew, ⟨#[]⟩, ⟨#[]⟩⟩, ⟨3, nmNew, ⟨#[]⟩, nm⟩] (by rfl) ((ownsRow_below HO.out B4.out).alloc _) w4.heap.size 2 (by rfl) (by rfl) (heap_alloc_new w4 _) hLl (by omega) (by omega) (by simp; omega) ?_; intro g5 cap5 w5 ho5 hb5 hg5 hgl5; have HO5 := hide ho5; have HB5 := hide hb5; clear ho5 hb5 hg5 hgl5)
      rw [hLe.out] at HO5 ⊢
      go_ret
      rw [HE.out]
      exact ⟨⟨_, _, rfl, HO5.out⟩, ((HB.out.trans (B4.out.mono hws)).alloc (by omega) _).trans HB5.out⟩
theorem newFileActs_one (nm text : ByteArray) (k : Nat) (w : World) (hk : k < w.heap.size) (hc : w.cell? ⟨k, 0, none⟩ = some (.string text)) :
    Calls Tryz.prog 114 #[.string nm, .slice (some ⟨k, 0, none⟩) 1 1] w fun e w' => (∃ a c, e = .returned (.slice a 3 c) ∧ w'.ownsRow w.heap.size 61 4 (.slice a 3 c) (newA nm text).length (cellsAct (newA nm text))) ∧ Below w.heap.size w w' :=
  newFileActs_any nm [text] (some ⟨k, 0, none⟩) 1 w (by simp) (fun j hj => by
    have hj0 : j = 0 := by simp at hj; omega
    subst hj0
    exact ⟨k, 0, rfl, hk, hc⟩)
end Go.Proofs.YtlcfblodflgleaaGreatDoor
