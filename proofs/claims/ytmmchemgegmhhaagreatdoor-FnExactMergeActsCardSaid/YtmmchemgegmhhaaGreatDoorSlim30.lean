import Derived.Laws.AppendOwnNone
import Derived.Test.YtmmchemgegmhhaaGreatDoorSlim25
import Derived.Test.YtmmchemgegmhhaaGreatDoorSlim0
import Derived.Test.YtmmchemgegmhhaaGreatDoorSlim26
import Derived.Test.YtmmchemgegmhhaaGreatDoorSlim6
import Derived.Test.YtmmchemgegmhhaaGreatDoorSlim9
import Derived.Test.YtmmchemgegmhhaaGreatDoorSlim14
import Derived.Test.YtmmchemgegmhhaaGreatDoorSlim7
import Derived.Test.YtmmchemgegmhhaaGreatDoorSlim28
import Derived.Test.YtmmchemgegmhhaaGreatDoorSlim24
import Derived.Test.YtmmchemgegmhhaaGreatDoorSlim3
import Derived.Test.YtmmchemgegmhhaaGreatDoorSlim29
import Derived.Test.YtmmchemgegmhhaaGreatDoorSlim17
import Derived.Test.YtmmchemgegmhhaaGreatDoorSlim2
import Derived.Test.YtmmchemgegmhhaaGreatDoorSlim1
set_option maxRecDepth 100000
set_option maxHeartbeats 6400000
namespace Go.Proofs.YtmmchemgegmhhaaGreatDoor
open Go.RowKit
def RowT (w : World) (B : Nat) (v : Value) (ts : List ByteArray) : Prop := (v = .slice none 0 0 ∧ ts = []) ∨ (0 < ts.length ∧ w.ownsRow B 9 1 v ts.length (ts.map Value.string))
theorem rowT_below {w w' : World} {B : Nat} {v : Value} {ts : List ByteArray} (h : RowT w B v ts) (hb : Below w.heap.size w w') : RowT w' B v ts := by
  rcases h with h | ⟨h0, h⟩
  · exact .inl h
  · exact .inr ⟨h0, ownsRow_below h hb⟩
theorem rowT_own {w : World} {B : Nat} {v : Value} {ts : List ByteArray} (h : RowT w B v ts) : w.ownsRow B 9 1 v ts.length (ts.map Value.string) := by
  rcases h with ⟨rfl, rfl⟩ | ⟨-, h⟩
  · exact World.ownsRow_nil _ _ _ _
  · exact h
theorem rowT_le {w : World} {B B' : Nat} {v : Value} {ts : List ByteArray} (h : RowT w B v ts) (hB : B' ≤ B) : RowT w B' v ts := by
  rcases h with h | ⟨h0, h⟩
  · exact .inl h
  · exact .inr ⟨h0, ownsRow_mono h hB⟩
theorem rowT_form {w : World} {B : Nat} {v : Value} {ts : List ByteArray} (h : RowT w B v ts) : ∃ a c, v = .slice a ts.length c := slice_form (rowT_own h)
theorem textsAt_own {w : World} {B n cap : Nat} {ao : Option Addr} {ts : List ByteArray} (h : w.ownsRow B 9 1 (.slice ao n cap) ts.length (ts.map Value.string)) : TextsAt w ao ts := by
  intro j hj
  rcases h.2 with ⟨_, hn⟩ | ⟨g, cap', cur, hv, hB, hC, hle, _, hs, ht⟩
  · omega
  · cases hv
    refine ⟨g, 0, rfl, (Array.getElem?_eq_some_iff.1 hC).1, ?_⟩
    rw [Nat.zero_add]
    exact (cell_of_row w g j _ _ (0, 0) hC).trans (take_getChange ht (by omega) (by simp [hj]))
theorem one_texts (ts : List ByteArray) : ∀ u ∈ ts.map Value.string, u.oneCell' = true := by
  intro u hu
  obtain ⟨b, _, rfl⟩ := List.mem_map.1 hu
  rfl
theorem app_tx {ops : Array Oper} {rest : List Oper} {o : Oper} {a : Act} {Q : Exit → Act → World → Prop} (W : World) (B : Nat) (hgd : o.guard = none) (s y : Operand)
    (ho : o.op = .call { callee := .builtin .append, args := #[s, y], argTypes := #[156, 156] }) (v : Value) (l : List ByteArray) (x : ByteArray) (hs : a.eval s = v)
    (hown : W.ownsRow B 9 1 v l.length (l.map Value.string)) (k : Nat) (hx : a.eval y = .slice (some ⟨k, 0, none⟩) 1 1) (hblk : W.heap[k]? = some (.cells #[.string x] 9 (0, 0)))
    (hlen : l.length ≤ 1048576) (hbase : B ≤ W.heap.size)
    (h : ∀ g cap w', w'.ownsRow B 9 1 (.slice (some ⟨g, 0, none⟩) (l.length + 1) cap) (l ++ [x]).length ((l ++ [x]).map Value.string) → Below B W w' → wpList Tryz.prog ops Q rest (a.put o.dst (.slice (some ⟨g, 0, none⟩) (l.length + 1) cap)) w') :
    wpList Tryz.prog ops Q (o :: rest) a W := by
  obtain ⟨i0, hi, hz0, hz1, hz2⟩ := info_parts Tryz.info9
  refine wpList_append_lies W hgd s y 156 ho B 9 i0 (.string ⟨#[]⟩) 1 16 Tryz.underlying156 hi hz0 hz1 hz2 rfl (by decide) v l.length (l.map Value.string) hs hown ⟨k, 0, none⟩ 1 1 ([x].map Value.string) hx rfl
    (fun j u hj => World.news_of_block hblk j u hj) (one_texts [x]) (by omega) (by unfold maxLen; omega) (by omega) hbase W.heap.size rfl ?_
  intro g cap w' hown' hgrow hg hgl
  have hlt := hown.lt
  refine h g cap w' ?_ ((Below.refl B W).grown hgrow hbase (fun k hk => (hlt k hk).1))
  rw [List.map_append, List.length_append]
  exact hown'
theorem app_txs {ops : Array Oper} {rest : List Oper} {o : Oper} {a : Act} {Q : Exit → Act → World → Prop} (W : World) (B : Nat) (hgd : o.guard = none) (s y : Operand)
    (ho : o.op = .call { callee := .builtin .append, args := #[s, y], argTypes := #[156, 156] }) (v : Value) (l rs : List ByteArray) (hs : a.eval s = v)
    (hown : W.ownsRow B 9 1 v l.length (l.map Value.string)) (B2 : Nat) (v2 : Value) (hx : a.eval y = v2) (hrow : RowT W B2 v2 rs)
    (hlen : l.length + rs.length ≤ 1048576) (hbase : B ≤ W.heap.size)
    (h : ∀ v' w', w'.ownsRow B 9 1 v' (l ++ rs).length ((l ++ rs).map Value.string) → Below B W w' → wpList Tryz.prog ops Q rest (a.put o.dst v') w') :
    wpList Tryz.prog ops Q (o :: rest) a W := by
  obtain ⟨i0, hi, hz0, hz1, hz2⟩ := info_parts Tryz.info9
  rcases hrow with ⟨rfl, rfl⟩ | ⟨h0, hown2⟩
  · refine wpList_append_own_none hgd s y 156 ho B 9 i0 1 Tryz.underlying156 hi v l.length (l.map Value.string) hs hown hx ?_
    refine h v W ?_ (Below.refl _ _)
    rw [List.append_nil]
    exact hown
  · rcases hown2.2 with ⟨rfl, hn⟩ | ⟨g2, cap2, cur2, rfl, -⟩
    · omega
    refine wpList_append_lies W hgd s y 156 ho B 9 i0 (.string ⟨#[]⟩) 1 16 Tryz.underlying156 hi hz0 hz1 hz2 rfl (by decide) v l.length (l.map Value.string) hs hown ⟨g2, 0, none⟩ rs.length cap2 (rs.map Value.string) hx (by rw [List.length_map]; omega)
      (fun j u hj => hown2.cells (g := g2) rfl j u hj) (one_texts rs) (by omega) (by unfold maxLen; omega) (by omega) hbase W.heap.size rfl ?_
    intro g cap w' hown' hgrow hg hgl
    have hlt := hown.lt
    refine h _ w' ?_ ((Below.refl B W).grown hgrow hbase (fun k hk => (hlt k hk).1))
    rw [List.map_append, List.length_append]
    exact hown'
def frameO (t : ByteArray) : ByteArray := if 1 ≤ t.size ∧ t.size ≤ 9000 then frameB t else ⟨#[]⟩
theorem implFrameO_any (t : ByteArray) (w : World) (hT : SumTab w) : Calls Tryz.prog 84 #[.string t] w fun e w' => (∃ b, e = .returned (.tuple #[.string (frameO t), .bool b])) ∧ Below w.heap.size w w' := by
  by_cases h : 1 ≤ t.size ∧ t.size ≤ 9000
  · refine (frame_yes t w h.1 h.2 hT).mono ?_
    rintro e w' ⟨rfl, b⟩
    unfold frameO
    rw [if_pos h]
    exact ⟨⟨_, rfl⟩, b⟩
  · refine (frame_no t w (by omega)).mono ?_
    rintro e w' ⟨rfl, rfl⟩
    unfold frameO
    rw [if_neg h]
    exact ⟨⟨_, rfl⟩, Below.refl _ _⟩
def livK (D : List SpotD) (S : SegD) (k : Nat) : List ChangeD := match S.bs[k]? with
  | none => []
  | some b => liveI D (S.num : Int) ((S.hd + totD (S.bs.take k) : Nat) : Int) b.seq b.chs
def seqK (S : SegD) (k : Nat) : Int := match S.bs[k]? with
  | none => 0
  | some b => b.seq
def frmsTo (D : List SpotD) (S : SegD) : Nat → List ByteArray
  | 0 => []
  | k + 1 => frmsTo D S k ++ (if (livK D S k).length = 0 then [] else [frameO (textD (seqK S k) (livK D S k))])
def frms (D : List SpotD) (S : SegD) : List ByteArray := frmsTo D S S.bs.length
theorem frmsTo_len (D : List SpotD) (S : SegD) : ∀ k, (frmsTo D S k).length ≤ k
  | 0 => Nat.le_refl _
  | k + 1 => by
    unfold frmsTo
    have := frmsTo_len D S k
    rw [List.length_append]
    split
    · simp; omega
    · simp; omega
theorem livK_at {D : List SpotD} {S : SegD} {k : Nat} (h : k < S.bs.length) : livK D S k = liveI D (S.num : Int) (S.pls[k]'(by rw [S.pls_len]; exact h) : Int) S.bs[k].seq S.bs[k].chs := by
  unfold livK
  rw [List.getElem?_eq_getElem h]
  have := plsB_get S.bs S.hd k (by rw [plsB_len]; exact h)
  have e : S.pls[k]'(by rw [S.pls_len]; exact h) = S.hd + totD (S.bs.take k) := this
  rw [e]
theorem seqK_at {S : SegD} {k : Nat} (h : k < S.bs.length) : seqK S k = S.bs[k].seq := by
  unfold seqK
  rw [List.getElem?_eq_getElem h]
theorem liveFrames_any (D : List SpotD) (S : SegD) (g : Nat) (ar a a' : Option Addr) (cr c c' K : Nat) (w : World) (hD : D.length ≤ 1000000) (hsD : srtS D) (hg : g < w.heap.size) (hc6 : w.cell? ⟨g, 6, none⟩ = some (.slice ar D.length cr)) (hds : SpotsAt w ar D) (hjl : S.bs.length ≤ 1000000) (hb : BatchesAt w a S.bs) (hp : RowNat w K (.slice a' S.pls.length c') S.pls) (hok : ∀ b ∈ S.bs, textOkD b.seq b.chs = true) (hT : SumTab w) :
    Calls Tryz.prog 152 #[.pointer (some ⟨g, 0, none⟩), .agg #[.int .i64 (S.num : Int), .int .i64 (S.frm : Int), .slice a S.bs.length c, .slice a' S.pls.length c', .int .i64 (S.fin : Int), .bool S.right, .bool S.torn]] w fun e w' => (∃ v, e = .returned v ∧ RowT w' w.heap.size v (frms D S)) ∧ Below w.heap.size w w' := by
  have HLC : Hid (∀ (j : Nat), j < S.bs.length → ∀ W : World, g < W.heap.size → W.cell? ⟨g, 6, none⟩ = some (.slice ar D.length cr) → SpotsAt W ar D → BatchesAt W a S.bs → RowNat W K (.slice a' S.pls.length c') S.pls →
      Calls Tryz.prog 104 #[.pointer (some ⟨g, 0, none⟩), .agg #[.int .i64 (S.num : Int), .int .i64 (S.frm : Int), .slice a S.bs.length c, .slice a' S.pls.length c', .int .i64 (S.fin : Int), .bool S.right, .bool S.torn], .int .i64 (j : Int)] W fun e w' => (∃ ao cap, e = .returned (.slice ao (livK D S j).length cap) ∧ ChangesAt w' ao (livK D S j)) ∧ Below W.heap.size W w') := fun j hj W h1 h2 h3 h4 h5 => by
    rw [livK_at hj]
    exact liveChanges_any D S j g ar a a' cr c c' K W hD hsD h1 h2 h3 hj h4 h5 (textOk_small (hok S.bs[j] (List.getElem_mem hj))).1
  have HOK := hide hok
  have HD := hide hds
  have HB := hide hb
  have HP := hide hp
  have HT := hide hT
  clear hds hb hp hok hT hsD
  obtain ⟨np, HNP⟩ : ∃ n, Hid (S.pls.length = n) := ⟨_, hide rfl⟩
  rw [HNP.out] at HLC HP ⊢
  obtain ⟨wb, hwb⟩ : ∃ wb, wb = w.alloc (.cells #[.int .i64 (S.num : Int), .int .i64 (S.frm : Int), .slice a S.bs.length c, .slice a' np c', .int .i64 (S.fin : Int), .bool S.right, .bool S.torn] 161) := ⟨_, rfl⟩
  have HB0 : Hid (Below w.heap.size w wb) := by rw [hwb]; exact (Below.refl _ w).alloc (Nat.le_refl _) _
  have HBK : Hid (wb.heap[w.heap.size]? = some (.cells #[.int .i64 (S.num : Int), .int .i64 (S.frm : Int), .slice a S.bs.length c, .slice a' np c', .int .i64 (S.fin : Int), .bool S.right, .bool S.torn] 161 (0, 0))) := by rw [hwb]; exact heap_alloc_new w _
  go_enter Tryz.func152, Tryz.ntmps152
  go_wp2_with fail
  rw [← hwb]
  clear hwb
  have hgw : g < wb.heap.size := Nat.lt_of_lt_of_le hg HB0.out.size
  have hw6 : wb.cell? ⟨g, 6, none⟩ = some (.slice ar D.length cr) := (HB0.out.cell (p := ⟨g, 6, none⟩) hg).trans hc6
  have hwl : w.heap.size < wb.heap.size := heap_lt HBK.out
  clear hc6
  go_loopw [5, 16] (fun vo ii wr => ∃ (k : Nat), ii = .int .i64 k ∧ k ≤ S.bs.length ∧ Hid (RowT wr wb.heap.size vo (frmsTo D S k)) ∧ Hid (Below wb.heap.size wb wr)) (fun _ ii _ => S.bs.length - (intOf ii).toNat)
  case atStart => exact ⟨0, rfl, Nat.zero_le _, .inl ⟨rfl, rfl⟩, Below.refl _ _⟩
  case round =>
    obtain ⟨k, rfl, hk, HO, HBr⟩ := hrel
    have hws := HBr.out.size
    have HWr : Hid (Below w.heap.size w wr) := HB0.out.trans (HBr.out.mono HB0.out.size)
    by_cases hlt : k < S.bs.length
    · have hlt' : decide ((k : Int) < (S.bs.length : Int)) = true := by simp; omega
      have hk0 : (0 : Int) ≤ (k : Int) := by omega
      have hk1 : (k : Int) < (S.bs.length : Int) := by omega
      obtain ⟨b, off, hab, hbw2, hd0, a2, c2, hd1, hch⟩ := batchesAt_keep HB.out HWr.out k hlt
      have HOKk := textOk_small (HOK.out S.bs[k] (List.getElem_mem hlt))
      have HSQ : Hid (seqK S k = S.bs[k].seq) := seqK_at hlt
      have HCL : Hid ((livK D S k).length ≤ 40 ∧ ∀ A ∈ livK D S k, A.key.size ≤ 1048576 ∧ A.value.size ≤ 1048576) := by
        rw [livK_at hlt]
        refine ⟨Nat.le_trans (liveI_len _ _ _ _ _) HOKk.1, fun A hA => ?_⟩
        have := HOKk.2.2 A (List.mem_filter.1 hA).1
        omega
      have HLk := hide (HLC.out k hlt)
      have HF : Hid (frmsTo D S (k + 1) = frmsTo D S k ++ (if (livK D S k).length = 0 then [] else [frameO (textD (seqK S k) (livK D S k))])) := rfl
      rw [HSQ.out] at HF
      generalize S.bs[k] = bt at hd0 hd1 HF
      generalize livK D S k = L at HCL HLk HF
      obtain ⟨FT, HFT⟩ : ∃ F, Hid (frmsTo D S k = F) := ⟨_, hide rfl⟩
      have hFl : FT.length ≤ 1048576 := by have := frmsTo_len D S k; rw [HFT.out] at this; omega
      rw [HFT.out] at HO HF
      have hL40 := HCL.out.1
      obtain ⟨NL, HNL⟩ : ∃ n, Hid (bt.chs.length = n) := ⟨_, hide rfl⟩
      rw [HNL.out] at hd1
      clear hch HOKk
      obtain ⟨wn, hwn⟩ : ∃ x, x = wr.alloc (.cells #[.int .i64 bt.seq, .slice a2 NL c2] 96) := ⟨_, rfl⟩
      have BN0 : Hid (Below wr.heap.size wr wn) := by rw [hwn]; exact (Below.refl _ _).alloc (Nat.le_refl _) _
      have BN : Hid (Below wb.heap.size wb wn) := HBr.out.trans (BN0.out.mono hws)
      have HBN : Hid (wn.heap[wr.heap.size]? = some (.cells #[.int .i64 bt.seq, .slice a2 NL c2] 96 (0, 0))) := by rw [hwn]; exact heap_alloc_new _ _
      have HWn : Hid (Below w.heap.size w wn) := HB0.out.trans (BN.out.mono HB0.out.size)
      have HLn := hide (HLk.out wn (Nat.lt_of_lt_of_le hgw BN.out.size) ((BN.out.cell (p := ⟨g, 6, none⟩) hgw).trans hw6) (spotsAt_keep HD.out HWn.out) (batchesAt_keep HB.out HWn.out) (rowNat_below HP.out HWn.out))
      obtain ⟨hz0, hz1, hz2, hz3, hz4, hz5, hz6⟩ := seven_cells ((BN.out.block _ hwl).trans HBK.out)
      subst hab
      subst hwn
      go_wp2_with fail
      refine HLn.out.mono ?_
      rintro e w2 ⟨⟨ao2, cap2, rfl, hat2⟩, b2⟩
      have B2 := hide (BN.out.trans (b2.mono BN.out.size))
      have HAT2 := hide hat2
      have O2 := hide (rowT_below (rowT_below HO.out BN0.out) b2)
      have hq0 : w2.cell? ⟨wr.heap.size, 0, none⟩ = some (.int .i64 bt.seq) := (b2.cell (p := ⟨wr.heap.size, 0, none⟩) (heap_lt HBN.out)).trans ((cell_of_row _ _ 0 _ _ (0, 0) HBN.out).trans rfl)
      have hs2 : wb.heap.size ≤ w2.heap.size := B2.out.size
      clear b2 hat2 HLn hz0 hz1 hz2 hz3 hz4 hz5 hz6 hd0 hd1 HLk
      by_cases hL0 : L.length = 0
      · have hL0' : ((L.length : Int) == 0) = true := by rw [beq_iff_eq]; omega
        rw [if_pos hL0, List.append_nil] at HF
        clear hL0
        go_wp2_with fail
        go_roundw
        case rel =>
          refine ⟨k + 1, by go_num, by omega, ?_, B2⟩
          show RowT _ _ _ _
          rw [HF.out]
          exact O2.out
        case measure => simp [intOf]; omega
      · have hL0' : ((L.length : Int) == 0) = false := by rw [beq_eq_false_iff_ne]; omega
        rw [if_neg hL0] at HF
        clear hL0
        go_wp2_with fail
        refine (implBatchText_any bt.seq L ao2 cap2 _ (by omega) HAT2.out HCL.out.2).mono ?_
        rintro e w3 ⟨rfl, b3⟩
        have B3 := hide (B2.out.trans (b3.mono B2.out.size))
        have O3 := hide (rowT_below O2.out b3)
        clear b3
        go_wp2_with fail
        refine (implFrameO_any (textD bt.seq L) _ (sumTab_later (HB0.out.trans (B3.out.mono HB0.out.size)) HT.out)).mono ?_
        rintro e w4 ⟨⟨bb, rfl⟩, b4⟩
        have B4 := hide (B3.out.trans (b4.mono B3.out.size))
        have O4 := hide (rowT_own (rowT_below O3.out b4))
        have hs4 : wb.heap.size ≤ w4.heap.size := B4.out.size
        clear b4
        generalize frameO (textD bt.seq L) = FX at HF
        go_wp2_with (at_builtin; refine app_tx _ wb.heap.size (by rfl) _ _ (by rfl) _ FT FX (by rfl) (O4.out.alloc _) w4.heap.size (by rfl) (heap_alloc_new w4 _) hFl (by simp; omega) ?_; intro g5 cap5 w5 ho5 hb5; have HO5 := hide ho5; have HB5 := hide hb5; clear ho5 hb5)
        go_roundw
        case rel =>
          refine ⟨k + 1, by go_num, by omega, ?_, (B4.out.alloc (by omega) _).trans HB5.out⟩
          show RowT _ _ _ _
          rw [HF.out]
          exact .inr ⟨by simp, HO5.out⟩
        case measure => simp [intOf]; omega
    · have hlt' : decide ((k : Int) < (S.bs.length : Int)) = false := by simp; omega
      have hke : k = S.bs.length := by omega
      have HO9 : Hid (RowT wr wb.heap.size u5 (frms D S)) := by rw [hke] at HO; exact HO.out
      go_wp2
      go_ret
      exact ⟨⟨_, rfl, rowT_le HO9.out HB0.out.size⟩, HWr.out⟩
def SegsAt (w : World) (K : Nat) (ao : Option Addr) (l : List SegD) : Prop := ∀ j (hj : j < l.length), ∃ g, ao = some ⟨g, 0, none⟩ ∧ g < w.heap.size ∧
    w.cell? ⟨g, j * 7, none⟩ = some (.int .i64 (l[j].num : Int)) ∧ w.cell? ⟨g, j * 7 + 1, none⟩ = some (.int .i64 (l[j].frm : Int)) ∧ (∃ a c, w.cell? ⟨g, j * 7 + 2, none⟩ = some (.slice a l[j].bs.length c) ∧ RowBatch w K (.slice a l[j].bs.length c) l[j].bs) ∧
    (∃ a c, w.cell? ⟨g, j * 7 + 3, none⟩ = some (.slice a l[j].pls.length c) ∧ RowNat w K (.slice a l[j].pls.length c) l[j].pls) ∧ w.cell? ⟨g, j * 7 + 4, none⟩ = some (.int .i64 (l[j].fin : Int)) ∧ w.cell? ⟨g, j * 7 + 5, none⟩ = some (.bool l[j].right) ∧ w.cell? ⟨g, j * 7 + 6, none⟩ = some (.bool l[j].torn)
theorem segsAt_of {w : World} {B K cap n : Nat} {ao : Option Addr} {l : List SegD} (h : BuildG w B K (.slice ao n cap) l) : SegsAt w K ao l := fun j hj => buildG_at h j hj
theorem segsAt_keep {w w' : World} {K : Nat} {ao : Option Addr} {l : List SegD} (h : SegsAt w K ao l) (hb : Below w.heap.size w w') : SegsAt w' K ao l := by
  intro j hj
  obtain ⟨g, h1, h2, c0, c1, ⟨a, c, c2, r2⟩, ⟨a', c', c3, r3⟩, c4, c5, c6⟩ := h j hj
  exact ⟨g, h1, Nat.lt_of_lt_of_le h2 hb.size, (hb.cell (p := ⟨g, j * 7, none⟩) h2).trans c0, (hb.cell (p := ⟨g, j * 7 + 1, none⟩) h2).trans c1, ⟨a, c, (hb.cell (p := ⟨g, j * 7 + 2, none⟩) h2).trans c2, rowBatch_below r2 hb⟩, ⟨a', c', (hb.cell (p := ⟨g, j * 7 + 3, none⟩) h2).trans c3, rowNat_below r3 hb⟩, (hb.cell (p := ⟨g, j * 7 + 4, none⟩) h2).trans c4, (hb.cell (p := ⟨g, j * 7 + 5, none⟩) h2).trans c5, (hb.cell (p := ⟨g, j * 7 + 6, none⟩) h2).trans c6⟩
theorem segsAt_take {w : World} {K : Nat} {ao : Option Addr} {l : List SegD} (h : SegsAt w K ao l) (n : Nat) : SegsAt w K ao (l.take n) := by
  intro j hj
  have e : (l.take n)[j] = l[j]'(by rw [List.length_take] at hj; omega) := List.getElem_take
  rw [e]
  exact h j (by rw [List.length_take] at hj; omega)
theorem lastOf_at (l : List SegD) (ao : Option Addr) (cap K : Nat) (w : World) (hl : l.length ≤ 100) (h0 : 0 < l.length) (h : SegsAt w K ao l) :
    Calls Tryz.prog 132 #[.slice ao l.length cap] w fun e w' => (∃ a c a' c', e = .returned (.agg #[.int .i64 ((l[l.length - 1]'(by omega)).num : Int), .int .i64 ((l[l.length - 1]'(by omega)).frm : Int), .slice a (l[l.length - 1]'(by omega)).bs.length c, .slice a' (l[l.length - 1]'(by omega)).pls.length c', .int .i64 ((l[l.length - 1]'(by omega)).fin : Int), .bool (l[l.length - 1]'(by omega)).right, .bool (l[l.length - 1]'(by omega)).torn])) ∧ Below w.heap.size w w' := by
  obtain ⟨g, hg, hgw, hc0, hc1, ⟨a, c, hc2, hrb⟩, ⟨a', c', hc3, hrp⟩, hc4, hc5, hc6⟩ := h (l.length - 1) (by omega)
  subst hg
  clear hrb hrp h
  generalize l[l.length - 1]'(by omega) = F at hc0 hc1 hc2 hc3 hc4 hc5 hc6
  have hj0 : (0 : Int) ≤ (l.length : Int) - 1 := by omega
  have hj1 : (l.length : Int) - 1 < (l.length : Int) := by omega
  have hjn : ((l.length : Int) - 1).toNat = l.length - 1 := by omega
  have hjw : IntKind.i64.wrap ((l.length : Int) - 1) = (l.length : Int) - 1 := by rw [IntKind.wrap_i64]; omega
  go_enter Tryz.func132, Tryz.ntmps132
  go_wp2
  obtain ⟨y0, y1, y2, y3, y4, y5, y6⟩ := seven_cells (heap_alloc_new w (.cells #[.int .i64 (F.num : Int), .int .i64 (F.frm : Int), .slice a F.bs.length c, .slice a' F.pls.length c', .int .i64 (F.fin : Int), .bool F.right, .bool F.torn] 161))
  refine bodyPost_ret (v := .agg #[.int .i64 (F.num : Int), .int .i64 (F.frm : Int), .slice a F.bs.length c, .slice a' F.pls.length c', .int .i64 (F.fin : Int), .bool F.right, .bool F.torn]) ?_ rfl ?_
  · simp [results, Tryz.results132, go_sem, y0, y1, y2, y3, y4, y5, y6]
  · exact ⟨⟨a, c, a', c', rfl⟩, (Below.refl _ w).alloc (Nat.le_refl _) _⟩
def framesM (D : List SpotD) (l : List SegD) : List ByteArray := l.flatMap (frms D)
theorem framesM_take {D : List SpotD} {l : List SegD} {k : Nat} (h : k < l.length) : framesM D (l.take (k + 1)) = framesM D (l.take k) ++ frms D l[k] := by
  unfold framesM
  rw [List.take_succ_eq_append_getElem h, List.flatMap_append]
  simp
theorem frmsTo_chs (D : List SpotD) (S : SegD) : ∀ k, k ≤ S.bs.length → (frmsTo D S k).length ≤ chsN (S.bs.take k)
  | 0, _ => Nat.zero_le _
  | k + 1, h => by
    have ih := frmsTo_chs D S k (by omega)
    unfold frmsTo
    rw [List.take_succ_eq_append_getElem (by omega), chsN_snoc, List.length_append]
    have h2 : (livK D S k).length ≤ S.bs[k].chs.length := by rw [livK_at (by omega)]; exact liveI_len _ _ _ _ _
    split
    · simp; omega
    · simp; omega
theorem framesM_len (D : List SpotD) : ∀ l : List SegD, (framesM D l).length ≤ segsN l
  | [] => Nat.le_refl _
  | s :: r => by
    have ih := framesM_len D r
    have h := frmsTo_chs D s s.bs.length (Nat.le_refl _)
    rw [List.take_length] at h
    unfold framesM at ih ⊢
    rw [List.flatMap_cons, List.length_append]
    unfold segsN
    have h' : (frms D s).length ≤ chsN s.bs := h
    omega
def dropsM (l : List SegD) : List ActD := l.map fun s => dropA (segNm (s.num : Int))
theorem dropsM_take {l : List SegD} {k : Nat} (h : k < l.length) : dropsM (l.take (k + 1)) = dropsM (l.take k) ++ [dropA (segNm (l[k].num : Int))] := by
  unfold dropsM
  rw [List.take_succ_eq_append_getElem h, List.map_append]
  rfl
def actsM (D : List SpotD) (l : List SegD) (n : Nat) : List ActD := newsA (segNm (n : Int)) (headT (n : Int) (n : Int) :: framesM D l) ++ dropsM l.dropLast
theorem actsOfMerge_any (D : List SpotD) (l : List SegD) (g : Nat) (ar ag : Option Addr) (cr cs K : Nat) (w : World) (hD : D.length ≤ 1000000) (hsD : srtS D) (hg : g < w.heap.size) (hc6 : w.cell? ⟨g, 6, none⟩ = some (.slice ar D.length cr)) (hc7 : w.cell? ⟨g, 7, none⟩ = some (.slice ag l.length cs)) (hlc : l.length ≤ cs) (hds : SpotsAt w ar D) (hl : l.length ≤ 100) (h0 : 0 < l.length) (hsg : SegsAt w K ag l) (hok : ∀ S ∈ l, ∀ b ∈ S.bs, textOkD b.seq b.chs = true) (hbl : ∀ S ∈ l, S.bs.length ≤ 1000000) (hN : segsN l ≤ 900000) (hT : SumTab w) :
    Calls Tryz.prog 113 #[.pointer (some ⟨g, 0, none⟩)] w fun e w' => ((l.length = 1 ∧ ∃ s, e = .returned (.tuple #[.slice none 0 0, .iface 142 (.agg #[.int .i64 1, .string s])])) ∨
      (∃ h : 1 < l.length, ∃ v, e = .returned (.tuple #[v, .nilIface]) ∧ w'.ownsRow w.heap.size 103 4 v (actsM D l.dropLast (l[l.length - 2]'(by omega)).num).length (cellsAct (actsM D l.dropLast (l[l.length - 2]'(by omega)).num)))) ∧ Below w.heap.size w w' := by
  have HD := hide hds
  have HSG := hide hsg
  have HT := hide hT
  have HOK := hide hok
  have HBL := hide hbl
  have HLF := hide (fun S ao a' c c' W h1 h2 h3 h4 h5 h6 h7 h8 => liveFrames_any D S g ar ao a' cr c c' K W hD hsD h1 h2 h3 h4 h5 h6 h7 h8)
  clear hds hsg hT hok hbl hsD
  by_cases h1 : l.length = 1
  · have h1' : ((l.length : Int) - 1 == 0) = true := by rw [beq_iff_eq]; omega
    have hjw : IntKind.i64.wrap ((l.length : Int) - 1) = (l.length : Int) - 1 := by rw [IntKind.wrap_i64]; omega
    have H1 := hide h1
    clear h1
    go_enter Tryz.func113, Tryz.ntmps113
    go_wp2
    refine bodyPost_ret (results_tmp2 rfl _ _ _) rfl ?_
    exact ⟨.inl ⟨H1.out, _, rfl⟩, Below.refl _ _⟩
  · obtain ⟨n, hn⟩ : ∃ n, l.length = n + 1 + 1 := ⟨l.length - 2, by omega⟩
    have HNN := hide hn
    rw [hn] at hc7 hlc
    obtain ⟨O, HO⟩ : ∃ O, Hid (l.dropLast = O) := ⟨_, hide rfl⟩
    have HOL : Hid (O.length = n + 1) := by show _ = _; rw [← HO.out, List.length_dropLast, hn]; omega
    have HOS : Hid (∀ W, Below w.heap.size w W → SegsAt W K ag O) := fun W hW => by
      rw [← HO.out, List.dropLast_eq_take]
      exact segsAt_keep (segsAt_take HSG.out _) hW
    have HOM : Hid (∀ S ∈ O, S ∈ l) := fun S hS => by rw [← HO.out] at hS; exact (List.dropLast_sublist l).subset hS
    have HON : Hid (segsN O ≤ 900000) := by
      show _ ≤ _
      rw [← HO.out, List.dropLast_eq_take]
      exact Nat.le_trans (segsN_take_le l _) hN
    have HLO : Hid (∀ W, SegsAt W K ag O → Calls Tryz.prog 132 #[.slice ag O.length (n + 1)] W _) := fun W hW => lastOf_at O ag (n + 1) K W (by have := HOL.out; omega) (by have := HOL.out; omega) hW
    have hO1 : 0 < O.length := by have := HOL.out; omega
    obtain ⟨Z, HZ⟩ : ∃ Z, Hid ((O[O.length - 1]'(Nat.sub_lt hO1 Nat.one_pos)) = Z) := ⟨_, hide rfl⟩
    rw [HZ.out, HOL.out] at HLO
    have hEq : Hid (∃ h : 1 < l.length, (l[l.length - 2]'(Nat.sub_lt (Nat.lt_of_succ_lt h) (by decide))) = Z) := ⟨by omega, by
      rw [← HZ.out]
      simp only [← HO.out, List.length_dropLast, List.getElem_dropLast]
      congr 1⟩
    clear hn hN HNN HSG
    have hn0 : ((n : Int) + 1 == 0) = false := by rw [beq_eq_false_iff_ne]; omega
    have hn1 : n ≤ 98 := by have := HOL.out; have := HO.out; have h2 : O.length = l.length - 1 := by rw [← HO.out, List.length_dropLast]
                            omega
    go_enter Tryz.func113, Tryz.ntmps113
    go_wp2_with fail
    refine (HLO.out _ (HOS.out _ (Below.refl _ _))).mono ?_
    rintro e w1 ⟨⟨qa, qc, qa', qc', rfl⟩, b1⟩
    have hfd : ∀ (W : World), (Instr.field 161 (.agg #[.int .i64 (Z.num : Int), .int .i64 (Z.frm : Int), .slice qa Z.bs.length qc, .slice qa' Z.pls.length qc', .int .i64 (Z.fin : Int), .bool Z.right, .bool Z.torn]) 0).run Tryz.prog W = .ok (.int .i64 (Z.num : Int)) W := fun _ => by kernel_rfl
    have B1 := hide b1
    clear b1
    go_wp2_with fail
    refine (implHeadText_any (Z.num : Int) (Z.num : Int) _ (sumTab_later B1.out HT.out)).mono ?_
    rintro e w2 ⟨rfl, b2⟩
    have B2 := hide (B1.out.trans (b2.mono B1.out.size))
    clear b2 hfd
    obtain ⟨HX, HHX⟩ : ∃ x, Hid (headT (Z.num : Int) (Z.num : Int) = x) := ⟨_, hide rfl⟩
    rw [HHX.out]
    obtain ⟨wA, hwA⟩ : ∃ x, x = w2.alloc (.cells #[.string HX] 9) := ⟨_, rfl⟩
    have BA : Hid (Below w.heap.size w wA) := by rw [hwA]; exact B2.out.alloc B2.out.size _
    have hsA : w.heap.size ≤ w2.heap.size := B2.out.size
    have OA : Hid (wA.ownsRow w2.heap.size 9 1 (.slice (some ⟨w2.heap.size, 0, none⟩) 1 1) (HX :: framesM D (O.take 0)).length ((HX :: framesM D (O.take 0)).map Value.string)) := by
      rw [hwA]
      exact World.ownsRow_lit (e := 9) (size := 1) w2 #[.string HX] 1 (Nat.le_refl _) (by unfold maxLen; omega) (by simp)
    have hA2 : w2.heap.size < wA.heap.size := by rw [hwA]; simp
    go_wp2_with fail
    rw [← hwA]
    clear hwA
    go_loopg [9, 45] (n + 1) (fun gg vo ii wr => ∃ k : Nat, k + gg = n + 1 ∧ ii = .int .i64 k ∧ k ≤ n + 1 ∧ Hid (wr.ownsRow w2.heap.size 9 1 vo (HX :: framesM D (O.take k)).length ((HX :: framesM D (O.take k)).map Value.string)) ∧ Hid (Below w2.heap.size wA wr))
    case atStart => exact ⟨0, by omega, rfl, Nat.zero_le _, OA, Below.refl _ _⟩
    case round =>
      obtain ⟨k, hkg, rfl, hk, HOr, HBr⟩ := hrel
      have hws := HBr.out.size
      have HWr : Hid (Below w.heap.size w wr) := BA.out.trans (HBr.out.mono hsA)
      cases gk with
      | zero =>
        have hlt' : decide ((k : Int) < (n : Int) + 1) = false := by rw [decide_eq_false_iff_not]; omega
        have hltn : decide (k < n + 1) = false := by rw [decide_eq_false_iff_not]; omega
        have hke : k = n + 1 := by omega
        rw [List.take_of_length_le (by have := HOL.out; omega)] at HOr
        obtain ⟨TS, HTS⟩ : ∃ L, Hid (HX :: framesM D O = L) := ⟨_, hide rfl⟩
        have hTl : TS.length ≤ 1000000 := by
          have h1 := framesM_len D O
          have h2 := HON.out
          rw [← HTS.out, List.length_cons]
          omega
        rw [HTS.out] at HOr
        obtain ⟨a9, c9, hv9⟩ := slice_form HOr.out
        subst hv9
        obtain ⟨NM, HNM⟩ : ∃ N, Hid (segNm (Z.num : Int) = N) := ⟨_, hide rfl⟩
        have HSN : Hid (∀ W : World, Calls Tryz.prog 41 #[.int .i64 (Z.num : Int)] W fun e w' => e = .returned (.string NM) ∧ w' = W) := fun W => by rw [← HNM.out]; exact implSegName_any (Z.num : Int) W
        obtain ⟨wO, hwO⟩ : ∃ wO, wO = wr := ⟨_, rfl⟩
        subst hwO
        go_wp2_with fail
        refine (HSN.out _).mono ?_
        rintro e w3 ⟨rfl, hw3⟩
        subst w3
        go_wp2_with fail
        refine (newFileActs_any NM TS a9 c9 _ hTl (textsAt_own HOr.out)).mono ?_
        rintro e w4 ⟨⟨a4, c4, rfl, o4⟩, b4⟩
        have O4 := hide o4
        have B4 := hide b4
        have HW4 : Hid (Below w.heap.size w w4) := HWr.out.trans (b4.mono HWr.out.size)
        clear o4 b4 hlt' hltn
        obtain ⟨NA, HNA⟩ : ∃ L, Hid (newsA NM TS = L) := ⟨_, hide rfl⟩
        have hNA : NA.length = TS.length + 2 := by rw [← HNA.out]; unfold newsA; simp
        have HNAl := hide hNA
        rw [HNA.out] at O4
        have hOO := HW4.out.size
        have hwO4 : wO.heap.size ≤ w4.heap.size := B4.out.size
        clear hNA
        go_wp2_with fail
        go_loopg [12, 64] n (fun gg vo ii wy => ∃ q : Nat, q + gg = n ∧ ii = .int .i64 q ∧ q ≤ n ∧ Hid (wy.ownsRow wO.heap.size 103 4 vo (NA ++ dropsM (O.take q)).length (cellsAct (NA ++ dropsM (O.take q)))) ∧ Hid (Below wO.heap.size w4 wy))
        case atStart => exact ⟨0, by omega, rfl, Nat.zero_le _, by show World.ownsRow _ _ _ _ _ _ _; rw [List.take_zero, show dropsM [] = [] from rfl, List.append_nil]; exact O4.out, Below.refl _ _⟩
        case round =>
          clear HOr HBr hkg
          obtain ⟨q, hqg, rfl, hq, HOq, HBq⟩ := hrel
          have hwq := HBq.out.size
          have HWq : Hid (Below w.heap.size w wr) := HW4.out.trans (HBq.out.mono HWr.out.size)
          cases gk with
          | zero =>
            have hlt' : decide ((q : Int) < (n : Int)) = false := by rw [decide_eq_false_iff_not]; omega
            have hltn : decide (q < n) = false := by rw [decide_eq_false_iff_not]; omega
            have HFin : Hid (actsM D l.dropLast Z.num = NA ++ dropsM (O.take q)) := by
              show _ = _
              unfold actsM
              have h1 : HX :: framesM D O = TS := HTS.out
              rw [HO.out, HNM.out, HHX.out, h1, HNA.out, show q = n from by omega, List.dropLast_eq_take, HOL.out, Nat.add_sub_cancel]
            obtain ⟨hE1, hE2⟩ := hEq.out
            go_wp2
            refine bodyPost_ret (results_tmp2 rfl _ _ _) rfl ?_
            refine ⟨.inr ⟨hE1, _, rfl, ?_⟩, HWq.out⟩
            rw [hE2, HFin.out]
            exact ownsRow_mono HOq.out HWr.out.size
          | succ g1 =>
            have hlt' : decide ((q : Int) < (n : Int)) = true := by rw [decide_eq_true_eq]; omega
            have hltn : decide (q < n) = true := by rw [decide_eq_true_eq]; omega
            have hqO : q < O.length := by have := HOL.out; omega
            have hq0 : (0 : Int) ≤ (q : Int) := by omega
            have hq1 : (q : Int) < (n : Int) := by omega
            obtain ⟨gs, hgs, hgsw, hc0, hc1, ⟨a, c, hc2, hrb⟩, ⟨a', c', hc3, hrp⟩, hc4, hc5, hc6'⟩ := HOS.out _ HWq.out q hqO
            have HFT := hide (dropsM_take hqO)
            clear hrb hrp
            generalize O[q] = S at hc0 hc1 hc2 hc3 hc4 hc5 hc6' HFT
            obtain ⟨L, HL⟩ : ∃ L, Hid (NA ++ dropsM (O.take q) = L) := ⟨_, hide rfl⟩
            have hLl : L.length ≤ 1048576 := by
              have := HNAl.out
              rw [← HL.out, List.length_append]
              unfold dropsM
              rw [List.length_map, List.length_take]
              omega
            rw [HL.out] at HOq
            obtain ⟨NQ, HNQ⟩ : ∃ N, Hid (segNm (S.num : Int) = N) := ⟨_, hide rfl⟩
            have HSQ : Hid (∀ W : World, Calls Tryz.prog 41 #[.int .i64 (S.num : Int)] W fun e w' => e = .returned (.string NQ) ∧ w' = W) := fun W => by rw [← HNQ.out]; exact implSegName_any (S.num : Int) W
            obtain ⟨np, HNP⟩ : ∃ n, Hid (S.pls.length = n) := ⟨_, hide rfl⟩
            obtain ⟨nb, HNB⟩ : ∃ n, Hid (S.bs.length = n) := ⟨_, hide rfl⟩
            rw [HNP.out] at hc3
            rw [HNB.out] at hc2
            obtain ⟨wn, hwn⟩ : ∃ x, x = wr.alloc (.cells #[.int .i64 (S.num : Int), .int .i64 (S.frm : Int), .slice a nb c, .slice a' np c', .int .i64 (S.fin : Int), .bool S.right, .bool S.torn] 161) := ⟨_, rfl⟩
            have BN0 : Hid (Below wr.heap.size wr wn) := by rw [hwn]; exact (Below.refl _ _).alloc (Nat.le_refl _) _
            have hnn : wr.heap.size ≤ wn.heap.size := BN0.out.size
            obtain ⟨hz0, hz1, hz2, hz3, hz4, hz5, hz6⟩ := seven_cells (W := wn) (g := wr.heap.size) (by rw [hwn]; exact heap_alloc_new wr _)
            have HON := hide (ownsRow_below HOq.out BN0.out)
            have HBLK : Hid (∀ C : Array Value, (wn.alloc (.cells C 103)).heap[wr.heap.size + 1]? = some (.cells C 103 (0, 0))) := fun C => by
              have := heap_alloc_new wn (.cells C 103)
              rwa [show wn.heap.size = wr.heap.size + 1 from by rw [hwn]; simp] at this
            subst hgs
            subst hwn
            go_wp2_with fail
            refine (HSQ.out _).mono ?_
            rintro e w5 ⟨rfl, hw5⟩
            subst w5
            clear hz0 hz1 hz2 hz3 hz4 hz5 hz6 hc0 hc1 hc2 hc3 hc4 hc5 hc6'
            go_wp2_with (at_builtin; refine app_act _ wO.heap.size (by rfl) _ _ (by rfl) _ L (dropA NQ) (by rfl) (HON.out.alloc _) (wr.heap.size + 1) (by rfl) (HBLK.out _) hLl (by simp; omega) ?_; intro g5 cap5 w6 ho5 hb5 hg5 hgl5; have HO5 := hide ho5; have HB5 := hide hb5; clear ho5 hb5 hg5 hgl5)
            go_roundg g1
            case measure => omega
            case rel =>
              refine ⟨q + 1, by omega, by go_num, by omega, ?_, ((HBq.out.trans (BN0.out.mono (by omega))).alloc (by omega) _).trans HB5.out⟩
              show World.ownsRow _ _ _ _ _ _ _
              rw [HFT.out, ← List.append_assoc, HL.out, HNQ.out]
              exact HO5.out
      | succ g0 =>
        have hlt' : decide ((k : Int) < (n : Int) + 1) = true := by rw [decide_eq_true_eq]; omega
        have hltn : decide (k < n + 1) = true := by rw [decide_eq_true_eq]; omega
        have hkO : k < O.length := by have := HOL.out; omega
        have hk0 : (0 : Int) ≤ (k : Int) := by omega
        have hk1 : (k : Int) < (n : Int) + 1 := by omega
        obtain ⟨gs, hgs, hgsw, hc0, hc1, ⟨a, c, hc2, hrb⟩, ⟨a', c', hc3, hrp⟩, hc4, hc5, hc6'⟩ := HOS.out _ HWr.out k hkO
        have HFT := hide (framesM_take (D := D) hkO)
        have HSl := HOM.out O[k] (List.getElem_mem hkO)
        have HLk := hide (fun W h1 h2 h3 h4 h5 h6 => HLF.out (O[k]'hkO) a a' c c' W h1 h2 h3 (HBL.out _ HSl) h4 h5 (HOK.out _ HSl) h6)
        have hfl := framesM_len D (O.take (k + 1))
        have hfl2 := segsN_take_le O (k + 1)
        have hfl3 := HON.out
        rw [HFT.out, List.length_append] at hfl
        clear HSl
        generalize O[k] = S at hc0 hc1 hc2 hc3 hc4 hc5 hc6' hrb hrp HFT HLk hfl
        obtain ⟨L, HL⟩ : ∃ L, Hid (framesM D (O.take k) = L) := ⟨_, hide rfl⟩
        rw [HL.out] at HOr HFT hfl
        obtain ⟨R, HR⟩ : ∃ L, Hid (frms D S = L) := ⟨_, hide rfl⟩
        rw [HR.out] at HFT hfl HLk
        have HRB := hide (rowBatch_rows hrb).2
        have HRP := hide hrp
        clear hrb hrp
        obtain ⟨np, HNP⟩ : ∃ n, Hid (S.pls.length = n) := ⟨_, hide rfl⟩
        obtain ⟨nb, HNB⟩ : ∃ n, Hid (S.bs.length = n) := ⟨_, hide rfl⟩
        rw [HNP.out] at hc3 HRP HLk
        rw [HNB.out] at hc2 HLk
        obtain ⟨wn, hwn⟩ : ∃ x, x = wr.alloc (.cells #[.int .i64 (S.num : Int), .int .i64 (S.frm : Int), .slice a nb c, .slice a' np c', .int .i64 (S.fin : Int), .bool S.right, .bool S.torn] 161) := ⟨_, rfl⟩
        have BN0 : Hid (Below wr.heap.size wr wn) := by rw [hwn]; exact (Below.refl _ _).alloc (Nat.le_refl _) _
        have BN : Hid (Below w2.heap.size wA wn) := HBr.out.trans (BN0.out.mono (by omega))
        have HWn : Hid (Below w.heap.size w wn) := HWr.out.trans (BN0.out.mono HWr.out.size)
        have HLn := hide (HLk.out wn (Nat.lt_of_lt_of_le hg HWn.out.size) ((HWn.out.cell (p := ⟨g, 6, none⟩) hg).trans hc6) (spotsAt_keep HD.out HWn.out) (batchesAt_keep HRB.out BN0.out) (rowNat_below HRP.out BN0.out) (sumTab_later HWn.out HT.out))
        obtain ⟨hz0, hz1, hz2, hz3, hz4, hz5, hz6⟩ := seven_cells (W := wn) (g := wr.heap.size) (by rw [hwn]; exact heap_alloc_new wr _)
        subst hgs
        subst hwn
        go_wp2_with fail
        refine HLn.out.mono ?_
        rintro e w3 ⟨⟨v3, rfl, r3⟩, b3⟩
        obtain ⟨a3, c3, hv3⟩ := rowT_form r3
        subst hv3
        have B3 := hide (BN.out.trans (b3.mono (Nat.le_trans (Nat.le_of_lt hA2) BN.out.size)))
        have R3 := hide r3
        have O3 := hide (ownsRow_below (ownsRow_below HOr.out BN0.out) b3)
        have hs3 : wA.heap.size ≤ w3.heap.size := B3.out.size
        clear b3 r3 HLn HLk hz0 hz1 hz2 hz3 hz4 hz5 hz6 hc0 hc1 hc2 hc3 hc4 hc5 hc6'
        go_wp2_with (at_builtin; refine app_txs _ w2.heap.size (by rfl) _ _ (by rfl) _ (HX :: L) R (by rfl) O3.out _ _ (by rfl) R3.out (by simp; omega) (by omega) ?_; intro v5 w5 ho5 hb5; have HO5 := hide ho5; have HB5 := hide hb5; clear ho5 hb5)
        go_roundg g0
        case measure => omega
        case rel =>
          refine ⟨k + 1, by omega, by go_num, by omega, ?_, B3.out.trans HB5.out⟩
          show World.ownsRow _ _ _ _ _ _ _
          rw [HFT.out]
          exact HO5.out
theorem told_drop_yes {D : List SpotD} {seg pos : Int} {k : Nat} (h : k < D.length) (h1 : (D[k].seg == seg) = true) (h2 : (D[k].pos == pos) = true) : toldB (D.drop k) seg pos = true := by
  rw [List.drop_eq_getElem_cons h]
  unfold toldB
  rw [List.any_cons, h1, h2]
  rfl
theorem told_drop_no {D : List SpotD} {seg pos : Int} {k : Nat} (h : k < D.length) (h1 : ((D[k].seg == seg) && (D[k].pos == pos)) = false) : toldB (D.drop k) seg pos = toldB (D.drop (k + 1)) seg pos := by
  rw [List.drop_eq_getElem_cons h]
  unfold toldB
  rw [List.any_cons, h1]
  rfl
theorem l09Told_any (D : List SpotD) (ar : Option Addr) (cr : Nat) (seg pos : Int) (w : World) (hD : D.length ≤ 1000000) (hds : SpotsAt w ar D) :
    Calls Tryz.prog 64 #[.slice ar D.length cr, .int .i64 seg, .int .i64 pos] w fun e w' => e = .returned (.bool (toldB D seg pos)) ∧ w' = w := by
  have HD := hide hds
  clear hds
  obtain ⟨R, HR⟩ : ∃ R, Hid (toldB (D.drop 0) seg pos = R) := ⟨_, hide rfl⟩
  rw [show toldB D seg pos = R from HR.out]
  go_enter Tryz.func64, Tryz.ntmps64
  go_wp2_with fail
  go_loopw [7] (fun ii wr => ∃ (k : Nat), ii = .int .i64 k ∧ k ≤ D.length ∧ Hid (toldB (D.drop k) seg pos = R) ∧ wr = w) (fun ii _ => D.length - (intOf ii).toNat)
  case atStart => exact ⟨0, rfl, Nat.zero_le _, HR, rfl⟩
  case round =>
    obtain ⟨k, rfl, hk, HK, rfl⟩ := hrel
    by_cases hlt : k < D.length
    · have hlt' : decide ((k : Int) < (D.length : Int)) = true := by simp; omega
      have hk0 : (0 : Int) ≤ (k : Int) := by omega
      have hk1 : (k : Int) < (D.length : Int) := by omega
      obtain ⟨b, off, rfl, hbw, hc0, hc1, hc2, hc3⟩ := HD.out k hlt
      have HY := hide (fun h1 h2 => told_drop_yes (seg := seg) (pos := pos) hlt h1 h2)
      have HN := hide (fun h1 => told_drop_no (seg := seg) (pos := pos) hlt h1)
      generalize D[k] = T at hc0 hc1 hc2 hc3 HY HN
      cases h1 : (T.seg == seg) with
      | true =>
        cases h2 : (T.pos == pos) with
        | true =>
          have hR : Hid (R = true) := HK.out.symm.trans (HY.out h1 h2)
          go_wp2
          go_ret
          rw [hR.out]
          exact ⟨rfl, rfl⟩
        | false =>
          have HK1 : Hid (toldB (D.drop (k + 1)) seg pos = R) := (HN.out (by rw [h1, h2]; rfl)).symm.trans HK.out
          go_wp2
          go_roundw
          case rel => exact ⟨k + 1, by go_num, by omega, HK1, by first | rfl | trivial⟩
          case measure => simp [intOf]; omega
      | false =>
        have HK1 : Hid (toldB (D.drop (k + 1)) seg pos = R) := (HN.out (by rw [h1]; rfl)).symm.trans HK.out
        go_wp2
        go_roundw
        case rel => exact ⟨k + 1, by go_num, by omega, HK1, by first | rfl | trivial⟩
        case measure => simp [intOf]; omega
    · have hlt' : decide ((k : Int) < (D.length : Int)) = false := by simp; omega
      have hR : Hid (R = false) := by show _ = _; rw [← HK.out, List.drop_eq_nil_of_le (by omega)]; rfl
      go_wp2
      go_ret
      rw [hR.out]
      exact ⟨rfl, rfl⟩
def keptP (D : List SpotD) (seg pos : Int) (k : Nat) (A : ChangeD) : List ChangeD := ((D.take k).filter (keptB seg pos A)).map fun _ => A
theorem keptP_succ {D : List SpotD} {seg pos : Int} {k : Nat} {A : ChangeD} (h : k < D.length) : keptP D seg pos (k + 1) A = keptP D seg pos k A ++ (if keptB seg pos A D[k] then [A] else []) := by
  unfold keptP
  rw [List.take_succ_eq_append_getElem h, List.filter_append, List.map_append]
  congr 1
  cases hb : keptB seg pos A D[k] <;> simp [hb]
theorem keptP_all {D : List SpotD} {seg pos : Int} {k : Nat} {A : ChangeD} (h : D.length ≤ k) : keptP D seg pos k A = keptOne D seg pos A := by
  unfold keptP keptOne
  rw [List.take_of_length_le h]
theorem keptP_le (D : List SpotD) (seg pos : Int) (k : Nat) (A : ChangeD) : (keptP D seg pos k A).length ≤ (keptOne D seg pos A).length := by
  unfold keptP keptOne
  rw [List.length_map, List.length_map]
  exact ((List.take_sublist k D).filter _).length_le
theorem keptS_take {D : List SpotD} {seg pos : Int} {cs : List ChangeD} {i : Nat} (h : i < cs.length) : keptS D seg pos (cs.take (i + 1)) = keptS D seg pos (cs.take i) ++ keptOne D seg pos cs[i] := by
  unfold keptS
  rw [List.take_succ_eq_append_getElem h, List.flatMap_append]
  simp
theorem keptS_le (D : List SpotD) (seg pos : Int) (cs : List ChangeD) (i : Nat) : (keptS D seg pos (cs.take i)).length ≤ (keptS D seg pos cs).length := by
  have e : keptS D seg pos cs = keptS D seg pos (cs.take i) ++ keptS D seg pos (cs.drop i) := by
    unfold keptS
    rw [← List.flatMap_append, List.take_append_drop]
  rw [e, List.length_append]
  omega
theorem l09Kept_any (D : List SpotD) (ar : Option Addr) (cr : Nat) (q : Int) (cs : List ChangeD) (ac : Option Addr) (cc : Nat) (seg pos : Int) (w : World) (hD : D.length ≤ 1000000) (hcl : cs.length ≤ 40) (hK : (keptS D seg pos cs).length ≤ 1000) (hds : SpotsAt w ar D) (hcs : ChangesAt w ac cs) :
    Calls Tryz.prog 66 #[.slice ar D.length cr, .agg #[.int .i64 q, .slice ac cs.length cc], .int .i64 seg, .int .i64 pos] w fun e w' => (∃ v, e = .returned v ∧ RowChange w' w.heap.size v (keptS D seg pos cs)) ∧ Below w.heap.size w w' := by
  have HD := hide hds
  have HC := hide hcs
  clear hds hcs
  obtain ⟨wb, hwb⟩ : ∃ wb, wb = (w.alloc (.cells #[.int .i64 q, .slice ac cs.length cc] 96)).alloc (.cells #[] 144) := ⟨_, rfl⟩
  have HB0 : Hid (Below w.heap.size w wb) := by rw [hwb]; exact ((Below.refl _ w).alloc (Nat.le_refl _) _).alloc (by simp) _
  have hbs : wb.heap.size = w.heap.size + 2 := by rw [hwb]; simp
  have HBK : Hid (wb.heap[w.heap.size]? = some (.cells #[.int .i64 q, .slice ac cs.length cc] 96 (0, 0))) := by
    show _ = _
    rw [hwb]
    exact (Below.heap_alloc _ _ _ (by simp)).trans (heap_alloc_new w _)
  have HO0 : Hid (wb.ownsRow (w.heap.size + 1) 144 3 (.slice (some ⟨w.heap.size + 1, 0, none⟩) 0 0) 0 []) := by
    rw [hwb]
    have := World.ownsRow_lit (e := 144) (size := 3) (w.alloc (.cells #[.int .i64 q, .slice ac cs.length cc] 96)) #[] 0 (Nat.le_refl _) (by unfold maxLen; omega) (by simp)
    show World.ownsRow _ _ _ _ _ _ _
    simpa using this
  go_enter Tryz.func66, Tryz.ntmps66
  go_wp2_with fail
  rw [← hwb]
  clear hwb
  go_loopg [9, 10] cs.length (fun gg vo ii wr => ∃ i : Nat, i + gg = cs.length ∧ ii = .int .i64 i ∧ i ≤ cs.length ∧ Hid (wr.ownsRow (w.heap.size + 1) 144 3 vo (keptS D seg pos (cs.take i)).length (cellsChange (keptS D seg pos (cs.take i)))) ∧ Hid (Below (w.heap.size + 1) wb wr))
  case atStart => exact ⟨0, by omega, rfl, Nat.zero_le _, HO0, Below.refl _ _⟩
  case round =>
    obtain ⟨i, hig, rfl, hi, HOr, HBr⟩ := hrel
    have hws := HBr.out.size
    have HWr : Hid (Below w.heap.size w wr) := HB0.out.trans (HBr.out.mono (Nat.le_succ _))
    have hz1 : wr.cell? ⟨w.heap.size, 1, none⟩ = some (.slice ac cs.length cc) := (HBr.out.cell (p := ⟨w.heap.size, 1, none⟩) (Nat.lt_succ_self _)).trans ((cell_of_row wb _ 1 _ _ (0, 0) HBK.out).trans rfl)
    cases gk with
    | zero =>
      have hlt' : decide ((i : Int) < (cs.length : Int)) = false := by rw [decide_eq_false_iff_not]; omega
      have hltn : decide (i < cs.length) = false := by rw [decide_eq_false_iff_not]; omega
      rw [List.take_of_length_le (by omega)] at HOr
      go_wp2
      go_ret
      exact ⟨⟨_, rfl, rowChange_own (ownsRow_mono HOr.out (Nat.le_succ _))⟩, HWr.out⟩
    | succ g0 =>
      have hlt : i < cs.length := by omega
      have hlt' : decide ((i : Int) < (cs.length : Int)) = true := by rw [decide_eq_true_eq]; omega
      have hltn : decide (i < cs.length) = true := by rw [decide_eq_true_eq]; omega
      have hi0 : (0 : Int) ≤ (i : Int) := by omega
      have hi1 : (i : Int) < (cs.length : Int) := by omega
      have HST := hide (keptS_take (D := D) (seg := seg) (pos := pos) hlt)
      have hle := keptS_le D seg pos cs (i + 1)
      rw [HST.out, List.length_append] at hle
      have HCA : Hid (∀ W, Below w.heap.size w W → ∃ b off : Nat, ac = some ⟨b, off, none⟩ ∧ b < W.heap.size ∧ W.cell? ⟨b, off + i * 3, none⟩ = some (.string cs[i].key) ∧ W.cell? ⟨b, off + i * 3 + 1, none⟩ = some (.string cs[i].value) ∧ W.cell? ⟨b, off + i * 3 + 2, none⟩ = some (.bool cs[i].gone)) := fun W hW => changesAt_keep HC.out hW i hlt
      generalize cs[i] = A at HST hle HCA
      obtain ⟨L, HL⟩ : ∃ L, Hid (keptS D seg pos (cs.take i) = L) := ⟨_, hide rfl⟩
      rw [HL.out] at HST hle HOr
      obtain ⟨wO, hwO⟩ : ∃ wO, wO = wr := ⟨_, rfl⟩
      subst hwO
      go_wp2_with fail
      clear hlt' hltn
      go_loopg [9, 11] D.length (fun g2 vo ii wy => ∃ k : Nat, k + g2 = D.length ∧ ii = .int .i64 k ∧ k ≤ D.length ∧ Hid (wy.ownsRow (w.heap.size + 1) 144 3 vo (L ++ keptP D seg pos k A).length (cellsChange (L ++ keptP D seg pos k A))) ∧ Hid (Below (w.heap.size + 1) wO wy))
      case atStart => exact ⟨0, by omega, rfl, Nat.zero_le _, by show World.ownsRow _ _ _ _ _ _ _; rw [show keptP D seg pos 0 A = [] from rfl, List.append_nil]; exact HOr.out, Below.refl _ _⟩
      case round =>
        clear HOr hz1
        obtain ⟨k, hkg, rfl, hk, HOk, HBk⟩ := hrel
        have hwk := HBk.out.size
        have HWk : Hid (Below w.heap.size w wr) := HWr.out.trans (HBk.out.mono (Nat.le_succ _))
        have hz1 : wr.cell? ⟨w.heap.size, 1, none⟩ = some (.slice ac cs.length cc) := ((HBr.out.trans HBk.out).cell (p := ⟨w.heap.size, 1, none⟩) (Nat.lt_succ_self _)).trans ((cell_of_row wb _ 1 _ _ (0, 0) HBK.out).trans rfl)
        cases gk with
        | zero =>
          have hlt' : decide ((k : Int) < (D.length : Int)) = false := by rw [decide_eq_false_iff_not]; omega
          have hltn : decide (k < D.length) = false := by rw [decide_eq_false_iff_not]; omega
          rw [keptP_all (by omega), ← HST.out] at HOk
          go_wp2_with fail
          go_roundg g0
          case measure => omega
          case rel => exact ⟨i + 1, by omega, by go_num, by omega, HOk, HBr.out.trans HBk.out⟩
        | succ g1 =>
          have hltk : k < D.length := by omega
          have hlt' : decide ((k : Int) < (D.length : Int)) = true := by rw [decide_eq_true_eq]; omega
          have hltn : decide (k < D.length) = true := by rw [decide_eq_true_eq]; omega
          have hk0 : (0 : Int) ≤ (k : Int) := by omega
          have hk1 : (k : Int) < (D.length : Int) := by omega
          obtain ⟨bd, offd, hd, hdw, hc0, hc1, hc2, hc3⟩ := spotsAt_keep HD.out HWk.out k hltk
          obtain ⟨bc, offc, hc, hcw, hd0, hd1, hd2⟩ := HCA.out _ HWk.out
          have HKS := hide (keptP_succ (seg := seg) (pos := pos) (A := A) hltk)
          generalize D[k] = T at hc0 hc1 hc2 hc3 HKS
          obtain ⟨P, HP⟩ : ∃ M, Hid (L ++ keptP D seg pos k A = M) := ⟨_, hide rfl⟩
          have hPl : P.length ≤ 1048576 := by
            have := keptP_le D seg pos k A
            rw [← HP.out, List.length_append]
            omega
          rw [HP.out] at HOk
          subst hd hc
          cases b1 : (T.key.toList == A.key.toList) with
          | false =>
            have HN : Hid (keptP D seg pos (k + 1) A = keptP D seg pos k A) := by show _ = _; rw [HKS.out]; unfold keptB; rw [b1]; simp
            go_wp2_with fail
            go_quiet (fail)
            go_wp2_with fail
            go_roundg g1
            case measure => omega
            case rel =>
              refine ⟨k + 1, by omega, by go_num, by omega, ?_, below_drewN HBk.out _⟩
              show World.ownsRow _ _ _ _ _ _ _
              rw [HN.out, HP.out]
              exact ownsRow_below HOk.out (drewN_below _ _)
          | true =>
            cases b2 : (T.seg == seg) with
            | false =>
              have HN : Hid (keptP D seg pos (k + 1) A = keptP D seg pos k A) := by show _ = _; rw [HKS.out]; unfold keptB; rw [b1, b2]; simp
              go_wp2_with fail
              go_quiet (fail)
              go_wp2_with fail
              go_roundg g1
              case measure => omega
              case rel =>
                refine ⟨k + 1, by omega, by go_num, by omega, ?_, below_drewN HBk.out _⟩
                show World.ownsRow _ _ _ _ _ _ _
                rw [HN.out, HP.out]
                exact ownsRow_below HOk.out (drewN_below _ _)
            | true =>
              cases b3 : (T.pos == pos) with
              | false =>
                have HN : Hid (keptP D seg pos (k + 1) A = keptP D seg pos k A) := by show _ = _; rw [HKS.out]; unfold keptB; rw [b1, b2, b3]; simp
                go_wp2_with fail
                go_quiet (fail)
                go_wp2_with fail
                go_roundg g1
                case measure => omega
                case rel =>
                  refine ⟨k + 1, by omega, by go_num, by omega, ?_, below_drewN HBk.out _⟩
                  show World.ownsRow _ _ _ _ _ _ _
                  rw [HN.out, HP.out]
                  exact ownsRow_below HOk.out (drewN_below _ _)
              | true =>
                have HN : Hid (keptP D seg pos (k + 1) A = keptP D seg pos k A ++ [A]) := by show _ = _; rw [HKS.out]; unfold keptB; rw [b1, b2, b3]; simp
                go_wp2_with fail
                go_quiet (fail)
                have B9d := hide (below_drewN HBk.out nq)
                have HO7 := hide (ownsRow_below HOk.out (drewN_below _ nq))
                have hy1 : (wr.drewN nq).cell? ⟨w.heap.size, 1, none⟩ = some (.slice (some ⟨bc, offc, none⟩) cs.length cc) := hz1
                have hs9 : w.heap.size + 1 ≤ wr.heap.size := by omega
                go_wp2_with (at_builtin; refine app_change _ (w.heap.size + 1) (by rfl) _ _ (by rfl) _ P A (by rfl) (HO7.out.alloc _) wr.heap.size (by rfl) (heap_alloc_new (wr.drewN nq) _) hPl (by simp; omega) ?_; intro g5 cap5 w5 ho5 hb5 hg5 hgl5; have HO5 := hide ho5; have HB5 := hide hb5; clear ho5 hb5 hg5 hgl5)
                go_roundg g1
                case measure => omega
                case rel =>
                  refine ⟨k + 1, by omega, by go_num, by omega, ?_, (B9d.out.alloc (by show _ ≤ wr.heap.size; omega) _).trans HB5.out⟩
                  show World.ownsRow _ _ _ _ _ _ _
                  rw [HN.out, ← List.append_assoc, HP.out]
                  exact HO5.out
def lastNum (l : List SegD) : Nat := (l[l.length - 2]?.map SegD.num).getD 0
theorem lastNum_at {l : List SegD} (h : 1 < l.length) : (l[l.length - 2]'(by omega)).num = lastNum l := by
  unfold lastNum
  rw [List.getElem?_eq_getElem (by omega)]
  rfl
def mergOk (fs : List FileD) (room act seq : Int) (dir : List SpotD) : Bool := engOkB fs room act seq dir && decide (1 < (segsL fs).length)
def mergE (fs : List FileD) (room act seq : Int) (dir : List SpotD) : List ActD := bif mergOk fs room act seq dir then actsM (dirD fs) (segsL fs).dropLast (lastNum (segsL fs)) else []
theorem mergE_yes {fs : List FileD} {room act seq : Int} {dir : List SpotD} (h : mergOk fs room act seq dir = true) : mergE fs room act seq dir = actsM (dirD fs) (segsL fs).dropLast (lastNum (segsL fs)) := by
  unfold mergE
  rw [h]
  rfl
theorem mergE_no {fs : List FileD} {room act seq : Int} {dir : List SpotD} (h : mergOk fs room act seq dir = false) : mergE fs room act seq dir = [] := by
  unfold mergE
  rw [h]
  rfl
theorem actsM_len (fs : List FileD) (n : Nat) : (actsM (dirD fs) (segsL fs).dropLast n).length ≤ 700000 := by
  unfold actsM newsA dropsM
  have h1 := framesM_len (dirD fs) (segsL fs).dropLast
  have h2 : segsN (segsL fs).dropLast ≤ segsN (segsL fs) := by rw [List.dropLast_eq_take]; exact segsN_take_le _ _
  have h3 := segsL_N fs
  have h4 := segsL_len fs
  simp only [List.length_append, List.length_map, List.length_cons, List.length_nil, List.length_dropLast]
  omega
theorem mergE_len (fs : List FileD) (room act seq : Int) (dir : List SpotD) : (mergE fs room act seq dir).length ≤ 1000000 := by
  cases h : mergOk fs room act seq dir with
  | false => rw [mergE_no h]; exact Nat.zero_le _
  | true => rw [mergE_yes h]; have := actsM_len fs (lastNum (segsL fs)); omega
theorem owns_cap {w : World} {B : Nat} {e : TypeId} {s n cap m : Nat} {ao : Option Addr} {xs : List Value} (h : w.ownsRow B e s (.slice ao m cap) n xs) : n ≤ cap := by
  rcases h.2 with ⟨hv, hn⟩ | ⟨g, cap', cur, hv, hB, hC, hle, _⟩
  · cases hv; omega
  · cases hv; exact hle
theorem grow_step {a b c d : World} {r s : Option Nat} (h1 : a.grownBy b r) (h2 : Below b.heap.size b c) (h3 : c.grownBy d s) (hs : ∀ g, s = some g → r = some g ∨ a.heap.size ≤ g) : a.grownBy d r :=
  ⟨h3.os.trans (h2.os.trans h1.os), h3.tape.trans (h2.tape.trans h1.tape), h3.output.trans (h2.output.trans h1.output), Nat.le_trans h1.size (Nat.le_trans h2.size h3.size), fun k hk hr => by
    rw [h3.block k (Nat.lt_of_lt_of_le hk (Nat.le_trans h1.size h2.size)) ?_, h2.block k (Nat.lt_of_lt_of_le hk h1.size), h1.block k hk hr]
    intro e
    rcases hs k e.symm with h | h
    · exact hr h.symm
    · omega⟩
theorem app_actG {ops : Array Oper} {rest : List Oper} {o : Oper} {a : Act} {Q : Exit → Act → World → Prop} (W : World) (B : Nat) (hgd : o.guard = none) (s y : Operand)
    (ho : o.op = .call { callee := .builtin .append, args := #[s, y], argTypes := #[51, 51] }) (v : Value) (l : List ActD) (F : ActD) (hs : a.eval s = v)
    (hown : W.ownsRow B 103 4 v l.length (cellsAct l)) (k : Nat) (hx : a.eval y = .slice (some ⟨k, 0, none⟩) 1 1) (hblk : W.heap[k]? = some (.cells #[.int .i64 F.kind, .string F.name, .string F.text, .string F.toN] 103 (0, 0)))
    (hlen : l.length ≤ 1048576) (hbase : B ≤ W.heap.size)
    (h : ∀ g cap w', w'.ownsRow B 103 4 (.slice (some ⟨g, 0, none⟩) (l.length + 1) cap) (l ++ [F]).length (cellsAct (l ++ [F])) → Below B W w' → W.grownBy w' v.ownBlock → (v.ownBlock = some g ∨ g = W.heap.size) → wpList Tryz.prog ops Q rest (a.put o.dst (.slice (some ⟨g, 0, none⟩) (l.length + 1) cap)) w') :
    wpList Tryz.prog ops Q (o :: rest) a W := by
  obtain ⟨i0, hi, hz0, hz1, hz2⟩ := info_parts Tryz.infoAct
  refine wpList_append_lies W hgd s y 51 ho B 103 i0 (.agg #[.int .i64 0, .string ⟨#[]⟩, .string ⟨#[]⟩, .string ⟨#[]⟩]) 4 56 Tryz.underlying51 hi hz0 hz1 hz2 rfl (by decide) v l.length (cellsAct l) hs hown ⟨k, 0, none⟩ 1 1 (cellsAct [F]) hx (by rw [cellsAct_length]; rfl)
    (fun j u hj => World.news_of_block hblk j u hj) (cellsAct_one [F]) (by omega) (by unfold maxLen; omega) (by omega) hbase W.heap.size rfl ?_
  intro g cap w' hown' hgrow hg hgl
  have hlt := hown.lt
  refine h g cap w' ?_ ((Below.refl B W).grown hgrow hbase (fun k hk => (hlt k hk).1)) hgrow hg
  rw [cellsAct_append, List.length_append]
  exact hown'
theorem specFrameO_any (t : ByteArray) (w : World) : Calls Tryz.prog 67 #[.string t] w fun e w' => (∃ b, e = .returned (.tuple #[.string (frameO t), .bool b])) ∧ Below w.heap.size w w' := by
  by_cases h : 1 ≤ t.size ∧ t.size ≤ 9000
  · refine (specFrame_yes t w h.1 h.2).mono ?_
    rintro e w' ⟨rfl, b⟩
    unfold frameO
    rw [if_pos h]
    exact ⟨⟨_, rfl⟩, b⟩
  · refine (specFrame_no t w (by omega)).mono ?_
    rintro e w' ⟨rfl, rfl⟩
    unfold frameO
    rw [if_neg h]
    exact ⟨⟨_, rfl⟩, Below.refl _ _⟩
theorem specMergeActs_any (fs : List FileD) (ao ad : Option Addr) (cap cd : Nat) (room act seq : Int) (dir : List SpotD) (w : World) (hl : fs.length ≤ 1048576) (hfs : FilesAt w ao fs) (hsz : ∀ F ∈ fs, F.name.size ≤ 1048576 ∧ F.text.size ≤ 1048576) (hld : dir.length ≤ 1048576) (hds : SpotsAt w ad dir) :
    Calls Tryz.prog 22 #[.agg #[.slice ao fs.length cap, .int .i64 room, .int .i64 act, .int .i64 seq, .slice ad dir.length cd]] w fun e w' => (∃ v, e = .returned (.tuple #[v, .bool (mergOk fs room act seq dir)]) ∧ RowAct w' w.heap.size v (mergE fs room act seq dir)) ∧ Below w.heap.size w w' := by
  have HEO := hide (fun W h1 h2 => specEngineOk_any fs ao ad cap cd room act seq dir W hl h1 hsz hld h2)
  have HSG := hide (fun W hW => specSegments_any fs ao cap W hl hW hsz)
  have HS := hide hsz
  have HF := hide hfs
  have HD := hide hds
  clear hfs hds hsz
  obtain ⟨wb, hwb⟩ : ∃ wb, wb = (w.alloc (.cells #[.slice ao fs.length cap, .int .i64 room, .int .i64 act, .int .i64 seq, .slice ad dir.length cd] 30)).alloc (.cells #[] 103) := ⟨_, rfl⟩
  have HB0 : Hid (Below w.heap.size w wb) := by rw [hwb]; exact ((Below.refl _ w).alloc (Nat.le_refl _) _).alloc (by simp) _
  have hbs : wb.heap.size = w.heap.size + 2 := by rw [hwb]; simp
  have HBK : Hid (wb.heap[w.heap.size]? = some (.cells #[.slice ao fs.length cap, .int .i64 room, .int .i64 act, .int .i64 seq, .slice ad dir.length cd] 30 (0, 0))) := by
    show _ = _
    rw [hwb]
    exact (Below.heap_alloc _ _ _ (by simp)).trans (heap_alloc_new w _)
  have HO0 : Hid (RowAct wb w.heap.size (.slice (some ⟨w.heap.size + 1, 0, none⟩) 0 0) []) := by
    rw [hwb]
    have := World.ownsRow_lit (e := 103) (size := 4) (w.alloc (.cells #[.slice ao fs.length cap, .int .i64 room, .int .i64 act, .int .i64 seq, .slice ad dir.length cd] 30)) #[] 0 (Nat.le_refl _) (by unfold maxLen; omega) (by simp)
    refine rowAct_le (B := w.heap.size + 1) (rowAct_own ?_) (Nat.le_succ _)
    simpa [cellsAct] using this
  obtain ⟨R, HR⟩ : ∃ R, Hid (mergE fs room act seq dir = R) := ⟨_, hide rfl⟩
  obtain ⟨OK, HOK⟩ : ∃ K, Hid (mergOk fs room act seq dir = K) := ⟨_, hide rfl⟩
  rw [HR.out, HOK.out]
  have hll := segsL_len fs
  obtain ⟨l, HL⟩ : ∃ l, Hid (segsL fs = l) := ⟨_, hide rfl⟩
  obtain ⟨NS, HNS⟩ : ∃ n, Hid (l.map SegD.num = n) := ⟨_, hide rfl⟩
  have HNL : Hid (NS.length = l.length) := by show _ = _; rw [← HNS.out, List.length_map]
  have HNG : Hid (∀ k (h : k < l.length) (h' : k < NS.length), NS[k] = l[k].num) := by intro k h h'; have := HNS.out; subst this; simp
  rw [HL.out, HNS.out] at HSG
  rw [HL.out] at hll
  generalize segsOk fs = sok at HSG
  obtain ⟨K, HK⟩ : ∃ K, Hid (engOkB fs room act seq dir = K) := ⟨_, hide rfl⟩
  rw [HK.out] at HEO
  obtain ⟨hz0, hz1, hz2, hz3, hz4, -⟩ := five_cells HBK.out
  go_enter Tryz.func22, Tryz.ntmps22
  go_wp2_with fail
  rw [← hwb]
  clear hwb
  go_wp2_with fail
  refine (HSG.out _ (filesAt_keep HF.out HB0.out)).mono ?_
  rintro e w1 ⟨⟨v1, rfl, g1⟩, b1⟩
  obtain ⟨a1, c1, rfl⟩ := slice_form g1
  have G1 : Hid (RowNat w1 wb.heap.size (.slice a1 NS.length c1) NS) := g1
  have B1 := hide b1
  have HBK1 := hide ((b1.block _ (heap_lt HBK.out)).trans HBK.out)
  have HO1 := hide (rowAct_below HO0.out b1)
  have HW1 : Hid (Below w.heap.size w w1) := HB0.out.trans (b1.mono HB0.out.size)
  have hw1 : wb.heap.size ≤ w1.heap.size := b1.size
  rw [HNL.out] at G1
  rw [HNL.out]
  clear g1 b1 hz0 hz1 hz2 hz3 hz4
  obtain ⟨hz0, hz1, hz2, hz3, hz4, -⟩ := five_cells HBK1.out
  have hbl : w.heap.size < w1.heap.size := heap_lt HBK1.out
  go_wp2_with fail
  refine (HEO.out _ (filesAt_keep HF.out HW1.out) (spotsAt_keep HD.out HW1.out)).mono ?_
  rintro e w2 ⟨rfl, b2⟩
  have HW2 : Hid (Below w.heap.size w w2) := HW1.out.trans (b2.mono HW1.out.size)
  have HBK2 := hide ((b2.block _ (heap_lt HBK1.out)).trans HBK1.out)
  have HO2 := hide (rowAct_below HO1.out b2)
  have G2 := hide (rowNat_below G1.out b2)
  have hw2 : w1.heap.size ≤ w2.heap.size := b2.size
  clear b2 hz0 hz1 hz2 hz3 hz4
  cases K with
  | false =>
    have hO : Hid (OK = false) := by show _ = _; rw [← HOK.out]; unfold mergOk; rw [HK.out]; rfl
    have hR : Hid (R = []) := by show _ = _; rw [← HR.out]; exact mergE_no (HOK.out.trans hO.out)
    go_wp2_with fail
    first | go_quiet (fail) | skip
    go_wp2
    refine bodyPost_ret (results_tmp2 rfl _ _ _) rfl ?_
    rw [hO.out, hR.out]
    exact ⟨⟨_, rfl, HO2.out⟩, HW2.out⟩
  | true =>
    by_cases h1 : 1 < l.length
    · have hO : Hid (OK = true) := by show _ = _; rw [← HOK.out]; unfold mergOk; rw [HK.out, HL.out, decide_eq_true h1]; rfl
      have hR : Hid (R = actsM dir l.dropLast (lastNum l)) := by
        show _ = _
        rw [← HR.out, mergE_yes (HOK.out.trans hO.out), HL.out, (engOkB_iff.1 HK.out).2.2.2.2.2]
      obtain ⟨n, hn⟩ : ∃ n, l.length = n + 1 + 1 := ⟨l.length - 2, by omega⟩
      have hn2 : decide ((n : Int) + 1 + 1 < 2) = false := by rw [decide_eq_false_iff_not]; omega
      have HNN := hide hn
      rw [hn]
      rw [hn] at G2
      obtain ⟨Z, HZ⟩ : ∃ Z, Hid ((l[l.length - 2]'(by omega)).num = Z) := ⟨_, hide rfl⟩
      have HLN : Hid (lastNum l = Z) := (lastNum_at h1).symm.trans HZ.out
      obtain ⟨g, hg, hgw, hgc⟩ := rowNat_at G2.out n (by rw [HNL.out]; omega)
      subst hg
      have hgZ : w2.cell? ⟨g, n, none⟩ = some (.int .i64 (Z : Int)) := by
        rw [hgc, HNG.out n (by omega) (by rw [HNL.out]; omega), ← HZ.out]
        congr 3
        simp only [hn]
        rfl
      clear hgc
      have hn0 : (0 : Int) ≤ (n : Int) := by omega
      have hcap : n + 1 + 1 ≤ c1 := by have := owns_cap G2.out; rw [HNL.out] at this; omega
      obtain ⟨O, HO⟩ : ∃ O, Hid (l.dropLast = O) := ⟨_, hide rfl⟩
      have HOL : Hid (O.length = n + 1) := by show _ = _; rw [← HO.out, List.length_dropLast, hn]; omega
      have HOM : Hid (∀ S ∈ O, S ∈ segsL fs) := fun S hS => by rw [← HO.out] at hS; rw [HL.out]; exact (List.dropLast_sublist l).subset hS
      have HON : Hid (∀ k (h : k < O.length), w2.cell? ⟨g, k, none⟩ = some (.int .i64 (O[k].num : Int))) := fun k h => by
        have hk : k < l.length := by have := HOL.out; omega
        obtain ⟨g', hg', -, hc⟩ := rowNat_at G2.out k (by rw [HNL.out]; omega)
        cases hg'
        rw [hc, HNG.out k hk (by rw [HNL.out]; omega)]
        congr 3
        simp only [← HO.out, List.getElem_dropLast]
      have HSN : Hid (segsN O ≤ 666700) := by
        show _ ≤ _
        rw [← HO.out, List.dropLast_eq_take, ← HL.out]
        exact Nat.le_trans (segsN_take_le _ _) (segsL_N fs)
      have hn98 : n ≤ 98 := by omega
      rw [HO.out] at hR
      clear HZ hn h1 hll HNN G1 G2
      go_wp2_with fail
      refine (specHeadText_any (Z : Int) (Z : Int) _).mono ?_
      rintro e w3 ⟨rfl, b3⟩
      obtain ⟨HX, HHX⟩ : ∃ x, Hid (headT (Z : Int) (Z : Int) = x) := ⟨_, hide rfl⟩
      rw [HHX.out]
      have HW3 : Hid (Below w.heap.size w w3) := HW2.out.trans (b3.mono HW2.out.size)
      have B23 := hide b3
      have hw3 : w2.heap.size ≤ w3.heap.size := b3.size
      obtain ⟨wA, hwA⟩ : ∃ x, x = w3.alloc (.cells #[.int .i64 1, .string ⟨#[109, 43]⟩, .string HX, .string ⟨#[]⟩] 103) := ⟨_, rfl⟩
      have B2A : Hid (Below w2.heap.size w2 wA) := by rw [hwA]; exact B23.out.alloc B23.out.size _
      have BA : Hid (Below w.heap.size w wA) := HW2.out.trans (B2A.out.mono HW2.out.size)
      have OA : Hid (wA.ownsRow w3.heap.size 103 4 (.slice (some ⟨w3.heap.size, 0, none⟩) 1 1) ((HX :: framesM dir (O.take 0)).map addA).length (cellsAct ((HX :: framesM dir (O.take 0)).map addA))) := by
        rw [hwA]
        exact World.ownsRow_lit (e := 103) (size := 4) w3 #[.int .i64 1, .string ⟨#[109, 43]⟩, .string HX, .string ⟨#[]⟩] 1 (Nat.le_refl _) (by unfold maxLen; omega) (by simp)
      have hA3 : w3.heap.size < wA.heap.size := by rw [hwA]; simp
      have HBKA := hide ((B2A.out.block _ (heap_lt HBK2.out)).trans HBK2.out)
      clear b3
      go_wp2_with fail
      rw [← hwA]
      clear hwA
      have HSF : Hid (∀ s ∈ segsL fs, s.num ≤ 99 ∧ s.frm ≤ s.num ∧ ∃ F ∈ fs, fileD fs (segNm s.num) = some F ∧ segFrom (s.num : Int) F.text = s.frm ∧ segBatches (s.num : Int) F.text = s.bs) := fun s hs => segsL_file hs
      have HTK : Hid (∀ s ∈ segsL fs, ∀ j (hj : j < s.bs.length), toldB dir (s.num : Int) ((s.hd + totD (s.bs.take j) : Nat) : Int) = decide (0 < (livK dir s j).length) ∧ keptS dir (s.num : Int) ((s.hd + totD (s.bs.take j) : Nat) : Int) s.bs[j].chs = livK dir s j) := fun s hs j hj => by
        have hd := (engOkB_iff.1 HK.out).2.2.2.2.2
        have e : livK (dirD fs) s j = liveI (dirD fs) (s.num : Int) ((s.hd + totD (s.bs.take j) : Nat) : Int) s.bs[j].seq s.bs[j].chs := by unfold livK; rw [List.getElem?_eq_getElem hj]
        rw [← hd, e]
        exact ⟨told_live_at hs hj, kept_live_at hs hj⟩
      have hdl : dir.length ≤ 1000000 := by
        have hd := (engOkB_iff.1 HK.out).2.2.2.2.2
        rw [← hd]
        have := dirD_len fs
        omega
      go_loopg [11, 12] (n + 1) (fun gg vo ii wr => ∃ k : Nat, k + gg = n + 1 ∧ ii = .int .i64 k ∧ k ≤ n + 1 ∧ Hid (wr.ownsRow w3.heap.size 103 4 vo ((HX :: framesM dir (O.take k)).map addA).length (cellsAct ((HX :: framesM dir (O.take k)).map addA))) ∧ Hid (Below w3.heap.size wA wr))
      case atStart => exact ⟨0, by omega, rfl, Nat.zero_le _, OA, Below.refl _ _⟩
      case round =>
        obtain ⟨k, hkg, rfl, hk, HOr, HBr⟩ := hrel
        have hws := HBr.out.size
        have B2r : Hid (Below w2.heap.size w2 wr) := B2A.out.trans (HBr.out.mono hw3)
        have HWr : Hid (Below w.heap.size w wr) := HW2.out.trans (B2r.out.mono HW2.out.size)
        cases gk with
        | zero =>
          have hlt' : decide ((k : Int) < (n : Int) + 1) = false := by rw [decide_eq_false_iff_not]; omega
          have hltn : decide (k < n + 1) = false := by rw [decide_eq_false_iff_not]; omega
          rw [List.take_of_length_le (by have := HOL.out; omega)] at HOr
          obtain ⟨M, HM⟩ : ∃ M, Hid ((HX :: framesM dir O).map addA = M) := ⟨_, hide rfl⟩
          have hMl : M.length ≤ 700000 := by
            have h1 := framesM_len dir O
            have h2 := HSN.out
            rw [← HM.out]
            simp only [List.length_map, List.length_cons]
            omega
          rw [HM.out] at HOr
          obtain ⟨NM, HNM⟩ : ∃ NM, Hid (segNm (Z : Int) = NM) := ⟨_, rfl⟩
          have HNa : Hid (∀ W : World, Calls Tryz.prog 45 #[.int .i64 (Z : Int)] W fun e w' => e = .returned (.string NM) ∧ Below W.heap.size W w') := fun W => by rw [← HNM.out]; exact specSegName_any (Z : Int) W
          obtain ⟨wO, hwO⟩ : ∃ wO, wO = wr := ⟨_, rfl⟩
          subst hwO
          go_wp2_with fail
          refine (HNa.out _).mono ?_
          rintro e w5 ⟨rfl, b5⟩
          have B5 := hide b5
          have hs5 : wO.heap.size ≤ w5.heap.size := b5.size
          clear b5
          go_wp2_with (at_builtin; refine app_acts _ w3.heap.size (by rfl) _ _ (by rfl) _ M [⟨2, nmNew, ⟨#[]⟩, ⟨#[]⟩⟩, ⟨3, nmNew, ⟨#[]⟩, NM⟩] (by rfl) ((ownsRow_below HOr.out B5.out).alloc _) w5.heap.size 2 (by rfl) (by rfl) (heap_alloc_new w5 _) (by omega) (by omega) (by omega) (by simp; omega) ?_; intro g7 cap7 w7 ho7 hb7 hg7 hgl7; have HO7 := hide ho7; have HB7 : Hid (Below w3.heap.size wO w7) := (((B5.out.mono (by omega)).alloc (by omega) _).trans hb7); clear ho7 hb7 hg7 hgl7)
          obtain ⟨NA, HNA⟩ : ∃ L, Hid (M ++ [⟨2, nmNew, ⟨#[]⟩, ⟨#[]⟩⟩, ⟨3, nmNew, ⟨#[]⟩, NM⟩] = L) := ⟨_, hide rfl⟩
          have HNAl : Hid (NA.length = M.length + 2) := by show _ = _; rw [← HNA.out]; simp
          rw [HNA.out] at HO7
          clear hlt' hltn
          have HW7 : Hid (Below w2.heap.size w2 w7) := B2r.out.trans (HB7.out.mono hw3)
          go_wp2_with fail
          go_loopg [11, 27] n (fun gg vo ii wy => ∃ q : Nat, q + gg = n ∧ ii = .int .i64 q ∧ q ≤ n ∧ Hid (wy.ownsRow w3.heap.size 103 4 vo (NA ++ dropsM (O.take q)).length (cellsAct (NA ++ dropsM (O.take q)))) ∧ Hid (Below w3.heap.size w7 wy))
          case atStart => exact ⟨0, by omega, rfl, Nat.zero_le _, by show World.ownsRow _ _ _ _ _ _ _; rw [List.take_zero, show dropsM [] = [] from rfl, List.append_nil]; exact HO7.out, Below.refl _ _⟩
          case round =>
            clear HOr hkg
            obtain ⟨q, hqg, rfl, hq, HOq, HBq⟩ := hrel
            have hwq := HBq.out.size
            have HWq : Hid (Below w2.heap.size w2 wr) := HW7.out.trans (HBq.out.mono hw3)
            cases gk with
            | zero =>
              have hlt' : decide ((q : Int) + 1 < (n : Int) + 1) = false := by rw [decide_eq_false_iff_not]; omega
              have hltm : decide ((q : Int) < (n : Int)) = false := by rw [decide_eq_false_iff_not]; omega
              have hltn : decide (q < n) = false := by rw [decide_eq_false_iff_not]; omega
              have HFin : Hid (R = NA ++ dropsM (O.take q)) := by
                show _ = _
                rw [hR.out, HLN.out]
                unfold actsM newsA
                have h1 : (headT (Z : Int) (Z : Int) :: framesM dir O).map addA = M := by rw [HHX.out]; exact HM.out
                rw [HNM.out, h1, HNA.out, show q = n from by omega, List.dropLast_eq_take, HOL.out, Nat.add_sub_cancel]
              go_wp2
              refine bodyPost_ret (results_tmp2 rfl _ _ _) rfl ?_
              rw [hO.out, HFin.out]
              exact ⟨⟨_, rfl, rowAct_own (ownsRow_mono HOq.out HW3.out.size)⟩, HW2.out.trans (HWq.out.mono HW2.out.size)⟩
            | succ g1 =>
              have hlt' : decide ((q : Int) + 1 < (n : Int) + 1) = true := by rw [decide_eq_true_eq]; omega
              have hltm : decide ((q : Int) < (n : Int)) = true := by rw [decide_eq_true_eq]; omega
              have hltn : decide (q < n) = true := by rw [decide_eq_true_eq]; omega
              have hqO : q < O.length := by have := HOL.out; omega
              have hq0 : (0 : Int) ≤ (q : Int) := by omega
              have hq1 : (q : Int) < (n : Int) + 1 := by omega
              have hc0 := (HWq.out.cell (p := ⟨g, q, none⟩) hgw).trans (HON.out q hqO)
              have HFT := hide (dropsM_take hqO)
              generalize O[q] = S at hc0 HFT
              obtain ⟨L, HLL⟩ : ∃ L, Hid (NA ++ dropsM (O.take q) = L) := ⟨_, hide rfl⟩
              have hLl : L.length ≤ 1048576 := by
                have := HNAl.out
                rw [← HLL.out, List.length_append]
                unfold dropsM
                rw [List.length_map, List.length_take]
                omega
              rw [HLL.out] at HOq
              obtain ⟨NQ, HNQ⟩ : ∃ N, Hid (segNm (S.num : Int) = N) := ⟨_, hide rfl⟩
              have HSQ : Hid (∀ W : World, Calls Tryz.prog 45 #[.int .i64 (S.num : Int)] W fun e w' => e = .returned (.string NQ) ∧ Below W.heap.size W w') := fun W => by rw [← HNQ.out]; exact specSegName_any (S.num : Int) W
              obtain ⟨wP, hwP⟩ : ∃ wO, wO = wr := ⟨_, rfl⟩
              subst hwP
              go_wp2_with fail
              refine (HSQ.out _).mono ?_
              rintro e w8 ⟨rfl, b8⟩
              have B8 := hide b8
              have hs8 : wP.heap.size ≤ w8.heap.size := b8.size
              have hs7 : w3.heap.size ≤ w7.heap.size := by have := HB7.out.size; omega
              clear b8 hc0
              go_wp2_with (at_builtin; refine app_act _ w3.heap.size (by rfl) _ _ (by rfl) _ L (dropA NQ) (by rfl) ((ownsRow_below HOq.out B8.out).alloc _) w8.heap.size (by rfl) (heap_alloc_new w8 _) hLl (by simp; omega) ?_; intro g5 cap5 w9 ho5 hb5 hg5 hgl5; have HO5 := hide ho5; have HB5 := hide hb5; clear ho5 hb5 hg5 hgl5)
              go_roundg g1
              case measure => omega
              case rel =>
                refine ⟨q + 1, by omega, by go_num, by omega, ?_, ((HBq.out.trans (B8.out.mono (by omega))).alloc (by omega) _).trans HB5.out⟩
                show World.ownsRow _ _ _ _ _ _ _
                rw [HFT.out, ← List.append_assoc, HLL.out, HNQ.out]
                exact HO5.out
        | succ g0 =>
          obtain ⟨wO, hwO⟩ : ∃ wO, wO = wr := ⟨_, rfl⟩
          subst hwO
          have hlt' : decide ((k : Int) < (n : Int) + 1) = true := by rw [decide_eq_true_eq]; omega
          have hltn : decide (k < n + 1) = true := by rw [decide_eq_true_eq]; omega
          have hkO : k < O.length := by have := HOL.out; omega
          have hi0 : (0 : Int) ≤ (k : Int) := by omega
          have hi1 : (k : Int) < (n : Int) + 1 := by omega
          have hc0 := HON.out k hkO
          have HFT := hide (framesM_take (D := dir) hkO)
          have HAl := HOM.out O[k] (List.getElem_mem hkO)
          obtain ⟨hn99, hfn, F, hFm, hfd, hsf, hsb⟩ := HSF.out O[k] HAl
          have HOKk : Hid (∀ b ∈ O[k].bs, textOkD b.seq b.chs = true) := segsL_ok HAl
          have HTKk := hide (HTK.out O[k] HAl)
          have hbl3 := segsL_three HAl
          have hfl := framesM_len dir (O.take (k + 1))
          have hfl2 := segsN_take_le O (k + 1)
          have hfl3 := HSN.out
          rw [HFT.out, List.length_append] at hfl
          clear HAl
          generalize O[k] = A at hc0 HFT hn99 hfn hfd hsf hsb HOKk hbl3 HTKk hfl
          have hFz := (HS.out F hFm).2
          have HRS := hide (fun W => specReadSegment_any (A.num : Int) F.text W hFz)
          unfold SegLeft at HRS
          rw [hsf, hsb] at HRS
          generalize segEnd (A.num : Int) F.text = en0 at HRS
          generalize segOk (A.num : Int) F.text = ok0 at HRS
          have hhd := headT_hd hn99 hfn
          have HHT := hide (fun W => specHeadText_any (A.num : Int) (A.frm : Int) W)
          obtain ⟨HT, HHTT⟩ : ∃ t, Hid (headT (A.num : Int) (A.frm : Int) = t) := ⟨_, hide rfl⟩
          rw [HHTT.out] at HHT hhd
          generalize (decide (0 ≤ (A.num : Int) ∧ (A.num : Int) ≤ 99 ∧ 0 ≤ (A.frm : Int) ∧ (A.frm : Int) ≤ (A.num : Int))) = okh at HHT
          have HHD := hide hhd
          clear hhd
          obtain ⟨NM, HNM⟩ : ∃ NM, Hid (segNm (A.num : Int) = NM) := ⟨_, rfl⟩
          have HNa : Hid (∀ W : World, Calls Tryz.prog 45 #[.int .i64 (A.num : Int)] W fun e w' => e = .returned (.string NM) ∧ Below W.heap.size W w') := fun W => by rw [← HNM.out]; exact specSegName_any (A.num : Int) W
          have HAT : Hid (∀ W, Below wO.heap.size wO W → Calls Tryz.prog 62 #[.agg #[.slice ao fs.length cap], .string NM] W fun e w' => e = .returned (.tuple #[.string F.text, .bool true]) ∧ Below W.heap.size W w') := fun W hW => specFileAt_some' fs ao cap NM W F hl (filesAt_keep HF.out (HWr.out.trans (hW.mono HWr.out.size))) (by rw [← HNM.out]; exact hfd)
          clear hfd hsf hsb hFm
          obtain ⟨L, HLL⟩ : ∃ L, Hid (framesM dir (O.take k) = L) := ⟨_, hide rfl⟩
          rw [HLL.out] at HOr HFT hfl
          obtain ⟨ax, cx, hvx⟩ := slice_form HOr.out
          subst hvx
          have hd0 : wO.cell? ⟨w.heap.size, 0, none⟩ = some (.slice ao fs.length cap) := (cell_of_row wO _ 0 _ _ (0, 0) ((B2r.out.block _ (heap_lt HBK2.out)).trans HBK2.out)).trans rfl
          have hd1 := (B2r.out.cell (p := ⟨g, k, none⟩) hgw).trans hc0
          have hz0 : w.heap.size < wO.heap.size := by have := heap_lt HBK2.out; have := B2r.out.size; omega
          have hz1 : g < wO.heap.size := by have := B2r.out.size; omega
          go_wp2_with fail
          go_region_held3 (fun w' => w'.cell? ⟨w.heap.size, 0, none⟩ = some (.slice ao fs.length cap) ∧ w'.cell? ⟨g, k, none⟩ = some (.int .i64 (A.num : Int))) (first | go_keep | (exact ⟨hd0, hd1⟩) | (exact ⟨(b2.cell (p := ⟨w.heap.size, 0, none⟩) hz0).trans hd0, (b2.cell (p := ⟨g, k, none⟩) hz1).trans hd1⟩) | (exact ⟨((b2.trans (b3.mono b2.size)).cell (p := ⟨w.heap.size, 0, none⟩) hz0).trans hd0, ((b2.trans (b3.mono b2.size)).cell (p := ⟨g, k, none⟩) hz1).trans hd1⟩)) ((first | (go_at_call 45; refine (HNa.out _).mono ?_; rintro e w5 ⟨rfl, b2⟩) | (go_at_call 62; refine (HAT.out _ (by first | exact b2 | exact (Below.refl _ _).drew.trans b2)).mono ?_; rintro e w6 ⟨rfl, b3⟩)))
          have B6 : Hid (Below wO.heap.size wO w6) := (Below.refl _ _).drew.trans (b2.trans (b3.mono b2.size))
          clear b2 b3 hd0 hd1
          have hd1 : w6.cell? ⟨g, k, none⟩ = some (.int .i64 (A.num : Int)) := ((B2r.out.trans (B6.out.mono (by have := B2r.out.size; omega))).cell (p := ⟨g, k, none⟩) hgw).trans hc0
          go_wp2_with fail
          refine (HRS.out _).mono ?_
          rintro e w7 ⟨⟨v7, rfl, r7⟩, b7⟩
          obtain ⟨a7, c7, rfl, -⟩ := rowBatch_at r7
          have R7 := hide r7
          have B7 := hide (B6.out.trans (b7.mono B6.out.size))
          clear r7 b7 hd1
          have hd1 : w7.cell? ⟨g, k, none⟩ = some (.int .i64 (A.num : Int)) := ((B2r.out.trans (B7.out.mono (by have := B2r.out.size; omega))).cell (p := ⟨g, k, none⟩) hgw).trans hc0
          go_wp2_with fail
          refine (HHT.out _).mono ?_
          rintro e w8 ⟨rfl, b8⟩
          have R8 := hide (rowBatch_below R7.out b8)
          have B8 := hide (B7.out.trans (b8.mono B7.out.size))
          clear b8 hd1 R7
          have H8 : Hid (Below w2.heap.size w2 w8) := B2r.out.trans (B8.out.mono (by have := B2r.out.size; omega))
          have hw8 : wO.heap.size ≤ w8.heap.size := B8.out.size
          have HO8 := hide (ownsRow_below HOr.out B8.out)
          have hbln : A.bs.length ≤ 6667 := by have := chsN_len A.bs (fun b hb => textOk_one (HOKk.out b hb)); omega
          have HF0 : Hid (frmsTo dir A 0 = []) := rfl
          obtain ⟨r0, HR0⟩ : ∃ r, Hid ((Value.slice ax ((HX :: L).map addA).length cx).ownBlock = r) := ⟨_, hide rfl⟩
          have HRF : Hid (∀ X, w8.grownBy X r0 → BatchesAt X a7 A.bs) := fun X hX => by
            refine (rowBatch_rows (rowBatch_far R8.out hX (fun g hg => ?_))).2
            obtain ⟨C, hC⟩ := owns_block HO8.out (HR0.out.trans hg)
            exact ⟨C, _, hC, by decide, by decide⟩
          clear B6 B7 HOr hlt' hltn
          go_wp2_with fail
          go_loopg [11, 21, 22] A.bs.length (fun g2 vo va ii wy => ∃ (j : Nat), j + g2 = A.bs.length ∧ va = .int .i64 ((A.hd + totD (A.bs.take j) : Nat) : Int) ∧ ii = .int .i64 j ∧ j ≤ A.bs.length ∧ Hid (wy.ownsRow w3.heap.size 103 4 vo ((HX :: (L ++ frmsTo dir A j)).map addA).length (cellsAct ((HX :: (L ++ frmsTo dir A j)).map addA))) ∧ Hid (Below w3.heap.size w8 wy) ∧ Hid (w8.grownBy wy r0) ∧ Hid (∀ g, vo.ownBlock = some g → r0 = some g ∨ w8.heap.size ≤ g))
          case atStart => exact ⟨0, by omega, by rw [HHD.out]; rfl, rfl, Nat.zero_le _, by show World.ownsRow _ _ _ _ _ _ _; rw [HF0.out, List.append_nil]; have h := HO8.out; rw [show ((HX :: L).map addA).length = L.length + 1 from by simp] at h ⊢; exact h, Below.refl _ _, World.grownBy.refl _ _, fun g hg => .inl (HR0.out.symm.trans (by rw [show ((HX :: L).map addA).length = L.length + 1 from by simp]; exact hg))⟩
          case round =>
            obtain ⟨j, hjg, rfl, rfl, hj, HOy, HBy, HGy, HVy⟩ := hrel
            have hwy := HBy.out.size
            cases gk with
            | zero =>
              have hjt' : decide ((j : Int) < (A.bs.length : Int)) = false := by rw [decide_eq_false_iff_not]; omega
              have hjtn : decide (j < A.bs.length) = false := by rw [decide_eq_false_iff_not]; omega
              have hje : j = A.bs.length := by omega
              have HOz : Hid (wr.ownsRow w3.heap.size 103 4 u11 ((HX :: framesM dir (O.take (k + 1))).map addA).length (cellsAct ((HX :: framesM dir (O.take (k + 1))).map addA))) := by
                rw [HFT.out]
                rw [hje] at HOy
                exact HOy.out
              clear hje
              go_wp2_with fail
              go_roundg g0
              case measure => omega
              case rel => exact ⟨k + 1, by omega, by go_num, by omega, HOz, HBr.out.trans ((B8.out.mono (by omega)).trans HBy.out)⟩
            | succ g2 =>
              obtain ⟨wP, hwP⟩ : ∃ wP, wP = wr := ⟨_, rfl⟩
              subst hwP
              have hjt : j < A.bs.length := by omega
              have hjt' : decide ((j : Int) < (A.bs.length : Int)) = true := by rw [decide_eq_true_eq]; omega
              have hjtn : decide (j < A.bs.length) = true := by rw [decide_eq_true_eq]; omega
              have hj0 : (0 : Int) ≤ (j : Int) := by omega
              have hj1 : (j : Int) < (A.bs.length : Int) := by omega
              obtain ⟨b, off, hab, hbw, he0, a2, c2, he1, hch⟩ := HRF.out wP HGy.out j hjt
              have htj := hide (List.take_succ_eq_append_getElem hjt)
              have hokb := HOKk.out A.bs[j] (List.getElem_mem hjt)
              obtain ⟨hto, hke⟩ := HTKk.out j hjt
              have HFj : Hid (frmsTo dir A (j + 1) = frmsTo dir A j ++ (if (livK dir A j).length = 0 then [] else [frameO (textD (seqK A j) (livK dir A j))])) := rfl
              rw [seqK_at hjt] at HFj
              have hfy := frmsTo_len dir A j
              have hlc : (livK dir A j).length ≤ A.bs[j].chs.length ∧ ∀ B ∈ livK dir A j, B ∈ A.bs[j].chs := by
                rw [livK_at hjt]
                exact ⟨liveI_len _ _ _ _ _, fun B hB => (List.mem_filter.1 hB).1⟩
              obtain ⟨C, HC9⟩ : ∃ C, Hid (A.bs[j] = C) := ⟨_, hide rfl⟩
              rw [HC9.out] at he0 he1 hch htj hokb hke HFj hlc
              subst hab
              have hsm := textOk_small hokb
              have HCS : Hid (∀ B ∈ livK dir A j, B.key.size ≤ 1048576 ∧ B.value.size ≤ 1048576) := fun B hB => by have := hsm.2.2 B (hlc.2 B hB); omega
              obtain ⟨ps, HPS⟩ : ∃ p : Nat, Hid (A.hd + totD (A.bs.take j) = p) := ⟨_, hide rfl⟩
              have hpsb : ps ≤ 100000000 := by
                rw [← HPS.out]
                have h1 := hd_le A
                have h2 := totD_le (A.bs.take j)
                have h3 : (A.bs.take j).length ≤ j := by rw [List.length_take]; omega
                omega
              rw [HPS.out] at hto hke ⊢
              have HNj : Hid (A.hd + totD (A.bs.take (j + 1)) = ps + sizeD C.seq C.chs) := by
                show _ = _
                rw [htj.out, totD_snoc]
                have := HPS.out
                omega
              obtain ⟨M, HM⟩ : ∃ M, Hid ((HX :: (L ++ frmsTo dir A j)).map addA = M) := ⟨_, hide rfl⟩
              have hMl : M.length ≤ 1048576 := by
                rw [← HM.out]
                simp only [List.length_map, List.length_cons, List.length_append]
                omega
              have HMj : Hid ((HX :: (L ++ frmsTo dir A (j + 1))).map addA = M ++ (if (livK dir A j).length = 0 then [] else [frameO (textD C.seq (livK dir A j))]).map addA) := by
                show _ = _
                rw [HFj.out, ← HM.out, ← List.append_assoc, ← List.cons_append, List.map_append]
              rw [HM.out] at HOy
              generalize livK dir A j = K9 at hto hke HMj hlc HCS
              have HWP : Hid (Below w.heap.size w wP) := HWr.out.trans (((B8.out.mono HWr.out.size)).trans (HBy.out.mono (by have := HW3.out.size; omega)))
              have HDP := hide (spotsAt_keep HD.out HWP.out)
              have hP0 : wP.cell? ⟨w.heap.size, 4, none⟩ = some (.slice ad dir.length cd) := (cell_of_row wP _ 4 _ _ (0, 0) (((HBr.out.trans ((B8.out.mono (by omega)).trans HBy.out)).block _ (by have := heap_lt HBK2.out; omega)).trans HBKA.out)).trans rfl
              have hP1 : wP.cell? ⟨g, k, none⟩ = some (.int .i64 (A.num : Int)) := ((B2A.out.trans (((HBr.out.trans ((B8.out.mono (by omega)).trans HBy.out))).mono hw3)).cell (p := ⟨g, k, none⟩) hgw).trans hc0
              have hzP0 : w.heap.size < wP.heap.size := by omega
              have hzP1 : g < wP.heap.size := by omega
              have HTO : Hid (∀ X, Below wP.heap.size wP X → Calls Tryz.prog 64 #[.slice ad dir.length cd, .int .i64 (A.num : Int), .int .i64 (ps : Int)] X fun e w' => e = .returned (.bool (decide (0 < K9.length))) ∧ Below X.heap.size X w') := fun X hX => by
                refine (l09Told_any dir ad cd (A.num : Int) (ps : Int) X hdl (spotsAt_keep HDP.out hX)).mono ?_
                rintro e w' ⟨rfl, rfl⟩
                rw [hto]
                exact ⟨rfl, Below.refl _ _⟩
              have HSZ : Hid (∀ X a c, ChangesAt X a C.chs → Calls Tryz.prog 59 #[.agg #[.int .i64 C.seq, .slice a C.chs.length c]] X fun e w' => e = .returned (.int .i64 (sizeD C.seq C.chs : Nat)) ∧ Below X.heap.size X w') := fun X a c hX => l07Size_any C.seq C.chs a c X (by omega) hX (fun B hB => by have := hsm.2.2 B hB; omega)
              have hsd := sizeD_le C.seq C.chs
              have HCH := hide hch
              clear hch
              generalize sizeD C.seq C.chs = sd at HSZ HNj hsd
              have KS : Hid (∀ X, Below wP.heap.size wP X → (X.cell? ⟨w.heap.size, 4, none⟩ = some (.slice ad dir.length cd) ∧ X.cell? ⟨g, k, none⟩ = some (.int .i64 (A.num : Int)) ∧ X.cell? ⟨b, off + j * 2, none⟩ = some (.int .i64 C.seq) ∧ X.cell? ⟨b, off + j * 2 + 1, none⟩ = some (.slice a2 C.chs.length c2))) := fun X hX => ⟨(hX.cell (p := ⟨w.heap.size, 4, none⟩) hzP0).trans hP0, (hX.cell (p := ⟨g, k, none⟩) hzP1).trans hP1, (hX.cell (p := ⟨b, off + j * 2, none⟩) hbw).trans he0, (hX.cell (p := ⟨b, off + j * 2 + 1, none⟩) hbw).trans he1⟩
              go_wp2_with fail
              go_region_held3 (fun w' => w'.cell? ⟨w.heap.size, 4, none⟩ = some (.slice ad dir.length cd) ∧ w'.cell? ⟨g, k, none⟩ = some (.int .i64 (A.num : Int)) ∧ w'.cell? ⟨b, off + j * 2, none⟩ = some (.int .i64 C.seq) ∧ w'.cell? ⟨b, off + j * 2 + 1, none⟩ = some (.slice a2 C.chs.length c2)) ((refine KS.out _ ?_; first | (exact e9) | (exact (Below.refl _ _).drew) | fail)) ((go_at_call 64; refine (HTO.out _ ?_).mono ?_; exact (Below.refl _ _).drew; rintro e w9 ⟨rfl, b9⟩; have e9 : Below wP.heap.size wP w9 := ((Below.refl _ _).drew).trans b9))
              have E9 := hide e9
              clear b9 e9 hto
              by_cases hK0 : K9.length = 0
              · have hK0' : decide (0 < K9.length) = false := by rw [decide_eq_false_iff_not]; omega
                rw [hK0']
                rw [if_pos hK0, List.map_nil, List.append_nil] at HMj
                obtain ⟨hq0, hq1, hq2, hq3⟩ := KS.out _ E9.out
                clear hK0 hK0'
                go_wp2_with fail
                refine (HSZ.out _ _ _ (changesAt_keep HCH.out E9.out)).mono ?_
                rintro e w10 ⟨rfl, b10⟩
                have E10 := hide (E9.out.trans (b10.mono E9.out.size))
                clear b10 hq0 hq1 hq2 hq3
                go_wp2_with fail
                go_roundg g2
                case measure => omega
                case rel =>
                  refine ⟨j + 1, by omega, by rw [HNj.out]; go_num, by go_num, by omega, ?_, HBy.out.trans (E10.out.mono (by omega)), grow_step HGy.out E10.out (World.grownBy.refl _ none) (fun g h => by cases h), HVy⟩
                  show World.ownsRow _ _ _ _ _ _ _
                  rw [HMj.out]
                  exact ownsRow_below HOy.out E10.out
              · have hK0' : decide (0 < K9.length) = true := by rw [decide_eq_true_eq]; omega
                rw [hK0']
                rw [if_neg hK0] at HMj
                clear hK0 hK0'
                have hkl : (keptS dir (A.num : Int) (ps : Int) C.chs).length ≤ 1000 := by rw [hke]; omega
                have HKE : Hid (∀ X, Below w9.heap.size w9 X → Calls Tryz.prog 66 #[.slice ad dir.length cd, .agg #[.int .i64 C.seq, .slice a2 C.chs.length c2], .int .i64 (A.num : Int), .int .i64 (ps : Int)] X fun e w' => (∃ v, e = .returned v ∧ RowChange w' X.heap.size v K9) ∧ Below X.heap.size X w') := fun X hX => by
                  have hPX := E9.out.trans (hX.mono E9.out.size)
                  have h := l09Kept_any dir ad cd C.seq C.chs a2 c2 (A.num : Int) (ps : Int) X hdl (by omega) hkl (spotsAt_keep HDP.out hPX) (changesAt_keep HCH.out hPX)
                  rw [hke] at h
                  exact h
                have HBT : Hid (∀ X a c, ChangesAt X a K9 → Calls Tryz.prog 65 #[.agg #[.int .i64 C.seq, .slice a K9.length c]] X fun e w' => e = .returned (.tuple #[.string (textD C.seq K9), .bool (textOkD C.seq K9)]) ∧ Below X.heap.size X w') := fun X a c hX => specBatchText_any C.seq K9 a c X (by omega) hX HCS.out
                have KS9 : Hid (∀ X, Below w9.heap.size w9 X → (X.cell? ⟨w.heap.size, 4, none⟩ = some (.slice ad dir.length cd) ∧ X.cell? ⟨g, k, none⟩ = some (.int .i64 (A.num : Int)) ∧ X.cell? ⟨b, off + j * 2, none⟩ = some (.int .i64 C.seq) ∧ X.cell? ⟨b, off + j * 2 + 1, none⟩ = some (.slice a2 C.chs.length c2))) := fun X hX => KS.out X (E9.out.trans (hX.mono E9.out.size))
                generalize textOkD C.seq K9 = tok at HBT
                generalize textD C.seq K9 = TX at HBT HMj
                clear hkl hke KS HTO
                go_wp2_with fail
                go_region_held3 (fun w' => w'.cell? ⟨w.heap.size, 4, none⟩ = some (.slice ad dir.length cd) ∧ w'.cell? ⟨g, k, none⟩ = some (.int .i64 (A.num : Int)) ∧ w'.cell? ⟨b, off + j * 2, none⟩ = some (.int .i64 C.seq) ∧ w'.cell? ⟨b, off + j * 2 + 1, none⟩ = some (.slice a2 C.chs.length c2)) ((refine KS9.out _ ?_; first | (exact e11) | (exact e10) | (exact (Below.refl _ _).drew) | fail)) ((first | (go_at_call 66; refine (HKE.out _ ?_).mono ?_; exact (Below.refl _ _).drew; rintro e w10 ⟨⟨v10, rfl, r10⟩, b10⟩; have e10 : Below w9.heap.size w9 w10 := ((Below.refl _ _).drew).trans b10; obtain ⟨a10, c10, hv10, hat10⟩ := rowChange_at r10; subst hv10) | (go_at_call 65; refine (HBT.out _ _ _ hat10).mono ?_; rintro e w11 ⟨rfl, b11⟩; have e11 : Below w9.heap.size w9 w11 := e10.trans (b11.mono e10.size))))
                have E11 := hide (E9.out.trans (e11.mono E9.out.size))
                clear e10 e11 b10 b11 r10 hat10 HKE HBT KS9
                go_wp2_with fail
                refine (specFrameO_any TX _).mono ?_
                rintro e w12 ⟨⟨bb, rfl⟩, b12⟩
                have E12 := hide (E11.out.trans (b12.mono E11.out.size))
                have hs12 : wP.heap.size ≤ w12.heap.size := E12.out.size
                generalize frameO TX = FX at HMj
                have HMj2 : Hid ((HX :: (L ++ frmsTo dir A (j + 1))).map addA = M ++ [addA FX]) := HMj
                clear b12 HMj
                have E12a : Hid (∀ Y, Below wP.heap.size wP (w12.alloc Y)) := fun Y => E12.out.alloc hs12 _
                go_wp2_with (at_builtin; refine app_actG _ w3.heap.size (by rfl) _ _ (by rfl) _ M (addA FX) (by rfl) ((ownsRow_below HOy.out E12.out).alloc _) w12.heap.size (by rfl) (heap_alloc_new w12 _) hMl (by simp; omega) ?_; intro g5 cap5 w13 ho5 hb5 hgr5 hgg5; have HO13 := hide ho5; have HBB := hide hb5; have HG13 := hide (grow_step HGy.out (E12a.out _) hgr5 HVy.out); have HV13 : Hid (∀ gq, (Value.slice (some ⟨g5, 0, none⟩) (M.length + 1) cap5).ownBlock = some gq → r0 = some gq ∨ w8.heap.size ≤ gq) := (fun gq hq => by (have hq2 : g5 = gq := (by simpa [Value.ownBlock] using hq); subst hq2; rcases hgg5 with h | h; exact HVy.out _ h; right; rw [h, World.size_alloc]; omega)); have HB13 := hide (HBy.out.trans (((E12a.out _).mono (by omega)).trans hb5)); clear ho5 hb5 hgr5 hgg5; obtain ⟨bq, offq, habq, hbwq, heq0, aq, cq, heq1, hchq⟩ := HRF.out _ HG13.out j hjt; rw [HC9.out] at heq0 heq1 hchq; cases habq)
                refine (HSZ.out _ _ _ hchq).mono ?_
                rintro e w14 ⟨rfl, b14⟩
                have E14 := hide b14
                clear b14 heq0 heq1 hchq
                go_wp2_with fail
                go_roundg g2
                case measure => omega
                case rel =>
                  refine ⟨j + 1, by omega, by rw [HNj.out]; go_num, by go_num, by omega, ?_, HB13.out.trans (E14.out.mono (by have := HB13.out.size; omega)), grow_step HG13.out E14.out (World.grownBy.refl _ none) (fun g h => by cases h), HV13⟩
                  show World.ownsRow _ _ _ _ _ _ _
                  rw [HMj2.out]
                  exact ownsRow_below HO13.out E14.out
    · have hO : Hid (OK = false) := by show _ = _; rw [← HOK.out]; unfold mergOk; rw [HK.out, HL.out, decide_eq_false h1]; rfl
      have hR : Hid (R = []) := by show _ = _; rw [← HR.out]; exact mergE_no (HOK.out.trans hO.out)
      have hl2 : decide ((l.length : Int) < 2) = true := by rw [decide_eq_true_eq]; omega
      have hl2n : decide (l.length < 2) = true := by rw [decide_eq_true_eq]; omega
      go_wp2_with fail
      first | go_quiet (fail) | skip
      go_wp2
      refine bodyPost_ret (results_tmp2 rfl _ _ _) rfl ?_
      rw [hO.out, hR.out]
      exact ⟨⟨_, rfl, HO2.out⟩, HW2.out⟩
theorem buildG_lock {w : World} {B K g : Nat} {v : Value} {l : List SegD} {C : Array Value} (h : BuildG w B K v l) (hb : w.heap[g]? = some (.cells C 140 (0, 0))) (z : Value) : BuildG (w.setCell ⟨g, 0, none⟩ z) B K v l := by
  obtain ⟨vs, ps, h0, h1, h2, h3, h4⟩ := h
  have hg : w.grownBy (w.setCell ⟨g, 0, none⟩ z) (some g) := grownBy_store (World.grownBy.refl w _) 0 z
  refine ⟨vs, ps, h0, h1, World.ownsRow.kept h2 hg ?_, fun j x b hx hj => rowBatch_far (h3 j x b hx hj) hg (fun g' e => ⟨C, _, by cases e; exact hb, by decide, by decide⟩), fun j x b hx hj => rowNat_far (h4 j x b hx hj) hg (fun g' e => ⟨C, _, by cases e; exact hb, by decide⟩)⟩
  cases hv : v.ownBlock with
  | none => exact .inl rfl
  | some k =>
    refine .inr (fun e => ?_)
    obtain ⟨C', hC⟩ := owns_block h2 hv
    cases e
    rw [hb] at hC
    simp at hC
theorem acts_lock {w : World} {B g n : Nat} {v : Value} {xs : List Value} {C : Array Value} (h : w.ownsRow B 103 4 v n xs) (hb : w.heap[g]? = some (.cells C 140 (0, 0))) (z : Value) : (w.setCell ⟨g, 0, none⟩ z).ownsRow B 103 4 v n xs := by
  refine World.ownsRow.kept h (grownBy_store (World.grownBy.refl w (some g)) 0 z) ?_
  cases hv : v.ownBlock with
  | none => exact .inl rfl
  | some k =>
    refine .inr (fun e => ?_)
    obtain ⟨C', hC⟩ := owns_block h hv
    cases e
    rw [hb] at hC
    simp at hC
theorem mergeActs_any (fs : List FileD) (room : Int) (wB : World) (g : Nat) (vd vr vs : Value) (w : World) (hst : StoreAt w wB.heap.size g fs room vd vr vs) (h0 : 0 < (segsL fs).length) (hwB : Below wB.heap.size wB w) (hT : SumTab wB) :
    Calls Tryz.prog 68 #[.pointer (some ⟨g, 0, none⟩)] w fun e w' => (((segsL fs).length = 1 ∧ ∃ s, e = .returned (.tuple #[.slice none 0 0, .iface 142 (.agg #[.int .i64 1, .string s])])) ∨
      (1 < (segsL fs).length ∧ ∃ v, e = .returned (.tuple #[v, .nilIface]) ∧ w'.ownsRow wB.heap.size 103 4 v (actsM (dirD fs) (segsL fs).dropLast (lastNum (segsL fs))).length (cellsAct (actsM (dirD fs) (segsL fs).dropLast (lastNum (segsL fs)))))) ∧ Below wB.heap.size w w' := by
  have hle := hst.le
  have hs1 := storeAt_dirC hst (.int .i32 1)
  have hg1 := buildG_lock hst.segs hst.blk (.int .i32 1)
  obtain ⟨ar, cr, rfl, hds⟩ := rowSpot_at hs1
  obtain ⟨ag, cg, rfl⟩ := buildG_form hg1
  have hcap : (segsL fs).length ≤ cg := by obtain ⟨_, _, _, _, h2, _⟩ := hg1; exact owns_cap h2
  have HDS := hide hds
  have HSG := hide (segsAt_of hg1)
  have HB1 := hide (storeAt_lock hst (.int .i32 1))
  have HK := hide (eight_cells hst.blk)
  have hdl := dirD_len fs
  have hll := segsL_len fs
  clear hds hs1 hst hg1
  obtain ⟨w1, hw1⟩ : ∃ w1, w1 = w.setCell ⟨g, 0, none⟩ (.int .i32 1) := ⟨_, rfl⟩
  rw [← hw1] at HB1 HDS HSG
  have HW1 : Hid (Below wB.heap.size w w1) := by show Below _ _ _; rw [hw1]; exact (Below.refl _ w).setCell (p := ⟨g, 0, none⟩) hle _
  have HWB : Hid (Below wB.heap.size wB w1) := hwB.trans HW1.out
  have HT1 : Hid (SumTab w1) := sumTab_later HWB.out hT
  have hgl : g < w1.heap.size := heap_lt HB1.out
  have hB1 : wB.heap.size ≤ w1.heap.size := Nat.le_of_lt (Nat.lt_of_le_of_lt hle hgl)
  obtain ⟨k0, k1, k2, k3, k4, k5, k6, k7, k8⟩ := eight_cells HB1.out
  have HAM := hide (actsOfMerge_any (dirD fs) (segsL fs) g ar ag cr cg wB.heap.size w1 (by omega) (dirD_srt fs) hgl k6 k7 hcap HDS.out hll h0 HSG.out (fun S hS => segsL_ok hS) (fun S hS => by have h1 := chsN_len S.bs (fun b hb => textOk_one (segsL_ok hS b hb)); have h2 := segsL_three hS; omega) (by have := segsL_N fs; omega) HT1.out)
  clear hwB hT k1 k2 k3 k4 k5 k6 k7 k8
  go_enter_defers Tryz.func68, Tryz.ntmps68
  go_wp2_with fail
  refine (Go.MuLone.lock_free Tryz.muLib ⟨g, 0, none⟩ w HK.out.1 HK.out.2.2.2.2.2.2.2.2).mono ?_
  rintro e w' ⟨rfl, rfl⟩
  rw [← hw1]
  clear hw1
  go_wp2_with fail
  refine HAM.out.mono ?_
  rintro e w2 ⟨⟨hl1, s, rfl⟩ | ⟨hl1, v, rfl, ho⟩, b2⟩
  · have h00 : w2.cell? ⟨g, 0, none⟩ = some (.int .i32 1) := (b2.cell (p := ⟨g, 0, none⟩) hgl).trans k0
    have hz : w2.frozen? ⟨g, 0, none⟩ = false := frozen_of_row w2 g 0 _ _ ((b2.block _ hgl).trans HB1.out)
    have B2 := hide b2
    have HL1 := hide hl1
    clear b2 hl1
    go_wp2
    refine leaves_cons (f := 91) (args := #[.pointer (some ⟨g, 0, none⟩)]) (by simp) (by simp [go_sem]) ?_
    refine (Go.MuLone.unlock_deferred Tryz.muLib ⟨g, 0, none⟩ .returning _ h00 hz).mono ?_
    rintro e u' w'' ⟨rfl, rfl, rfl⟩
    exact ⟨_, results_tmp2 rfl _ _ _, .inl ⟨HL1.out, _, rfl⟩, (HW1.out.trans (B2.out.mono hB1)).setCell (p := ⟨g, 0, none⟩) hle _⟩
  · rw [lastNum_at hl1] at ho
    have h00 : w2.cell? ⟨g, 0, none⟩ = some (.int .i32 1) := (b2.cell (p := ⟨g, 0, none⟩) hgl).trans k0
    have HBK := hide ((b2.block _ hgl).trans HB1.out)
    have hz : w2.frozen? ⟨g, 0, none⟩ = false := frozen_of_row w2 g 0 _ _ HBK.out
    have B2 := hide b2
    have HL1 := hide hl1
    have HO := hide ho
    clear b2 hl1 ho
    go_wp2
    refine leaves_cons (f := 91) (args := #[.pointer (some ⟨g, 0, none⟩)]) (by simp) (by simp [go_sem]) ?_
    refine (Go.MuLone.unlock_deferred Tryz.muLib ⟨g, 0, none⟩ .returning _ h00 hz).mono ?_
    rintro e u' w'' ⟨rfl, rfl, rfl⟩
    exact ⟨_, results_tmp2 rfl _ _ _, .inr ⟨HL1.out, _, rfl, acts_lock (ownsRow_mono HO.out hB1) HBK.out _⟩, (HW1.out.trans (B2.out.mono hB1)).setCell (p := ⟨g, 0, none⟩) hle _⟩
theorem implMergeActs_any (fs : List FileD) (ao ad : Option Addr) (cap cd : Nat) (room act seq : Int) (dir : List SpotD) (w : World) (hl : fs.length ≤ 1048576) (hfs : FilesAt w ao fs) (hsz : ∀ F ∈ fs, F.name.size ≤ 1048576 ∧ F.text.size ≤ 1048576) (_hld : dir.length ≤ 1048576) (hds : SpotsAt w ad dir) (hT : SumTab w) :
    Calls Tryz.prog 23 #[.agg #[.slice ao fs.length cap, .int .i64 room, .int .i64 act, .int .i64 seq, .slice ad dir.length cd]] w fun e w' => (∃ v, e = .returned (.tuple #[v, .bool (mergOk fs room act seq dir)]) ∧ RowAct w' w.heap.size v (mergE fs room act seq dir)) ∧ Below w.heap.size w w' := by
  have HSO := hide (fun W h1 h2 hT => storeOf_any fs ao ad cap cd room act seq dir W hl h1 hsz h2 hT)
  have HUS := hide (fun wB g vd vr vs W => mergeActs_any fs room wB g vd vr vs W)
  have HF := hide hfs
  have HD := hide hds
  have HT := hide hT
  clear hfs hds hsz hT
  obtain ⟨wb, hwb⟩ : ∃ wb, wb = w.alloc (.cells #[.slice ao fs.length cap, .int .i64 room, .int .i64 act, .int .i64 seq, .slice ad dir.length cd] 30) := ⟨_, rfl⟩
  have HB0 : Hid (Below w.heap.size w wb) := by rw [hwb]; exact (Below.refl _ w).alloc (Nat.le_refl _) _
  obtain ⟨R, HR⟩ : ∃ R, Hid (mergE fs room act seq dir = R) := ⟨_, hide rfl⟩
  obtain ⟨K, HK⟩ : ∃ K, Hid (mergOk fs room act seq dir = K) := ⟨_, hide rfl⟩
  rw [HR.out, HK.out]
  go_enter Tryz.func23, Tryz.ntmps23
  go_wp2_with fail
  rw [← hwb]
  clear hwb
  refine (HSO.out _ (filesAt_keep HF.out HB0.out) (spotsAt_keep HD.out HB0.out) (sumTab_later HB0.out HT.out)).mono ?_
  rintro e w1 ⟨b1, ⟨he, g, vd, vr, vs, rfl, hst⟩ | ⟨he, s, rfl⟩⟩
  · have HST := hide hst
    have HE := hide he
    have HW1 := hide (HB0.out.trans (b1.mono HB0.out.size))
    have HB1 := hide b1
    have HTB := hide (sumTab_later HB0.out HT.out)
    have HUV := hide (HUS.out wb g vd vr vs _ HST.out (soundB_segs he.2.1).2.2.2.2.2 HB1.out HTB.out)
    clear hst he b1
    go_wp2_with fail
    refine HUV.out.mono ?_
    rintro e w2 ⟨⟨hl1, s, rfl⟩ | ⟨hl1, v2, rfl, ho⟩, b2⟩
    · have hK : Hid (K = false) := by show _ = _; rw [← HK.out]; unfold mergOk; rw [engOkB_yes HE.out, decide_eq_false (by omega)]; rfl
      have hR : Hid (R = []) := by show _ = _; rw [← HR.out]; exact mergE_no (HK.out.trans hK.out)
      have B2 := hide b2
      clear b2 hl1
      go_wp2_with fail
      go_quiet (fail)
      go_wp2
      refine bodyPost_ret (results_tmp2 rfl _ _ _) rfl ?_
      rw [hK.out, hR.out]
      exact ⟨⟨_, rfl, .inl ⟨rfl, rfl⟩⟩, below_drewN (HW1.out.trans (B2.out.mono HB0.out.size)) _⟩
    · have hK : Hid (K = true) := by show _ = _; rw [← HK.out]; unfold mergOk; rw [engOkB_yes HE.out, decide_eq_true hl1]; rfl
      have hR : Hid (R = actsM (dirD fs) (segsL fs).dropLast (lastNum (segsL fs))) := by show _ = _; rw [← HR.out]; exact mergE_yes (HK.out.trans hK.out)
      have B2 := hide b2
      have HO := hide ho
      clear b2 hl1 ho
      go_wp2_with fail
      go_quiet (fail)
      go_wp2
      refine bodyPost_ret (results_tmp2 rfl _ _ _) rfl ?_
      rw [hK.out, hR.out]
      exact ⟨⟨_, rfl, rowAct_own (ownsRow_mono (ownsRow_below HO.out (drewN_below _ _)) HB0.out.size)⟩, below_drewN (HW1.out.trans (B2.out.mono HB0.out.size)) _⟩
  · have hK : Hid (K = false) := by show _ = _; rw [← HK.out]; unfold mergOk; rw [engOkB_no he]; rfl
    have hR : Hid (R = []) := by show _ = _; rw [← HR.out]; exact mergE_no (HK.out.trans hK.out)
    go_wp2
    refine bodyPost_ret (results_tmp2 rfl _ _ _) rfl ?_
    rw [hK.out, hR.out]
    exact ⟨⟨_, rfl, .inl ⟨rfl, rfl⟩⟩, HB0.out.trans (b1.mono HB0.out.size)⟩
theorem heldActS_any (ao : Option Addr) (cap n k : Nat) (w : World) (hn : n ≤ 1048576) (hk0 : 0 < k) (hk : k ≤ 10000000) (h : ActsAt w ao (markActDs k n)) :
    Calls Tryz.prog 27 #[.slice ao n cap, .int .i64 (k : Int)] w fun e w' => e = .returned (.int .i64 ((k + 4 * n : Nat) : Int)) ∧ Below w.heap.size w w' := by
  have HF := hide h
  clear h
  go_enter Tryz.func27, Tryz.ntmps27
  go_wp2
  go_loopw [1, 5] (fun kk ii wr => ∃ (j : Nat), kk = .int .i64 ((k + 4 * j : Nat) : Int) ∧ ii = .int .i64 j ∧ j ≤ n ∧ Hid (Below w.heap.size w wr)) (fun _ ii _ => n - (intOf ii).toNat)
  case atStart => exact ⟨0, rfl, rfl, Nat.zero_le _, Below.refl _ _⟩
  case round =>
    obtain ⟨j, rfl, rfl, hj, HB⟩ := hrel
    by_cases hlt : j < n
    · have hlt' : decide ((j : Int) < (n : Int)) = true := by simp; omega
      have hi0 : (0 : Int) ≤ (j : Int) := by omega
      have hi1 : (j : Int) < (n : Int) := by omega
      obtain ⟨b, off, rfl, hbw, hc0, hc1, hc2, hc3⟩ := actsAt_keep HF.out HB.out j (by rw [markActDs_length]; exact hlt)
      rw [markActDs_get] at hc0 hc1 hc2 hc3
      obtain ⟨K, HK⟩ : ∃ K : Nat, Hid (K = k + 4 * j) := ⟨_, hide rfl⟩
      have hKb : 0 < K ∧ K ≤ 15000000 := by have := HK.out; omega
      rw [← HK.out] at hc0 hc1 hc2 hc3 ⊢
      have hd0 : wr.cell? ⟨b, off + j * 4, none⟩ = some (.int .i64 ((K : Int))) := hc0.trans (by simp only [markActD])
      have he0 : (((K : Int)) == ((K : Int))) = true := beq_self_eq_true _
      obtain ⟨s1, hs1⟩ : ∃ s1 : ByteArray, s1 = ⟨(mk (K + 1)).toArray⟩ := ⟨_, rfl⟩
      have hd1 : wr.cell? ⟨b, off + j * 4 + 1, none⟩ = some (.string s1) := by rw [hs1]; exact hc1
      have he1 : (s1.toList == s1.toList) = true := beq_self_eq_true _
      have HM1 : Hid (∀ W, Calls Tryz.prog 72 #[.int .i64 ((K : Int) + 1)] W fun e w' => e = .returned (.string s1) ∧ Below W.heap.size W w') := fun W => by rw [hs1]; exact markAct_1 K W (by omega)
      obtain ⟨s2, hs2⟩ : ∃ s2 : ByteArray, s2 = ⟨(mk (K + 2)).toArray⟩ := ⟨_, rfl⟩
      have hd2 : wr.cell? ⟨b, off + j * 4 + 2, none⟩ = some (.string s2) := by rw [hs2]; exact hc2
      have he2 : (s2.toList == s2.toList) = true := beq_self_eq_true _
      have HM2 : Hid (∀ W, Calls Tryz.prog 72 #[.int .i64 ((K : Int) + 1 + 1)] W fun e w' => e = .returned (.string s2) ∧ Below W.heap.size W w') := fun W => by rw [hs2]; exact markAct_2 K W (by omega)
      obtain ⟨s3, hs3⟩ : ∃ s3 : ByteArray, s3 = ⟨(mk (K + 3)).toArray⟩ := ⟨_, rfl⟩
      have hd3 : wr.cell? ⟨b, off + j * 4 + 3, none⟩ = some (.string s3) := by rw [hs3]; exact hc3
      have he3 : (s3.toList == s3.toList) = true := beq_self_eq_true _
      have HM3 : Hid (∀ W, Calls Tryz.prog 72 #[.int .i64 ((K : Int) + 1 + 1 + 1)] W fun e w' => e = .returned (.string s3) ∧ Below W.heap.size W w') := fun W => by rw [hs3]; exact markAct_3 K W (by omega)
      clear hc0 hc1 hc2 hc3 hs1 hs2 hs3
      have HBW := hide hbw
      clear hbw
      have B0 : Hid (Below wr.heap.size wr wr) := Below.refl _ _
      go_wp2_with fail
      go_region_held3 (fun w' => w'.cell? ⟨b, off + j * 4 + 1, none⟩ = some (.string s1)) (first | go_keep | (exact (b1.cell (p := ⟨b, off + j * 4 + 1, none⟩) HBW.out).trans hd1)) ((go_at_call 72; refine (HM1.out _).mono ?_; rintro e v1 ⟨rfl, b1⟩))
      have B1 : Hid (Below wr.heap.size wr v1) := B0.out.trans (((Below.refl _ _).drew.trans b1).mono B0.out.size)
      clear b1
      have hx1_2 := (B1.out.cell (p := ⟨b, off + j * 4 + 2, none⟩) HBW.out).trans hd2
      have hx1_3 := (B1.out.cell (p := ⟨b, off + j * 4 + 3, none⟩) HBW.out).trans hd3
      have hw2 : b < v1.heap.size := Nat.lt_of_lt_of_le HBW.out B1.out.size
      go_wp2_with fail
      go_region_held3 (fun w' => w'.cell? ⟨b, off + j * 4 + 2, none⟩ = some (.string s2)) (first | go_keep | (exact (b2.cell (p := ⟨b, off + j * 4 + 2, none⟩) hw2).trans hx1_2)) ((go_at_call 72; refine (HM2.out _).mono ?_; rintro e v2 ⟨rfl, b2⟩))
      have B2 : Hid (Below wr.heap.size wr v2) := B1.out.trans (((Below.refl _ _).drew.trans b2).mono B1.out.size)
      clear b2
      have hx2_3 := (B2.out.cell (p := ⟨b, off + j * 4 + 3, none⟩) HBW.out).trans hd3
      have hw3 : b < v2.heap.size := Nat.lt_of_lt_of_le HBW.out B2.out.size
      go_wp2_with fail
      go_region_held3 (fun w' => w'.cell? ⟨b, off + j * 4 + 3, none⟩ = some (.string s3)) (first | go_keep | (exact (b3.cell (p := ⟨b, off + j * 4 + 3, none⟩) hw3).trans hx2_3)) ((go_at_call 72; refine (HM3.out _).mono ?_; rintro e v3 ⟨rfl, b3⟩))
      have B3 : Hid (Below wr.heap.size wr v3) := B2.out.trans (((Below.refl _ _).drew.trans b3).mono B2.out.size)
      clear b3
      go_wp2
      go_roundw
      case rel =>
        refine ⟨j + 1, ?_, by go_num, by omega, HB.out.trans (B3.out.mono HB.out.size)⟩
        have := HK.out
        congr 1
        omega
      case measure => simp [intOf]; omega
    · have hlt' : decide ((j : Int) < (n : Int)) = false := by simp; omega
      have hje : j = n := by omega
      subst hje
      go_wp2
      go_ret
      exact ⟨rfl, HB.out⟩
theorem markActS_nil (k : Int) (w : World) : Calls Tryz.prog 26 #[.slice none 0 0, .int .i64 k] w fun e w' => e = .returned (.int .i64 k) ∧ w' = w := by
  go_enter Tryz.func26, Tryz.ntmps26
  go_wp2
  go_loop [1, 5] (fun kk ii => kk = .int .i64 k ∧ ii = .int .i64 0) (fun _ _ => 0)
  case atStart => exact ⟨rfl, rfl⟩
  case round =>
    obtain ⟨rfl, rfl⟩ := hrel
    go_wp2
    go_ret
    exact ⟨rfl, rfl⟩
theorem markActS_own (v : Value) (fs : List ActD) (B k : Nat) (w : World) (hn : fs.length ≤ 1048576) (hk0 : 0 < k) (hk : k ≤ 10000000) (h : RowAct w B v fs) :
    Calls Tryz.prog 26 #[v, .int .i64 (k : Int)] w fun e w' => e = .returned (.int .i64 ((k + 4 * fs.length : Nat) : Int)) ∧ RowAct w' B v (markActDs k fs.length) ∧ w.grownBy w' v.ownBlock := by
  rcases h with ⟨rfl, rfl⟩ | ⟨g, cap, C, rfl, hB, hC, hs, hI⟩
  · refine (markActS_nil _ _).mono ?_
    rintro e w1 ⟨rfl, rfl⟩
    exact ⟨rfl, .inl ⟨rfl, rfl⟩, World.grownBy.refl _ _⟩
  · refine (markActS_row g cap fs.length C k w hn hk0 hk hC hs).mono ?_
    rintro e w1 ⟨rfl, ⟨C1, hC1, hs1, hI1⟩, hg⟩
    refine ⟨rfl, .inr ⟨g, cap, C1, by rw [markActDs_length], hB, hC1, by rw [markActDs_length]; omega, by rw [markActDs_length]; exact hI1⟩, hg⟩
theorem lawMergeActs (fs : List FileD) (ao ad : Option Addr) (cap cd : Nat) (room act seq : Int) (dir : List SpotD) (w : World) (hl0 : fs.length ≤ maxLen) (hfs : FilesAt w ao fs) (hsz0 : ∀ F ∈ fs, F.name.size ≤ maxLen ∧ F.text.size ≤ maxLen) (hld0 : dir.length ≤ maxLen) (hds : SpotsAt w ad dir) (hszd : ∀ A ∈ dir, A.key.size ≤ maxLen) (hT : SumTab w) :
    Calls Tryz.prog 6 #[.agg #[.slice ao fs.length cap, .int .i64 room, .int .i64 act, .int .i64 seq, .slice ad dir.length cd]] w fun e w' => e = .returned (.bool true) ∧ Below w.heap.size w w' := by
  have HF := hide hfs
  have HD := hide hds
  have HT := hide hT
  have HSZ := hide (fun W h1 h2 => szEngine_any fs ao ad cap cd room act seq dir W hl0 h1 hsz0 hld0 h2 hszd)
  clear hfs hds hT
  obtain ⟨wA, hwA⟩ : ∃ wA, wA = w.alloc (.cells #[.slice ao fs.length cap, .int .i64 room, .int .i64 act, .int .i64 seq, .slice ad dir.length cd] 45) := ⟨_, rfl⟩
  have HA : Hid (Below w.heap.size w wA) := by rw [hwA]; exact (Below.refl _ w).alloc (Nat.le_refl _) _
  have HAK : Hid (wA.heap[w.heap.size]? = some (.cells #[.slice ao fs.length cap, .int .i64 room, .int .i64 act, .int .i64 seq, .slice ad dir.length cd] 45 (0, 0))) := by rw [hwA]; exact heap_alloc_new w _
  obtain ⟨hz0, hz1, hz2, hz3, hz4, -⟩ := five_cells HAK.out
  go_enter Tryz.func6, Tryz.ntmps6
  go_wp2_with fail
  rw [← hwA]
  clear hwA
  go_wp2_with fail
  refine (HSZ.out _ (filesAt_keep HF.out HA.out) (spotsAt_keep HD.out HA.out)).mono ?_
  rintro e w1 ⟨⟨r, rfl, hr⟩, b1⟩
  have HR := hide hr
  have HAK1 := hide ((b1.block _ (heap_lt HAK.out)).trans HAK.out)
  obtain ⟨hy0, hy1, hy2, hy3, hy4, -⟩ := five_cells HAK1.out
  have HW1 := hide (HA.out.trans (b1.mono HA.out.size))
  clear b1 hr hz0 hz1 hz2 hz3 hz4
  by_cases hneg : r < 0
  · have hneg' : decide (r < 0) = true := by simp; omega
    go_wp2
    go_ret
    exact ⟨rfl, HW1.out⟩
  have hneg' : decide (r < 0) = false := by simp; omega
  obtain ⟨hl, hld, hz⟩ := HR.out (by omega)
  have HSp := hide (fun a d W h1 h2 => specMergeActs_any fs a d fs.length dir.length room act seq dir W hl h1 hz hld h2)
  have HIm := hide (fun a d W h1 h2 hT => implMergeActs_any fs a d fs.length dir.length room act seq dir W hl h1 hz hld h2 hT)
  have hLl : (mergE fs room act seq dir).length ≤ 1000000 := mergE_len fs room act seq dir
  clear hz HR
  generalize mergE fs room act seq dir = L at HSp HIm hLl
  generalize mergOk fs room act seq dir = ok at HSp HIm
  have hml : L.length ≤ maxLen := by unfold maxLen; omega
  have hoo : (!(ok == ok)) = false := by simp
  go_wp2_with fail
  refine (toEngine_any fs ao ad cap cd room act seq dir _ hl (filesAt_keep HF.out HW1.out) hld (spotsAt_keep HD.out HW1.out)).mono ?_
  rintro e w2 ⟨⟨a2, d2, rfl, hf2, hd2⟩, b2⟩
  have HW2 := hide (HW1.out.trans (b2.mono HW1.out.size))
  have HAK2 := hide ((b2.block _ (heap_lt HAK1.out)).trans HAK1.out)
  have HF2 := hide hf2
  have HD2 := hide hd2
  clear b2 hf2 hd2 hy0 hy1 hy2 hy3 hy4
  go_wp2_with fail
  refine (HSp.out _ _ _ HF2.out HD2.out).mono ?_
  rintro e w3 ⟨⟨v1, rfl, r3⟩, b3⟩
  obtain ⟨a1, c1, rfl, -⟩ := rowAct_at r3
  have R3 := hide r3
  have HW3 := hide (HW2.out.trans (b3.mono HW2.out.size))
  have HAK3 := hide ((b3.block _ (heap_lt HAK2.out)).trans HAK2.out)
  obtain ⟨hy0, hy1, hy2, hy3, hy4, -⟩ := five_cells HAK3.out
  clear b3 HF2 HD2 r3
  go_wp2_with fail
  refine (toEngine_row fs ao ad cap cd room act seq dir _ hl (filesAt_keep HF.out HW3.out) hld (spotsAt_keep HD.out HW3.out)).mono ?_
  rintro e w4 ⟨⟨a4, d4, rfl, hf4, hd4⟩, b4⟩
  have HW4 := hide (HW3.out.trans (b4.mono HW3.out.size))
  have HAK4 := hide ((b4.block _ (heap_lt HAK3.out)).trans HAK3.out)
  have RF4 := hide hf4
  have RD4 := hide hd4
  have R4 := hide (rowAct_below R3.out b4)
  have hs4 : w3.heap.size ≤ w4.heap.size := b4.size
  clear b4 hf4 hd4 hy0 hy1 hy2 hy3 hy4
  obtain ⟨wX, hwX⟩ : ∃ wX, wX = w4.alloc (.cells #[.slice a4 fs.length fs.length, .int .i64 room, .int .i64 act, .int .i64 seq, .slice d4 dir.length dir.length] 30) := ⟨_, rfl⟩
  have HX : Hid (Below w4.heap.size w4 wX) := by rw [hwX]; exact (Below.refl _ w4).alloc (Nat.le_refl _) _
  have HXK : Hid (wX.heap[w4.heap.size]? = some (.cells #[.slice a4 fs.length fs.length, .int .i64 room, .int .i64 act, .int .i64 seq, .slice d4 dir.length dir.length] 30 (0, 0))) := by rw [hwX]; exact heap_alloc_new w4 _
  have hXs : w4.heap.size + 1 = wX.heap.size := by rw [hwX]; simp
  have HWX := hide (HW4.out.trans (HX.out.mono HW4.out.size))
  obtain ⟨hx0, hx1, hx2, hx3, hx4, -⟩ := five_cells HXK.out
  have HIX := hide (HIm.out a4 d4 wX (rowF_rowsE (rowF_below RF4.out HX.out)) (rowSpot_rows (rowSpot_below RD4.out HX.out)) (sumTab_later HWX.out HT.out))
  subst hwX
  go_wp2_with fail
  refine HIX.out.mono ?_
  rintro e w5 ⟨⟨v2, rfl, r5⟩, b5⟩
  obtain ⟨a5, c5, rfl, -⟩ := rowAct_at r5
  have R25 := hide r5
  have HX5 := hide (HX.out.trans (b5.mono HX.out.size))
  have HW5 := hide (HW4.out.trans (HX5.out.mono HW4.out.size))
  have HAK5 := hide ((HX5.out.block _ (heap_lt HAK4.out)).trans HAK4.out)
  have HXK5 := hide ((b5.block _ (heap_lt HXK.out)).trans HXK.out)
  have R15 := hide (rowAct_below R4.out HX5.out)
  have RF5 := hide (rowF_below RF4.out HX5.out)
  have RD5 := hide (rowSpot_below RD4.out HX5.out)
  have hzX : w4.heap.size < w5.heap.size := heap_lt HXK5.out
  generalize hgX : (w4.alloc (.cells #[.slice a4 fs.length fs.length, .int .i64 room, .int .i64 act, .int .i64 seq, .slice d4 dir.length dir.length] 30)).heap.size = szX at hXs R25
  clear b5 hx0 hx1 hx2 hx3 hx4 HIX HXK HX HWX r5 hgX
  go_wp2_with fail
  refine (eqActS_same L a5 a1 c5 c1 _ hml (rowAct_rows R25.out) (rowAct_rows R15.out)).mono ?_
  rintro e w6 ⟨rfl, b6⟩
  have B6 := hide b6
  have hs6 : w5.heap.size ≤ w6.heap.size := b6.size
  have HW6 := hide (HW5.out.trans (b6.mono HW5.out.size))
  have HAK6 := hide ((b6.block _ (heap_lt HAK5.out)).trans HAK5.out)
  have HXK6 := hide ((b6.block _ (heap_lt HXK5.out)).trans HXK5.out)
  have RF6 := hide (rowF_below RF5.out b6)
  have RD6 := hide (rowSpot_below RD5.out b6)
  obtain ⟨hy0, hy1, hy2, hy3, hy4, -⟩ := five_cells HAK6.out
  obtain ⟨hv0, hv1, hv2, hv3, hv4, -⟩ := five_cells HXK6.out
  have hzA : w.heap.size < w6.heap.size := heap_lt HAK6.out
  have hzX6 : w4.heap.size < w6.heap.size := heap_lt HXK6.out
  clear b6
  have KS : Hid (∀ X, Below w6.heap.size w6 X → (X.cell? ⟨w.heap.size, 0, none⟩ = some (.slice ao fs.length cap) ∧ X.cell? ⟨w.heap.size, 1, none⟩ = some (.int .i64 room) ∧ X.cell? ⟨w.heap.size, 2, none⟩ = some (.int .i64 act) ∧ X.cell? ⟨w.heap.size, 3, none⟩ = some (.int .i64 seq) ∧ X.cell? ⟨w.heap.size, 4, none⟩ = some (.slice ad dir.length cd) ∧ X.cell? ⟨w4.heap.size, 0, none⟩ = some (.slice a4 fs.length fs.length) ∧ X.cell? ⟨w4.heap.size, 1, none⟩ = some (.int .i64 room) ∧ X.cell? ⟨w4.heap.size, 2, none⟩ = some (.int .i64 act) ∧ X.cell? ⟨w4.heap.size, 3, none⟩ = some (.int .i64 seq) ∧ X.cell? ⟨w4.heap.size, 4, none⟩ = some (.slice d4 dir.length dir.length))) := fun X hX => ⟨(hX.cell (p := ⟨w.heap.size, 0, none⟩) hzA).trans hy0, (hX.cell (p := ⟨w.heap.size, 1, none⟩) hzA).trans hy1, (hX.cell (p := ⟨w.heap.size, 2, none⟩) hzA).trans hy2, (hX.cell (p := ⟨w.heap.size, 3, none⟩) hzA).trans hy3, (hX.cell (p := ⟨w.heap.size, 4, none⟩) hzA).trans hy4, (hX.cell (p := ⟨w4.heap.size, 0, none⟩) hzX6).trans hv0, (hX.cell (p := ⟨w4.heap.size, 1, none⟩) hzX6).trans hv1, (hX.cell (p := ⟨w4.heap.size, 2, none⟩) hzX6).trans hv2, (hX.cell (p := ⟨w4.heap.size, 3, none⟩) hzX6).trans hv3, (hX.cell (p := ⟨w4.heap.size, 4, none⟩) hzX6).trans hv4⟩
  have HTE : Hid (∀ X, Below w6.heap.size w6 X → Calls Tryz.prog 18 #[.agg #[.slice ao fs.length cap, .int .i64 room, .int .i64 act, .int .i64 seq, .slice ad dir.length cd]] X fun e w' => (∃ a1 a2 : Option Addr, e = .returned (.agg #[.slice a1 fs.length fs.length, .int .i64 room, .int .i64 act, .int .i64 seq, .slice a2 dir.length dir.length]) ∧ FilesAt w' a1 fs ∧ SpotsAt w' a2 dir) ∧ Below X.heap.size X w') := fun X hX => toEngine_any fs ao ad cap cd room act seq dir X hl (filesAt_keep HF.out (HW6.out.trans (hX.mono HW6.out.size))) hld (spotsAt_keep HD.out (HW6.out.trans (hX.mono HW6.out.size)))
  have HFX := hide (rowF_rowsE RF6.out)
  have HDX := hide (rowSpot_rows RD6.out)
  go_wp2_with fail
  go_region_held3 (fun w' => w'.cell? ⟨w.heap.size, 0, none⟩ = some (.slice ao fs.length cap) ∧ w'.cell? ⟨w.heap.size, 1, none⟩ = some (.int .i64 room) ∧ w'.cell? ⟨w.heap.size, 2, none⟩ = some (.int .i64 act) ∧ w'.cell? ⟨w.heap.size, 3, none⟩ = some (.int .i64 seq) ∧ w'.cell? ⟨w.heap.size, 4, none⟩ = some (.slice ad dir.length cd) ∧ w'.cell? ⟨w4.heap.size, 0, none⟩ = some (.slice a4 fs.length fs.length) ∧ w'.cell? ⟨w4.heap.size, 1, none⟩ = some (.int .i64 room) ∧ w'.cell? ⟨w4.heap.size, 2, none⟩ = some (.int .i64 act) ∧ w'.cell? ⟨w4.heap.size, 3, none⟩ = some (.int .i64 seq) ∧ w'.cell? ⟨w4.heap.size, 4, none⟩ = some (.slice d4 dir.length dir.length)) ((refine KS.out _ ?_; first | (exact e8) | (exact e7) | (exact (Below.refl _ _).drew) | fail)) ((first | (go_at_call 18; refine (HTE.out _ ?_).mono ?_; exact (Below.refl _ _).drew; rintro e w7 ⟨⟨a7, d7, rfl, hf7, hd7⟩, b7⟩; have e7 : Below w6.heap.size w6 w7 := ((Below.refl _ _).drew).trans b7) | (go_at_call 19; refine (eqEngine_same fs _ _ _ _ _ _ _ _ room act seq dir _ hl0 (filesAt_keep HFX.out e7) hf7 hld0 (spotsAt_keep HDX.out e7) hd7).mono ?_; rintro e w8 ⟨rfl, b8⟩; have e8 : Below w6.heap.size w6 w8 := e7.trans (b8.mono e7.size))))
  have B8 := hide e8
  have HW8 := hide (HW6.out.trans (e8.mono HW6.out.size))
  have B58 := hide (B6.out.trans (e8.mono hs6))
  have hs8 : w6.heap.size ≤ w8.heap.size := e8.size
  clear e8 e7 b8 b7 hf7 hd7 hy0 hy1 hy2 hy3 hy4 hv0 hv1 hv2 hv3 hv4 KS HTE HFX HDX
  have HXK8 := hide ((B8.out.block _ (heap_lt HXK6.out)).trans HXK6.out)
  have HAK8 := hide ((B8.out.block _ (heap_lt HAK6.out)).trans HAK6.out)
  have RF8 := hide (rowF_below RF6.out B8.out)
  have RD8 := hide (rowSpot_below RD6.out B8.out)
  have R18 := hide (rowAct_below R15.out B58.out)
  have R28 := hide (rowAct_below R25.out B58.out)
  obtain ⟨hv0, hv1, hv2, hv3, hv4, -⟩ := five_cells HXK8.out
  obtain ⟨KD, HKD⟩ : ∃ KD : Int, Hid (((1 + 3 * fs.length + 4 * dir.length : Nat) : Int) = KD) := ⟨_, rfl⟩
  have hKD : decide (KD < 0) = false := by have := HKD.out; simp; omega
  go_wp2_with fail
  refine (markEngine_own _ _ fs dir room act seq w3.heap.size 1 _ hl hld (by omega) (by omega) (by omega) RF8.out RD8.out).mono ?_
  rintro e w9 ⟨rfl, -, -, b9, x9⟩
  rw [HKD.out]
  have X9 := hide x9
  have HW9 := hide (HW8.out.trans (b9.mono HW3.out.size))
  have B39 := hide b9
  have hs9 : w8.heap.size ≤ w9.heap.size := b9.size
  have H1l := hide (rowAct_lt R3.out)
  have H2l := hide (rowAct_lt R25.out)
  have HFl := hide (rowF_lt RF4.out)
  have HDl := hide (rowSpot_lt RD4.out)
  have HAK9 := hide ((b9.block _ (heap_lt HAK3.out)).trans HAK8.out)
  have R19 := hide (rowAct_keep R18.out (fun x hx => X9.out x (by have := (H1l.out x hx).2; omega) (fun e => by have := (H1l.out x hx).2; have := (HFl.out x e).1; omega) (fun e => by have := (H1l.out x hx).2; have := (HDl.out x e).1; omega)))
  have R29 := hide (rowAct_keep R28.out (fun x hx => X9.out x (by have := (H2l.out x hx).2; omega) (fun e => by have := (H2l.out x hx).1; have := (HFl.out x e).2; omega) (fun e => by have := (H2l.out x hx).1; have := (HDl.out x e).2; omega)))
  clear b9 x9 hv0 hv1 hv2 hv3 hv4
  go_wp2_with fail
  refine (eqActS_same L a5 a1 c5 c1 _ hml (rowAct_rows R29.out) (rowAct_rows R19.out)).mono ?_
  rintro e w10 ⟨rfl, b10⟩
  have HW10 := hide (HW9.out.trans (b10.mono HW9.out.size))
  have R110 := hide (rowAct_below R19.out b10)
  have R210 := hide (rowAct_below R29.out b10)
  have HAK10 := hide ((b10.block _ (heap_lt HAK9.out)).trans HAK9.out)
  have hs10 : w9.heap.size ≤ w10.heap.size := b10.size
  clear b10
  obtain ⟨KM, HKM⟩ : ∃ KM : Int, Hid (((1 + 4 * L.length : Nat) : Int) = KM) := ⟨_, rfl⟩
  have hKM : decide (KM < 0) = false := by have := HKM.out; simp; omega
  have hKK : (!(KM == KM)) = false := by simp
  go_wp2_with fail
  refine (markActS_own (.slice a5 L.length c5) L szX 1 _ (by omega) (by omega) (by omega) R210.out).mono ?_
  rintro e w11 ⟨rfl, r11, g11⟩
  rw [HKM.out]
  have R2A := hide r11
  have G11 := hide g11
  have hs11 : w10.heap.size ≤ w11.heap.size := g11.size
  have HW11 := hide (HW10.out.grown G11.out (by have := HW10.out.size; omega) (fun x hx => by have := (H2l.out x hx).1; have := HW4.out.size; omega))
  have R111 := hide (rowAct_keep R110.out (fun x hx => G11.out.block x (by have := (H1l.out x hx).2; omega) (fun e => by have h1 := (H1l.out x hx).2; have h2 := (H2l.out x e.symm).1; omega)))
  have HAK11 := hide ((G11.out.block _ (heap_lt HAK10.out) (fun e => by have h2 := (H2l.out _ e.symm).1; have := heap_lt HAK4.out; omega)).trans HAK10.out)
  have K2 : Hid (ActsAt w11 a5 (markActDs 1 L.length)) := rowAct_rows R2A.out
  clear r11 g11
  go_wp2_with fail
  refine (heldActS_any a5 c5 L.length 1 _ (by omega) (by omega) (by omega) K2.out).mono ?_
  rintro e w12 ⟨rfl, b12⟩
  rw [HKM.out]
  have HW12 := hide (HW11.out.trans (b12.mono HW11.out.size))
  have R112 := hide (rowAct_below R111.out b12)
  have K3 := hide (actsAt_keep K2.out b12)
  have HAK12 := hide ((b12.block _ (heap_lt HAK11.out)).trans HAK11.out)
  obtain ⟨hy0, hy1, hy2, hy3, hy4, -⟩ := five_cells HAK12.out
  clear b12
  go_wp2_with fail
  refine (toEngine_any fs ao ad cap cd room act seq dir _ hl (filesAt_keep HF.out HW12.out) hld (spotsAt_keep HD.out HW12.out)).mono ?_
  rintro e w13 ⟨⟨a13, d13, rfl, hf13, hd13⟩, b13⟩
  have HW13 := hide (HW12.out.trans (b13.mono HW12.out.size))
  have B13 := hide b13
  have HF13 := hide hf13
  have HD13 := hide hd13
  clear b13 hf13 hd13 hy0 hy1 hy2 hy3 hy4
  go_wp2_with fail
  refine (HIm.out _ _ _ HF13.out HD13.out (sumTab_later HW13.out HT.out)).mono ?_
  rintro e w14 ⟨⟨v3, rfl, r14⟩, b14⟩
  obtain ⟨a14, c14, rfl, -⟩ := rowAct_at r14
  have R14 := hide r14
  have B14 := hide (B13.out.trans (b14.mono B13.out.size))
  clear r14 b14
  go_wp2_with fail
  refine (eqActS_same L a14 a1 c14 c1 _ hml (rowAct_rows R14.out) (rowAct_rows (rowAct_below R112.out B14.out))).mono ?_
  rintro e w15 ⟨rfl, b15⟩
  have B15 := hide (B14.out.trans (b15.mono B14.out.size))
  clear b15
  go_wp2_with fail
  refine (heldActS_any a5 c5 L.length 1 _ (by omega) (by omega) (by omega) (actsAt_keep K3.out B15.out)).mono ?_
  rintro e w16 ⟨rfl, b16⟩
  rw [HKM.out]
  have B16 := hide (B15.out.trans (b16.mono B15.out.size))
  clear b16
  go_wp2
  go_ret
  exact ⟨rfl, HW12.out.trans (B16.out.mono HW12.out.size)⟩
end Go.Proofs.YtmmchemgegmhhaaGreatDoor
