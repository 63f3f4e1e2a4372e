import Derived.Deep.DeepCutAuto
import Derived.Deep.CutBlock
import Derived.OpenShut
import Derived.Test.YtifjneldjjmeaaaGreatDoorLs12
import Derived.Test.YtifjneldjjmeaaaGreatDoorLs0
import Derived.Test.YtifjneldjjmeaaaGreatDoorLs5
set_option maxRecDepth 100000
set_option maxHeartbeats 6400000
namespace Go.Proofs.YtifjneldjjmeaaaGreatDoor
open Go.RowKit
def StO (w0 w wr : World) (g : Nat) (ao : Option Addr) (len cap : Nat) (v : Value) (acc : List ByteArray) : Prop :=
  CurAt w0 wr g ao len cap ∧ w.grownBy wr (some g) ∧ g < w.heap.size ∧ wr.ownsRow w.heap.size 9 1 v acc.length (acc.map Value.string)
theorem stO_call {w0 w wr w' : World} {g : Nat} {ao : Option Addr} {len cap : Nat} {v : Value} {acc : List ByteArray} (h : StO w0 w wr g ao len cap v acc) (hc : CurAt w0 w' g ao len cap) (hg : wr.grownBy w' (some g)) : StO w0 w w' g ao len cap v acc :=
  ⟨hc, h.2.1.trans hg, h.2.2.1, row_keep h.2.2.2 hg h.2.2.1⟩
theorem stO_row {w0 w wr w5 : World} {g : Nat} {ao : Option Addr} {len cap : Nat} {v v' : Value} {acc acc' : List ByteArray} (h : StO w0 w wr g ao len cap v acc) (hb : Below w.heap.size wr w5) (ho : w5.ownsRow w.heap.size 9 1 v' acc'.length (acc'.map Value.string)) : StO w0 w w5 g ao len cap v' acc' :=
  ⟨cur_keep h.1 hb h.2.2.1, grownBy_then h.2.1 hb, h.2.2.1, ho⟩
theorem own_new (w : World) (B n : Nat) (C : Array Value) (zs : List ByteArray) (hC : C = (zs.map Value.string).toArray) (hn : zs.length = n) (hB : B ≤ w.heap.size) (hl : n ≤ 1000) : (w.alloc (.cells C 9)).ownsRow B 9 1 (.slice (some ⟨w.heap.size, 0, none⟩) n n) zs.length (zs.map Value.string) := by
  subst hC hn
  refine ⟨by simp, .inr ⟨w.heap.size, zs.length, _, rfl, hB, heap_alloc_new _ _, Nat.le_refl _, by unfold maxLen; omega, by simp, ?_⟩⟩
  rw [List.take_of_length_le (by simp)]
theorem stO_new {w0 w wr : World} {g : Nat} {ao : Option Addr} {len cap n : Nat} (C : Array Value) (zs : List ByteArray) (hC : C = (zs.map Value.string).toArray) (hn : zs.length = n) (hl : n ≤ 1000) (hc : CurAt w0 wr g ao len cap) (hg : w.grownBy wr (some g)) (hgw : g < w.heap.size) :
    StO w0 w (wr.alloc (.cells C 9)) g ao len cap (.slice (some ⟨wr.heap.size, 0, none⟩) n n) zs := by
  have hb : Below wr.heap.size wr (wr.alloc (.cells C 9)) := (Below.refl _ wr).alloc (Nat.le_refl _) _
  exact ⟨cur_keep hc hb (cur_lt hc), grownBy_then hg (hb.mono hg.size), hgw, own_new wr _ n C zs hC hn hg.size hl⟩
theorem bnd_snoc {acc : List ByteArray} {x : ByteArray} {n : Nat} (h : ∀ z ∈ acc, z.size ≤ n) (hx : x.size ≤ n) : ∀ z ∈ acc ++ [x], z.size ≤ n := by
  intro q hq
  rcases List.mem_append.1 hq with hq | hq
  · exact h q hq
  · obtain rfl : q = x := by simpa using hq
    exact hx
theorem pickNew_any (w0 w : World) (g : Nat) (ao : Option Addr) (len cap n : Nat) (C : Array Value) (zs : List ByteArray) (hC : C = (zs.map Value.string).toArray) (hzs : zs.length = n) (hn0 : 0 < n) (hn : n ≤ 1000) (hz : ∀ z ∈ zs, z.size ≤ 60) (hlen : len ≤ 1048576) (hcode : Code w0 ao len) (hc : CurAt w0 w g ao len cap) :
    Calls Tryz.prog 40 #[.pointer (some ⟨g, 0, none⟩), .slice (some ⟨w.heap.size, 0, none⟩) n n] (w.alloc (.cells C 9)) fun e w' => ∃ z : ByteArray, e = .returned (.string z) ∧ z.size ≤ 60 ∧ CurAt w0 w' g ao len cap ∧ w.grownBy w' (some g) := by
  have hb : Below w.heap.size w (w.alloc (.cells C 9)) := (Below.refl _ w).alloc (Nat.le_refl _) _
  have hg := cur_lt hc
  refine (pickText_any w0 _ g w.heap.size ao len cap n zs hlen hcode (cur_keep hc hb hg) (by omega) hzs hn0 hn (texts_cells zs (T := 9) (by subst hC; exact heap_alloc_new _ _))).mono ?_
  rintro e w1 ⟨z, rfl, hm, c1, g1⟩
  exact ⟨z, rfl, hz z hm, c1, (grownBy_below (some g) hb).trans g1⟩
theorem drawList_any (w : World) (ao : Option Addr) (len cap : Nat) (hlen : len ≤ 1048576) (hcode : Code w ao len) :
    Calls Tryz.prog 18 #[.slice ao len cap] w fun e w' => ∃ (k c : Nat) (L : List ByteArray), e = .returned (.slice (some ⟨k, 0, none⟩) L.length c) ∧ 1 ≤ L.length ∧ L.length ≤ 6 ∧ (∀ z ∈ L, z.size ≤ 60) ∧ w'.ownsRow w.heap.size 9 1 (.slice (some ⟨k, 0, none⟩) L.length c) L.length (L.map Value.string) ∧ Below w.heap.size w w' := by
  have HC := hide hcode
  have HBE := hide (fun W g (n : Int) (hn : n ≤ 4611686018427387904) (h : CurAt w W g ao len cap) => below_any w W g ao len cap n hlen hn hcode h)
  have HPN := hide (fun W g n C zs hC hzs hn0 hn hz (h : CurAt w W g ao len cap) => pickNew_any w W g ao len cap n C zs hC hzs hn0 hn hz hlen hcode h)
  clear hcode
  go_enter Tryz.func18, Tryz.ntmps18
  go_wp2_with fail
  refine (new_any _ ao len cap hlen HC.out).mono ?_
  rintro e w1 ⟨g, rfl, hc1⟩
  have hgl := cur_lt hc1
  have hs1 := hc1.1.size
  have hbe1 := hide hc1.1
  have S0 := hide (stO_new (w0 := w) (w := w1) (wr := w1) #[] [] rfl rfl (by decide) hc1 (World.grownBy.refl _ _) hgl)
  clear hc1 HC
  go_wp2
  go_loopw [4, 5] (fun vo ii wr => ∃ (k kb c : Nat) (acc : List ByteArray), vo = .slice (some ⟨kb, 0, none⟩) acc.length c ∧ ii = .int .i64 (k : Int) ∧ k ≤ 6 ∧ Hid (acc.length = k) ∧ Hid (∀ z ∈ acc, z.size ≤ 60) ∧ Hid (StO w w1 wr g ao len cap vo acc)) (fun _ ii _ => 6 - (intOf ii).toNat)
  case atStart => exact ⟨0, w1.heap.size, 0, [], rfl, rfl, by omega, rfl, (fun z hz => by cases hz), S0.out⟩
  case round =>
    clear S0
    obtain ⟨k, kb, c, acc, rfl, rfl, hk, HK, HZ, HS⟩ := hrel
    go_wp2_with fail
    refine (HBE.out _ g 6 (by omega) HS.out.1).mono ?_
    rintro e w2 ⟨x, rfl, hx, -, c2, g2⟩
    have hx6 : x < 6 := by have := hx (by omega); omega
    have S2 := hide (stO_call HS.out c2 g2)
    clear hx c2 g2 HS
    have hw1 : IntKind.i64.wrap (1 + (x : Int)) = 1 + (x : Int) := by rw [IntKind.wrap_i64]; omega
    by_cases hlt : (k : Int) < 1 + (x : Int)
    · have hlt' : decide ((k : Int) < 1 + (x : Int)) = true := by simp; omega
      go_wp2_with fail
      refine (HPN.out w2 g 6 _ [⟨#[97]⟩, ⟨#[98]⟩, ⟨#[99]⟩, ⟨#[100]⟩, ⟨#[101]⟩, ⟨#[102]⟩] rfl rfl (by omega) (by omega) (by decide) S2.out.1).mono ?_
      rintro e w4 ⟨z, rfl, hz, c4, g4⟩
      have S4 := hide (stO_call S2.out c4 g4)
      clear c4 g4 S2
      have hs4 := S4.out.2.1.size
      have hkl : acc.length ≤ 1048576 := by have := HK.out; omega
      go_wp2_with (at_builtin; refine app_txt _ w1.heap.size rfl _ _ rfl _ acc z rfl (ownsRow_below S4.out.2.2.2 ((Below.refl w4.heap.size w4).alloc (Nat.le_refl _) _)) w4.heap.size rfl (heap_alloc_new w4 _) hkl (by simp; omega) ?_; intro g5 cap5 w5 ho5 hb5 _ _ _)
      have S5 := hide (stO_row S4.out (((Below.refl w1.heap.size w4).alloc hs4 _).trans hb5) ho5)
      clear ho5 hb5 S4
      go_roundw
      case rel => exact ⟨k + 1, g5, cap5, acc ++ [z], by simp, by go_num, by omega, by have := HK.out; show _ = _; simp; omega, bnd_snoc HZ.out hz, S5.out⟩
      case measure => simp [intOf]; omega
    · have hlt' : decide ((k : Int) < 1 + (x : Int)) = false := by simp; omega
      have B2 : Hid (Below w.heap.size w w2) := by
        have := S2.out.1
        exact this.1
      have O2 := hide S2.out.2.2.2
      go_wp2
      go_ret
      exact ⟨kb, c, acc, rfl, by have := HK.out; omega, by have := HK.out; omega, HZ.out, ownsRow_mono O2.out hs1, B2.out⟩
theorem big_any (w : World) (ao : Option Addr) (len cap : Nat) :
    Calls Tryz.prog 7 #[.slice ao len cap] w fun e w' => e = .returned (.bool (decide (1048576 < (len : Int)))) ∧ w' = w := by
  go_enter Tryz.func7, Tryz.ntmps7
  go_wp2
  go_ret
  exact ⟨rfl, rfl⟩
def PushL (w : World) (nm : ByteArray) (I : List ByteArray) (T2 : List EntD) (rep : ByteArray) : Prop :=
  ∀ (W : World) (b0 m c0 : Nat) (a : Option Addr) (c : Nat), m = 2 + I.length → TextsAt W (some ⟨b0, 0, none⟩) ([nm, ⟨#[113]⟩] ++ I) → m ≤ c0 → Below w.heap.size w W → Calls Tryz.prog 19 #[.slice a 0 c, .slice (some ⟨b0, 0, none⟩) m c0] W (OnLQ W T2 rep)
theorem pushL_of {w : World} {nm rep : ByteArray} {I : List ByteArray} {T2 : List EntD} (h : OnL w [] (nm :: qK :: I) T2 rep) : PushL w nm I T2 rep := by
  intro W b0 m c0 a c hm hts hc hB
  subst hm
  have e : 2 + I.length = (nm :: qK :: I).length := by simp; omega
  have h1 := h W (.slice a 0 c) b0 c0 ⟨a, c, rfl, fun j hj => absurd hj (by simp)⟩ hts (by rw [← e]; exact hc) hB
  rw [← e] at h1
  exact h1
theorem drop_at {α : Type} (L : List α) (i : Nat) (h : i < L.length) : L.drop i = L[i] :: L.drop (i + 1) := List.drop_eq_getElem_cons h
theorem take_at {α : Type} (L : List α) (m : Nat) (h : m < L.length) : L.take (m + 1) = L.take m ++ [L[m]] := (List.take_append_getElem h).symm
theorem sub_small {L M : List ByteArray} {n : Nat} (h : ∀ s ∈ L, s.size ≤ n) (hs : ∀ s ∈ M, s ∈ L) : ∀ s ∈ M, s.size ≤ n := fun s hm => h s (hs s hm)
theorem lists_facts (w : World) (x : Value) (hv : RVars w) (hx : OthV w x) (I : List ByteArray) (h0 : 1 ≤ I.length) (h6 : I.length ≤ 6) (hz : ∀ s ∈ I, s.size ≤ 60) :
    ∃ (X Y Z : Nat → List EntD) (N : ByteArray) (R : Nat → ByteArray),
      (PushL w ⟨#[76, 80, 85, 83, 72]⟩ I (X 0) N ∧ PushL w ⟨#[82, 80, 85, 83, 72]⟩ I (Z 0) N ∧ X 0 = Y 0) ∧
      OnL w (X 0) [⟨#[76, 76, 69, 78]⟩, ⟨#[113]⟩] (X 0) N ∧
      (∀ i, i < I.length → OnL w (X i) [⟨#[76, 80, 79, 80]⟩, ⟨#[113]⟩] (X (i + 1)) (R (I.length - 1 - i)) ∧ OnL w (Y i) [⟨#[82, 80, 79, 80]⟩, ⟨#[113]⟩] (Y (i + 1)) (R i) ∧ OnL w (Z i) [⟨#[76, 80, 79, 80]⟩, ⟨#[113]⟩] (Z (i + 1)) (R i)) ∧
      ((X I.length).length = 0 ∧ (Y I.length).length = 0 ∧ (Z I.length).length = 0 ∧ OnL w (X I.length) [⟨#[76, 80, 79, 80]⟩, ⟨#[113]⟩] [] ⟨#[36, 45, 49, 13, 10]⟩) ∧
      (∀ W, Calls Tryz.prog 12 #[.int .i64 I.length] W fun e w' => e = .returned (.string N) ∧ Below W.heap.size W w') ∧
      (∀ i (h : i < I.length) W, Calls Tryz.prog 11 #[.string I[i]] W fun e w' => e = .returned (.string (R i)) ∧ Below W.heap.size W w') := by
  have hrl : I.reverse.length = I.length := List.length_reverse
  have hrz : ∀ s ∈ I.reverse, s.size ≤ 60 := fun s hs => hz s (by simpa using hs)
  have hne : I ≠ [] := fun e => by subst e; simp at h0
  have hrne : I.reverse ≠ [] := fun e => by rw [e] at hrl; simp at hrl; omega
  refine ⟨fun i => tblL (I.reverse.drop i), fun i => tblL (I.reverse.take (I.length - i)), fun i => tblL (I.drop i), hdB ⟨#[58]⟩ I.length, fun i => bulkB (I.getD i ⟨#[]⟩), ⟨?_, ?_, ?_⟩, ?_, fun i hi => ⟨?_, ?_, ?_⟩, ⟨?_, ?_, ?_, ?_⟩, fun W => specNumber_any _ W (by omega) (by omega), fun i hi W => ?_⟩
  · exact pushL_of (on_LPUSH w x I hv hx (by omega) (by omega) hz)
  · exact pushL_of (on_RPUSH w x I hv hx (by omega) (by omega) hz)
  · show tblL (I.reverse.drop 0) = tblL (I.reverse.take (I.length - 0))
    rw [List.drop_zero, Nat.sub_zero, ← hrl, List.take_length]
  · have h := on_LLEN w x I.reverse hv hx hrne (by omega) hrz
    rw [hrl] at h
    exact h
  · have h := on_LPOP w x (I.reverse[i]'(by omega)) (I.reverse.drop (i + 1)) hv hx (by rw [← drop_at I.reverse i (by omega), List.length_drop]; omega) (by rw [← drop_at I.reverse i (by omega)]; exact sub_small hrz (fun s hs => List.mem_of_mem_drop hs))
    rw [← drop_at I.reverse i (by omega)] at h
    have e : bulkB (I.getD (I.length - 1 - i) ⟨#[]⟩) = bulkB (I.reverse[i]'(by omega)) := by
      rw [List.getElem_reverse, List.getD_eq_getElem?_getD, List.getElem?_eq_getElem (by omega)]
      rfl
    show OnL w (tblL (I.reverse.drop i)) _ (tblL (I.reverse.drop (i + 1))) (bulkB (I.getD (I.length - 1 - i) ⟨#[]⟩))
    rw [e]
    exact h
  · obtain ⟨m, hm⟩ : ∃ m, m = I.length - (i + 1) := ⟨_, rfl⟩
    have hm1 : I.length - i = m + 1 := by omega
    have h := on_RPOP w x (I.reverse[m]'(by omega)) (I.reverse.take m) hv hx (by rw [← take_at I.reverse m (by omega), List.length_take]; omega) (by rw [← take_at I.reverse m (by omega)]; exact sub_small hrz (fun s hs => List.mem_of_mem_take hs))
    rw [← take_at I.reverse m (by omega)] at h
    have e : bulkB (I.getD i ⟨#[]⟩) = bulkB (I.reverse[m]'(by omega)) := by
      rw [List.getElem_reverse, List.getD_eq_getElem?_getD, List.getElem?_eq_getElem hi]
      congr 1
      show I[i] = _
      congr 1
      omega
    show OnL w (tblL (I.reverse.take (I.length - i))) _ (tblL (I.reverse.take (I.length - (i + 1)))) (bulkB (I.getD i ⟨#[]⟩))
    rw [e, hm1, ← hm]
    exact h
  · have h := on_LPOP w x I[i] (I.drop (i + 1)) hv hx (by rw [← drop_at I i hi, List.length_drop]; omega) (by rw [← drop_at I i hi]; exact sub_small hz (fun s hs => List.mem_of_mem_drop hs))
    rw [← drop_at I i hi] at h
    have e : bulkB (I.getD i ⟨#[]⟩) = bulkB I[i] := by
      rw [List.getD_eq_getElem?_getD, List.getElem?_eq_getElem hi]
      rfl
    show OnL w (tblL (I.drop i)) _ (tblL (I.drop (i + 1))) (bulkB (I.getD i ⟨#[]⟩))
    rw [e]
    exact h
  · show (tblL (I.reverse.drop I.length)).length = 0
    rw [← hrl, List.drop_length]
    rfl
  · show (tblL (I.reverse.take (I.length - I.length))).length = 0
    rw [Nat.sub_self, List.take_zero]
    rfl
  · show (tblL (I.drop I.length)).length = 0
    rw [List.drop_length]
    rfl
  · show OnL w (tblL (I.reverse.drop I.length)) _ _ _
    rw [← hrl, List.drop_length]
    exact on_LPOPnone w x hv hx
  · have e : bulkB (I.getD i ⟨#[]⟩) = bulkB I[i] := by
      rw [List.getD_eq_getElem?_getD, List.getElem?_eq_getElem hi]
      rfl
    show Calls _ _ _ W fun e w' => e = .returned (.string (bulkB (I.getD i ⟨#[]⟩))) ∧ _
    rw [e]
    exact specBulk_any I[i] W (by have := hz _ (List.getElem_mem hi); omega)
theorem app_items {ops : Array Oper} {rest : List Oper} {o : Oper} {a : Act} {Q : Exit → Act → World → Prop} (W : World) (B : Nat) (hgd : o.guard = none) (s y : Operand)
    (ho : o.op = .call { callee := .builtin .append, args := #[s, y], argTypes := #[25, 25] }) (kb : Nat) (x0 x1 : ByteArray) (rs : List ByteArray) (hs : a.eval s = .slice (some ⟨kb, 0, none⟩) 2 2)
    (hblk : W.heap[kb]? = some (.cells #[.string x0, .string x1] 9 (0, 0))) (hBk : B ≤ kb) (k m c : Nat) (hx : a.eval y = .slice (some ⟨k, 0, none⟩) m c) (hm : m = rs.length) (h0 : 0 < rs.length)
    (hcell : ∀ j u, (rs.map Value.string)[j]? = some u → W.cell? ((⟨k, 0, none⟩ : Addr).add j) = some u) (hlen : rs.length ≤ 1000) (hbase : B ≤ W.heap.size)
    (h : ∀ g cap w', TextsAt w' (some ⟨g, 0, none⟩) ([x0, x1] ++ rs) → 2 + m ≤ cap → Below B W w' → wpList Tryz.prog ops Q rest (a.put o.dst (.slice (some ⟨g, 0, none⟩) (2 + m) cap)) w') :
    wpList Tryz.prog ops Q (o :: rest) a W := by
  obtain ⟨i0, hi, hz0, hz1, hz2⟩ := info_parts Tryz.infoText
  subst hm
  have hown : W.ownsRow B 9 1 (.slice (some ⟨kb, 0, none⟩) 2 2) 2 ([x0, x1].map Value.string) := ⟨by simp, .inr ⟨kb, 2, _, rfl, hBk, hblk, Nat.le_refl _, by unfold maxLen; omega, by simp, by simp⟩⟩
  refine wpList_append_lies W hgd s y 25 ho B 9 i0 (.string ⟨#[]⟩) 1 16 Tryz.underlying25 hi hz0 hz1 hz2 rfl (by decide) _ 2 ([x0, x1].map Value.string) hs hown ⟨k, 0, none⟩ rs.length c (rs.map Value.string) hx (by rw [List.length_map]; omega)
    hcell (texts_one _) h0 (by unfold maxLen; omega) (by omega) hbase W.heap.size rfl ?_
  intro g cap w' hown' hgrow hg hgl
  have hown2 : w'.ownsRow B 9 1 (.slice (some ⟨g, 0, none⟩) (2 + rs.length) cap) ([x0, x1] ++ rs).length (([x0, x1] ++ rs).map Value.string) := by
    rw [List.map_append, List.length_append]
    exact hown'
  have hlt := hown.lt
  refine h g cap w' (rowText_rows (rowText_own hown2)) ?_ ((Below.refl B W).grown hgrow hbase (fun k hk => (hlt k hk).1))
  rcases hown2.2 with ⟨e, _⟩ | ⟨g', cap', cur, e, _, _, hle, _⟩
  · simp at e
  · simp only [Value.slice.injEq] at e
    rw [e.2.2, Nat.add_comm]
    simpa using hle
def StL (w w1 wr : World) (X Y Z : Nat → List EntD) (vx vy vz : Value) (k : Nat) : Prop := TabL wr vx (X k) ∧ TabL wr vy (Y k) ∧ TabL wr vz (Z k) ∧ Below w.heap.size w wr ∧ Below w1.heap.size w1 wr
theorem item_cell {w W : World} {kd : Nat} {I : List ByteArray} (h : TextsAt w (some ⟨kd, 0, none⟩) I) (hW : Below w.heap.size w W) {j : Nat} (hj : j < I.length) : W.cell? ⟨kd, j, none⟩ = some (.string I[j]) := by
  obtain ⟨b, off, e, -, hc⟩ := textsAt_keep h hW j hj
  cases e
  rw [Nat.zero_add] at hc
  exact hc
theorem lists_walk (w : World) (x : Value) (ao : Option Addr) (len cap : Nat) (hv : RVars w) (hx : OthV w x) (hcode : len ≤ 1048576 → Code w ao len) :
    Calls Tryz.prog 5 #[.slice ao len cap] w fun e w' => e = .returned (.bool true) ∧ Below w.heap.size w w' := by
  by_cases hlen : len ≤ 1048576
  case neg =>
    have hbig : decide (1048576 < (len : Int)) = true := by simp; omega
    clear hv hx
    go_enter Tryz.func5, Tryz.ntmps5
    go_wp2_with fail
    refine (big_any _ ao len cap).mono ?_
    rintro e w1 ⟨rfl, rfl⟩
    rw [hbig]
    go_wp2
    go_ret
    exact ⟨rfl, Below.refl _ _⟩
  have hbig : decide (1048576 < (len : Int)) = false := by simp; omega
  have HDL := hide (drawList_any w ao len cap hlen (hcode hlen))
  have HFA := hide (fun I h0 h6 hz => lists_facts w x hv hx I h0 h6 hz)
  clear hcode hv hx
  go_enter Tryz.func5, Tryz.ntmps5
  go_wp2_with fail
  refine (big_any _ ao len cap).mono ?_
  rintro e w1 ⟨rfl, e1⟩
  obtain rfl := e1.symm
  rw [hbig]
  clear hbig
  go_wp2_with fail
  refine HDL.out.mono ?_
  rintro e w1 ⟨kd, cd, I, rfl, hi1, hi6, hiz, hown, b1⟩
  obtain ⟨X, Y, Z, N, R, ⟨pA, pB, eXY⟩, oL, oR, ⟨lx, ly, lz, oN⟩, sN, sB⟩ := HFA.out I hi1 hi6 hiz
  have B1 := hide b1
  have HIT := hide (rowText_rows (rowText_own hown))
  have PA := hide pA
  have PB := hide pB
  have EXY := hide eXY
  have OL := hide oL
  have OR := hide oR
  have LX := hide lx
  have LY := hide ly
  have LZ := hide lz
  have ON := hide oN
  have SN := hide sN
  have SB := hide sB
  have hs1 := b1.size
  have qN : (N.toList == N.toList) = true := beq_self_eq_true _
  clear b1 pA pB eXY oL oR lx ly lz oN sN sB HFA HDL hown hiz
  go_upto_region 4 with fail
  have BB1 : Hid (Below w1.heap.size w1 ((w1.alloc (.cells #[] 40)).alloc (.cells #[.string ⟨#[76, 80, 85, 83, 72]⟩, .string ⟨#[113]⟩] 9))) := ((Below.refl _ w1).alloc (Nat.le_refl _) _).alloc (by simp) _
  have PB1 : Hid (((w1.alloc (.cells #[] 40)).alloc (.cells #[.string ⟨#[76, 80, 85, 83, 72]⟩, .string ⟨#[113]⟩] 9)).heap[w1.heap.size + 1]? = some (.cells #[.string ⟨#[76, 80, 85, 83, 72]⟩, .string ⟨#[113]⟩] 9 (0, 0))) := by
    have h := heap_alloc_new (w1.alloc (.cells #[] 40)) (.cells #[.string ⟨#[76, 80, 85, 83, 72]⟩, .string ⟨#[113]⟩] 9)
    rw [show (w1.alloc (.cells #[] 40)).heap.size = w1.heap.size + 1 from by simp] at h
    exact h
  have TB1 := hide (textsAt_cells (textsAt_keep HIT.out (BB1.out)))
  have LB1 := BB1.out.size
  go_wp2_with (at_builtin; go_loud (refine app_items _ w1.heap.size rfl _ _ rfl (w1.heap.size + 1) _ _ I rfl PB1.out (by omega) kd I.length cd rfl rfl (by omega) TB1.out (by omega) LB1 ?_; intro g2 cap2 w2 ht2 hc2 hb2))
  have H2 := hide (BB1.out.trans hb2)
  have HT2 := hide ht2
  have HPA := hide (PA.out w2 g2 (2 + I.length) cap2 (some ⟨w1.heap.size, 0, none⟩) 0 rfl HT2.out hc2 (B1.out.trans (H2.out.mono hs1)))
  clear hb2 ht2 BB1 PB1 TB1 LB1
  refine HPA.out.mono ?_
  rintro e w3 ⟨⟨a3, c3, rfl, t3⟩, b3⟩
  have T3 := hide t3
  have H3 := hide (H2.out.trans (b3.mono H2.out.size))
  have hs3 := H3.out.size
  clear b3 t3 HT2 H2 HPA PA
  go_upto_region 5 with fail
  have BB3 : Hid (Below w3.heap.size w3 ((w3.alloc (.cells #[] 40)).alloc (.cells #[.string ⟨#[82, 80, 85, 83, 72]⟩, .string ⟨#[113]⟩] 9))) := ((Below.refl _ w3).alloc (Nat.le_refl _) _).alloc (by simp) _
  have PB3 : Hid (((w3.alloc (.cells #[] 40)).alloc (.cells #[.string ⟨#[82, 80, 85, 83, 72]⟩, .string ⟨#[113]⟩] 9)).heap[w3.heap.size + 1]? = some (.cells #[.string ⟨#[82, 80, 85, 83, 72]⟩, .string ⟨#[113]⟩] 9 (0, 0))) := by
    have h := heap_alloc_new (w3.alloc (.cells #[] 40)) (.cells #[.string ⟨#[82, 80, 85, 83, 72]⟩, .string ⟨#[113]⟩] 9)
    rw [show (w3.alloc (.cells #[] 40)).heap.size = w3.heap.size + 1 from by simp] at h
    exact h
  have TB3 := hide (textsAt_cells (textsAt_keep HIT.out (H3.out.trans (BB3.out.mono hs3))))
  have LB3 := BB3.out.size
  go_wp2_with (at_builtin; go_loud (refine app_items _ w3.heap.size rfl _ _ rfl (w3.heap.size + 1) _ _ I rfl PB3.out (by omega) kd I.length cd rfl rfl (by omega) TB3.out (by omega) LB3 ?_; intro g4 cap4 w4 ht4 hc4 hb4))
  have H34 := hide (BB3.out.trans hb4)
  have H4 := hide (H3.out.trans (H34.out.mono hs3))
  have HT4 := hide ht4
  have HPB := hide (PB.out w4 g4 (2 + I.length) cap4 (some ⟨w3.heap.size, 0, none⟩) 0 rfl HT4.out hc4 (B1.out.trans (H4.out.mono hs1)))
  have T34 := hide (tabL_keep T3.out H34.out)
  clear hb4 ht4 BB3 PB3 TB3 LB3 H34 T3
  refine HPB.out.mono ?_
  rintro e w5 ⟨⟨a5, c5, rfl, t5⟩, b5⟩
  have T5 := hide t5
  have T35 := hide (tabL_keep T34.out b5)
  have H5 := hide (H4.out.trans (b5.mono H4.out.size))
  clear b5 t5 HT4 H4 HPB PB T34
  go_upto_region 6 with fail
  go_wp2_with fail
  refine (SN.out w5).mono ?_
  rintro e w6 ⟨rfl, b6⟩
  have T36 := hide (tabL_keep T35.out b6)
  have T56 := hide (tabL_keep T5.out b6)
  have H6 := hide (H5.out.trans (b6.mono H5.out.size))
  clear b6 T35 T5 H5 SN
  go_upto_region 8 with fail
  have BW7 : Hid (Below w6.heap.size w6 (w6.alloc (.cells #[.string ⟨#[76, 76, 69, 78]⟩, .string ⟨#[113]⟩] 9))) := (Below.refl w6.heap.size w6).alloc (Nat.le_refl _) _
  have HC7 := hide (OL.out (w6.alloc (.cells #[.string ⟨#[76, 76, 69, 78]⟩, .string ⟨#[113]⟩] 9)) _ w6.heap.size 2 (tabL_keep T36.out BW7.out) (textsAt_lit w6 [⟨#[76, 76, 69, 78]⟩, ⟨#[113]⟩]) (Nat.le_refl _) (B1.out.trans ((H6.out.trans (BW7.out.mono H6.out.size)).mono hs1)))
  go_wp2_with fail
  refine HC7.out.mono ?_
  rintro e w7 ⟨⟨a7, c7, rfl, t7⟩, b7⟩
  have bb7 := BW7.out.trans (b7.mono BW7.out.size)
  have H7 := hide (H6.out.trans (bb7.mono H6.out.size))
  have T7 := hide t7
  have T36_7 := hide (tabL_keep T36.out bb7)
  have T56_7 := hide (tabL_keep T56.out bb7)
  clear b7 bb7 t7 BW7 HC7 T36 T56 H6
  have T37 := hide T36_7.out
  have T57 := hide T56_7.out
  have T37y : Hid (TabL w7 (.slice a3 (X 0).length c3) (Y 0)) := by rw [← EXY.out]; exact T37.out
  clear T36_7 T56_7 T7 OL EXY
  generalize Value.slice a3 (X 0).length c3 = va at T37 T37y ⊢
  generalize Value.slice a5 (Z 0).length c5 = vb at T57 ⊢
  go_wp2
  go_loopg [13, 14, 15, 16] I.length (fun gg vx vy vz ii wr => ∃ (k : Nat) (px py pz : Value), k + gg = I.length ∧ px = vx ∧ py = vy ∧ pz = vz ∧ ii = .int .i64 (k : Int) ∧ k ≤ I.length ∧ Hid (StL w w1 wr X Y Z px py pz k))
  case atStart => exact ⟨0, va, va, vb, by omega, rfl, rfl, rfl, rfl, by omega, T37.out, T37y.out, T57.out, B1.out.trans (H7.out.mono hs1), H7.out⟩
  case round =>
    clear T37 T37y T57 H7
    obtain ⟨k, px, py, pz, hkg, rfl, rfl, rfl, rfl, hk, HS⟩ := hrel
    by_cases hlt : k < I.length
    · have hlt' : decide ((k : Int) < (I.length : Int)) = true := by simp; omega
      obtain ⟨tx, ty, tz, -, hw1⟩ := HS.out
      obtain ⟨rX, rY, rZ⟩ := OR.out k hlt
      have TX := hide tx
      have TY := hide ty
      have TZ := hide tz
      have HW := hide hw1
      obtain ⟨jj, HJ⟩ : ∃ jj, Hid (I.length - 1 - k = jj) := ⟨_, hide rfl⟩
      have hjj : jj < I.length := by have := HJ.out; omega
      rw [HJ.out] at rX
      have S1 := hide (SB.out jj hjj)
      have S2 := hide (SB.out k hlt)
      have C1 := hide (fun W (h : Below w1.heap.size w1 W) => item_cell HIT.out h hjj)
      have C2 := hide (fun W (h : Below w1.heap.size w1 W) => item_cell HIT.out h hlt)
      generalize R jj = r1 at rX S1
      generalize R k = r2 at rY rZ S2
      generalize I[jj] = y1 at S1 C1
      generalize I[k] = y2 at S2 C2
      have RX := hide rX
      have RY := hide rY
      have RZ := hide rZ
      have q1 : (r1.toList == r1.toList) = true := beq_self_eq_true _
      have q2 : (r2.toList == r2.toList) = true := beq_self_eq_true _
      have htn : ((I.length : Int) - 1 - (k : Int)).toNat = jj := by have := HJ.out; omega
      have hj0 : (0 : Int) ≤ (I.length : Int) - 1 - (k : Int) := by omega
      have hj1 : (I.length : Int) - 1 - (k : Int) < (I.length : Int) := by omega
      have hk0 : (0 : Int) ≤ (k : Int) := by omega
      have hk1 : (k : Int) < (I.length : Int) := by omega
      have hwr1 : IntKind.i64.wrap ((I.length : Int) - 1) = (I.length : Int) - 1 := by rw [IntKind.wrap_i64]; omega
      have hwr2 : IntKind.i64.wrap ((I.length : Int) - 1 - (k : Int)) = (I.length : Int) - 1 - (k : Int) := by rw [IntKind.wrap_i64]; omega
      clear tx ty tz hw1 rX rY rZ HS
      have BW17 : Hid (Below wr.heap.size wr (wr.alloc (.cells #[.string ⟨#[76, 80, 79, 80]⟩, .string ⟨#[113]⟩] 9))) := (Below.refl wr.heap.size wr).alloc (Nat.le_refl _) _
      have HC17 := hide (RX.out (wr.alloc (.cells #[.string ⟨#[76, 80, 79, 80]⟩, .string ⟨#[113]⟩] 9)) px wr.heap.size 2 (tabL_keep TX.out BW17.out) (textsAt_lit wr [⟨#[76, 80, 79, 80]⟩, ⟨#[113]⟩]) (Nat.le_refl _) (B1.out.trans ((HW.out.trans (BW17.out.mono HW.out.size)).mono hs1)))
      go_wp2_with fail
      refine HC17.out.mono ?_
      rintro e w17 ⟨⟨a17, c17, rfl, t17⟩, b17⟩
      have bb17 := BW17.out.trans (b17.mono BW17.out.size)
      have H17 := hide (HW.out.trans (bb17.mono HW.out.size))
      have T17 := hide t17
      have TY_17 := hide (tabL_keep TY.out bb17)
      have TZ_17 := hide (tabL_keep TZ.out bb17)
      clear b17 bb17 t17 BW17 HC17 TY TZ HW
      have BW18 : Hid (Below w17.heap.size w17 (w17.alloc (.cells #[.string ⟨#[82, 80, 79, 80]⟩, .string ⟨#[113]⟩] 9))) := (Below.refl w17.heap.size w17).alloc (Nat.le_refl _) _
      have HC18 := hide (RY.out (w17.alloc (.cells #[.string ⟨#[82, 80, 79, 80]⟩, .string ⟨#[113]⟩] 9)) py w17.heap.size 2 (tabL_keep TY_17.out BW18.out) (textsAt_lit w17 [⟨#[82, 80, 79, 80]⟩, ⟨#[113]⟩]) (Nat.le_refl _) (B1.out.trans ((H17.out.trans (BW18.out.mono H17.out.size)).mono hs1)))
      go_wp2_with fail
      refine HC18.out.mono ?_
      rintro e w18 ⟨⟨a18, c18, rfl, t18⟩, b18⟩
      have bb18 := BW18.out.trans (b18.mono BW18.out.size)
      have H18 := hide (H17.out.trans (bb18.mono H17.out.size))
      have T18 := hide t18
      have TZ_17_18 := hide (tabL_keep TZ_17.out bb18)
      have T17_18 := hide (tabL_keep T17.out bb18)
      clear b18 bb18 t18 BW18 HC18 TZ_17 T17 H17
      have BW19 : Hid (Below w18.heap.size w18 (w18.alloc (.cells #[.string ⟨#[76, 80, 79, 80]⟩, .string ⟨#[113]⟩] 9))) := (Below.refl w18.heap.size w18).alloc (Nat.le_refl _) _
      have HC19 := hide (RZ.out (w18.alloc (.cells #[.string ⟨#[76, 80, 79, 80]⟩, .string ⟨#[113]⟩] 9)) pz w18.heap.size 2 (tabL_keep TZ_17_18.out BW19.out) (textsAt_lit w18 [⟨#[76, 80, 79, 80]⟩, ⟨#[113]⟩]) (Nat.le_refl _) (B1.out.trans ((H18.out.trans (BW19.out.mono H18.out.size)).mono hs1)))
      go_wp2_with fail
      refine HC19.out.mono ?_
      rintro e w19 ⟨⟨a19, c19, rfl, t19⟩, b19⟩
      have bb19 := BW19.out.trans (b19.mono BW19.out.size)
      have H19 := hide (H18.out.trans (bb19.mono H18.out.size))
      have T19 := hide t19
      have T17_18_19 := hide (tabL_keep T17_18.out bb19)
      have T18_19 := hide (tabL_keep T18.out bb19)
      clear b19 bb19 t19 BW19 HC19 T17_18 T18 H18
      generalize Value.slice a17 (X (k + 1)).length c17 = vx2 at T17_18_19 ⊢
      generalize Value.slice a18 (Y (k + 1)).length c18 = vy2 at T18_19 ⊢
      generalize Value.slice a19 (Z (k + 1)).length c19 = vz2 at T19 ⊢
      have c1 := C1.out _ H19.out
      clear RX RY RZ TX TY_17 TZ_17_18
      go_wp2_with fail
      refine (S1.out _).mono ?_
      rintro e w20 ⟨rfl, b20⟩
      have H20 := hide (H19.out.trans (b20.mono H19.out.size))
      have U17 := hide (tabL_keep T17_18_19.out b20)
      have U18 := hide (tabL_keep T18_19.out b20)
      have U19 := hide (tabL_keep T19.out b20)
      clear b20 T17_18_19 T18_19 T19 H19 c1
      have c2 := C2.out _ H20.out
      go_wp2_with fail
      refine (S2.out _).mono ?_
      rintro e w21 ⟨rfl, b21⟩
      have H21 := hide (H20.out.trans (b21.mono H20.out.size))
      have V17 := hide (tabL_keep U17.out b21)
      have V18 := hide (tabL_keep U18.out b21)
      have V19 := hide (tabL_keep U19.out b21)
      clear b21 U17 U18 U19 H20 c2
      have c3 := C2.out _ H21.out
      go_wp2_with fail
      refine (S2.out _).mono ?_
      rintro e w22 ⟨rfl, b22⟩
      have H22 := hide (H21.out.trans (b22.mono H21.out.size))
      have SF : Hid (StL w w1 w22 X Y Z vx2 vy2 vz2 (k + 1)) := ⟨tabL_keep V17.out b22, tabL_keep V18.out b22, tabL_keep V19.out b22, B1.out.trans (H22.out.mono hs1), H22.out⟩
      clear b22 V17 V18 V19 H21 c3
      go_wp2
      go_roundg (gk - 1)
      case rel => exact ⟨k + 1, vx2, vy2, vz2, by omega, rfl, rfl, rfl, by go_num, by omega, SF.out⟩
      case measure => omega
    · have hlt' : decide ((k : Int) < (I.length : Int)) = false := by simp; omega
      obtain rfl : k = I.length := by omega
      obtain ⟨⟨ax, cx, ex, ex2⟩, ⟨ay, cy, ey, -⟩, ⟨az, cz, ez, -⟩, -, hw1⟩ := HS.out
      rw [LX.out] at ex
      rw [LY.out] at ey
      rw [LZ.out] at ez
      subst ex ey ez
      have TX : Hid (TabL wr (.slice ax 0 cx) (X I.length)) := ⟨ax, cx, by rw [LX.out], ex2⟩
      have HW := hide hw1
      clear HS hw1 ex2 OR SB LX LY LZ
      have BW25 : Hid (Below wr.heap.size wr (wr.alloc (.cells #[.string ⟨#[76, 80, 79, 80]⟩, .string ⟨#[113]⟩] 9))) := (Below.refl wr.heap.size wr).alloc (Nat.le_refl _) _
      have HC25 := hide (ON.out (wr.alloc (.cells #[.string ⟨#[76, 80, 79, 80]⟩, .string ⟨#[113]⟩] 9)) _ wr.heap.size 2 (tabL_keep TX.out BW25.out) (textsAt_lit wr [⟨#[76, 80, 79, 80]⟩, ⟨#[113]⟩]) (Nat.le_refl _) (B1.out.trans ((HW.out.trans (BW25.out.mono HW.out.size)).mono hs1)))
      go_wp2_with fail
      refine HC25.out.mono ?_
      rintro e w25 ⟨⟨a25, c25, rfl, t25⟩, b25⟩
      have bb25 := BW25.out.trans (b25.mono BW25.out.size)
      have H25 := hide (HW.out.trans (bb25.mono HW.out.size))
      have T25 := hide t25
      clear b25 bb25 t25 BW25 HC25  HW
      have B25 := hide (B1.out.trans (H25.out.mono hs1))
      clear H25 TX
      go_wp2
      go_ret
      exact ⟨rfl, B25.out⟩
end Go.Proofs.YtifjneldjjmeaaaGreatDoor
namespace Go.Proofs.YtifjneldjjmeaaaGreatDoor
open Go.RowKit Go.ChangeShapes
theorem code_of {w : World} {x : Addr} {len : Nat} {zs : List Int} (hl : len ≤ zs.length) (hcell : ∀ i, i < zs.length → w.cell? (x.add i) = some (.int .u8 (zs.getD i 0))) (hwz : ∀ n ∈ zs, (Lit.int .u8 n).wf = true) : Code w (some x) len := by
  intro j hj
  have hjl : j < zs.length := by omega
  have hc := hcell j hjl
  obtain ⟨b, off, spot⟩ := x
  have hspot : spot = none := by
    have h0 := hcell 0 (by omega)
    simpa [Addr.add] using World.cell?_spot h0
  subst hspot
  have hz : zs.getD j 0 = zs[j] := by simp [List.getD, hjl]
  have hb := bounds_u8 (hwz zs[j] (List.getElem_mem hjl))
  have ha : ((⟨b, off, none⟩ : Addr).add j) = ⟨b, off + j, none⟩ := by cases j <;> simp [Addr.add]
  rw [ha, hz] at hc
  obtain ⟨z, hzz⟩ := Int.eq_ofNat_of_zero_le hb.1
  rw [hzz] at hc
  refine ⟨b, off, z, rfl, ?_, hc, by omega⟩
  rcases Nat.lt_or_ge b w.heap.size with h | h
  · exact h
  · unfold World.cell? at hc
    rw [show w.heap[(⟨b, off + j, none⟩ : Addr).block]? = none from Array.getElem?_eq_none h] at hc
    cases hc
end Go.Proofs.YtifjneldjjmeaaaGreatDoor
