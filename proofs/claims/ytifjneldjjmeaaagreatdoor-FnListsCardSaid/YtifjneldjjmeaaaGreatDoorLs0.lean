import Derived.WalkKit
import Derived.WalkSpells
import Derived.WalkLawsBesides
import Derived.Outline
import Derived.Laws.IdiomStrings
import Derived.Deep.AppendLies
import Derived.Deep.RegionHeld3
import Derived.BigQuiet
import Derived.WalkSmall
import Derived.Test.YtifjneldjjmeaaaGreatDoorChecked
import Derived.Laws.MakeOwn
import Derived.Lib.SmallJoins
import Derived.OpenShut
import Derived.Maps.AppendAt
set_option maxRecDepth 100000
set_option maxHeartbeats 1000000
namespace Go.Proofs.YtifjneldjjmeaaaGreatDoor
open Go.RowKit
theorem hide {p : Prop} (h : p) : Hid p := h
def bv (b : UInt8) : Value := .int .u8 (b.toNat : Int)
theorem bv_one (l : List UInt8) : ∀ u ∈ l.map bv, u.oneCell' = true := by
  intro u hu
  obtain ⟨b, _, rfl⟩ := List.mem_map.1 hu
  rfl
theorem cells_new (w : World) (C : Array Value) (t : TypeId) : ∀ j u, C.toList[j]? = some u → (w.alloc (.cells C t)).cell? ((⟨w.heap.size, 0, none⟩ : Addr).add j) = some u := by
  intro j u h
  simp only [Array.getElem?_toList] at h
  have e : ((⟨w.heap.size, 0, none⟩ : Addr).add j) = ⟨w.heap.size, j, none⟩ := by cases j <;> simp [Addr.add]
  rw [e]
  exact (World.cell?_alloc_mark w C t (0, 0) j).trans h
theorem grownBy_trans {a b c : World} {r : Option Nat} (h : a.grownBy b r) (k : b.grownBy c r) : a.grownBy c r :=
  ⟨k.os.trans h.os, k.tape.trans h.tape, k.output.trans h.output, Nat.le_trans h.size k.size, fun i hi hr => (k.block i (Nat.lt_of_lt_of_le hi h.size) hr).trans (h.block i hi hr)⟩
theorem grownBy_below {a b : World} (r : Option Nat) (h : Below a.heap.size a b) : a.grownBy b r := ⟨h.os, h.tape, h.output, h.size, fun k hk _ => h.block k hk⟩
theorem grownBy_store {a b : World} {g : Nat} (h : a.grownBy b (some g)) (j : Nat) (u : Value) : a.grownBy (b.setCell ⟨g, j, none⟩ u) (some g) :=
  ⟨h.os, h.tape, h.output, by have := h.size; simpa [World.setCell] using this, fun k hk hne => (Below.heap_setCell _ _ _ _ (by intro e; exact hne (by rw [e]))).trans (h.block k hk hne)⟩
theorem ownsRow_below {w w' : World} {B : Nat} {e : TypeId} {size : Nat} {v : Value} {n : Nat} {xs : List Value} (h : w.ownsRow B e size v n xs) (hb : Below w.heap.size w w') : w'.ownsRow B e size v n xs :=
  h.kept (grownBy_below none hb) (by cases hv : v.ownBlock with | none => exact .inl rfl | some k => exact .inr (by simp))
theorem ownsRow_mono {w : World} {B B' : Nat} {e : TypeId} {size : Nat} {v : Value} {n : Nat} {xs : List Value} (h : w.ownsRow B e size v n xs) (hB : B' ≤ B) : w.ownsRow B' e size v n xs := by
  refine ⟨h.1, ?_⟩
  rcases h.2 with h | ⟨g, cap, cur, hv, hb, r⟩
  · exact .inl h
  · exact .inr ⟨g, cap, cur, hv, by omega, r⟩
theorem drewN_below (w : World) (q : Nat) : Below w.heap.size w (w.drewN q) := below_drewN (Below.refl _ _) q
theorem cat_list (a b : List UInt8) : (⟨a.toArray⟩ : ByteArray) ++ ⟨b.toArray⟩ = ⟨(a ++ b).toArray⟩ := by
  apply ByteArray.ext
  simp
theorem slice_form {w : World} {B : Nat} {e : TypeId} {size : Nat} {v : Value} {n : Nat} {xs : List Value} (h : w.ownsRow B e size v n xs) : ∃ a c, v = .slice a n c := by
  rcases h.2 with ⟨rfl, rfl⟩ | ⟨g, cap, cur, rfl, _⟩
  · exact ⟨none, 0, rfl⟩
  · exact ⟨_, cap, rfl⟩
section
variable {P : Program}
end
end Go.Proofs.YtifjneldjjmeaaaGreatDoor
namespace Go.Proofs.YtifjneldjjmeaaaGreatDoor
namespace Wd
def bt (s : ByteArray) (p : Nat) : Nat := if h : p < s.size then (s[p]'h).toNat else 0
def figI (x : Int) : Int := if x < 10 then 48 + x else 87 + x
theorem figI_low (x : Int) (h : x < 10) : figI x = 48 + x := by simp [figI, h]
theorem figI_high (x : Int) (h : ¬ x < 10) : figI x = 87 + x := by simp [figI, h]
theorem figI_bd (x : Int) (h0 : 0 ≤ x) (h1 : x < 16) : 48 ≤ figI x ∧ figI x ≤ 102 := by unfold figI; split <;> omega
def figB (x : Nat) : UInt8 := UInt8.ofNat (figI x).toNat
theorem figB_val (x : Nat) (h : x < 16) : ((figB x).toNat : Int) = figI x := by
  have := figI_bd x (by omega) (by omega)
  simp only [figB, UInt8.toNat_ofNat']
  omega
def decA : Nat → Nat → List UInt8 → List UInt8
  | 0, _, acc => acc
  | f + 1, n, acc => if n = 0 then acc else decA f (n / 10) (figB (n % 10) :: acc)
theorem decA_zero (f : Nat) (acc : List UInt8) : decA f 0 acc = acc := by cases f <;> simp [decA]
theorem decA_step (f n : Nat) (acc : List UInt8) (h : n ≠ 0) : decA (f + 1) n acc = decA f (n / 10) (figB (n % 10) :: acc) := by simp [decA, h]
def decS (n : Int) : List UInt8 := if n = 0 then [48] else if n < 0 then 45 :: decA 20 n.natAbs [] else decA 20 n.natAbs []
theorem decA_length : ∀ f n acc m, n < 10 ^ m → (decA f n acc).length ≤ acc.length + m
  | 0, n, acc, m, _ => by simp [decA]
  | f + 1, n, acc, m, h => by
    by_cases h0 : n = 0
    · subst h0; rw [decA_zero]; omega
    · rw [decA_step f n acc h0]
      cases m with
      | zero => simp at h; omega
      | succ m =>
        have := decA_length f (n / 10) (figB (n % 10) :: acc) m (Nat.div_lt_of_lt_mul (by rw [Nat.mul_comm, ← Nat.pow_succ]; exact h))
        simp at this
        omega
def numF (s : ByteArray) : Nat → Nat
  | 0 => 0
  | k + 1 => 10 * numF s k + (bt s k - 48)
def digs (s : ByteArray) (k : Nat) : Prop := ∀ p, p < k → 48 ≤ bt s p ∧ bt s p ≤ 57
end Wd
end Go.Proofs.YtifjneldjjmeaaaGreatDoor
namespace Go.Proofs.YtifjneldjjmeaaaGreatDoor
open Go.RowKit
theorem Tryz.info5 : (Tryz.prog.info? 5).map (fun i => (i.zero, i.size, i.bytes)) = some (some (.int .u8 0), 1, 1) := by kernel_rfl
theorem Tryz.cells5 : Tryz.prog.cellsOf 5 = 1 := by kernel_rfl
def TextsAt (w : World) (ao : Option Addr) (ts : List ByteArray) : Prop := ∀ j (h : j < ts.length), ∃ b off : Nat, ao = some ⟨b, off, none⟩ ∧ b < w.heap.size ∧ w.cell? ⟨b, off + j, none⟩ = some (.string ts[j])
theorem textsAt_keep {w w' : World} {ao : Option Addr} {ts : List ByteArray} (h : TextsAt w ao ts) (hb : Below w.heap.size w w') : TextsAt w' ao ts := by
  intro j hj
  obtain ⟨b, off, h1, h2, h3⟩ := h j hj
  exact ⟨b, off, h1, Nat.lt_of_lt_of_le h2 hb.size, (hb.cell (p := ⟨b, off + j, none⟩) h2).trans h3⟩
def TextsIn (C : Array Value) (ts : List ByteArray) (k : Nat) : Prop := ∀ j (h : j < ts.length), j < k → C[j]? = some (.string ts[j])
theorem textsAt_in {w : World} {g : Nat} {C : Array Value} {t : TypeId} {ts : List ByteArray} (h : w.heap[g]? = some (.cells C t (0, 0))) (hC : TextsIn C ts ts.length) : TextsAt w (some ⟨g, 0, none⟩) ts := by
  intro j hj
  refine ⟨g, 0, rfl, (Array.getElem?_eq_some_iff.1 h).1, ?_⟩
  rw [Nat.zero_add, cell_of_row w g _ C t (0, 0) h]
  exact hC j hj hj
def RowText (w : World) (B : Nat) (v : Value) (ts : List ByteArray) : Prop := (v = .slice none 0 0 ∧ ts = []) ∨
  ∃ (g cap : Nat) (C : Array Value), v = .slice (some ⟨g, 0, none⟩) ts.length cap ∧ B ≤ g ∧ w.heap[g]? = some (.cells C 9 (0, 0)) ∧ ts.length ≤ C.size ∧ TextsIn C ts ts.length
theorem rowText_at {w : World} {B : Nat} {v : Value} {ts : List ByteArray} (h : RowText w B v ts) : ∃ ao cap, v = .slice ao ts.length cap ∧ TextsAt w ao ts := by
  rcases h with ⟨rfl, rfl⟩ | ⟨g, cap, C, rfl, _, hC, _, hI⟩
  · exact ⟨none, 0, rfl, fun j hj => absurd hj (by simp)⟩
  · exact ⟨_, cap, rfl, textsAt_in hC hI⟩
theorem rowText_lt {w : World} {B : Nat} {v : Value} {ts : List ByteArray} (h : RowText w B v ts) : ∀ g, v.ownBlock = some g → B ≤ g ∧ g < w.heap.size := by
  rcases h with ⟨rfl, rfl⟩ | ⟨g, cap, C, rfl, hB, hC, _, hI⟩
  · intro g h; cases h
  · intro g' h
    obtain rfl : g = g' := by simpa [Value.ownBlock] using h
    exact ⟨hB, (Array.getElem?_eq_some_iff.1 hC).1⟩
theorem rowText_keep {w w' : World} {B : Nat} {v : Value} {ts : List ByteArray} (h : RowText w B v ts) (hk : ∀ g, v.ownBlock = some g → w'.heap[g]? = w.heap[g]?) : RowText w' B v ts := by
  rcases h with ⟨rfl, rfl⟩ | ⟨g, cap, C, rfl, hB, hC, hs, hI⟩
  · exact .inl ⟨rfl, rfl⟩
  · exact .inr ⟨g, cap, C, rfl, hB, (hk g rfl).trans hC, hs, hI⟩
theorem rowText_below {w w' : World} {B : Nat} {v : Value} {ts : List ByteArray} (h : RowText w B v ts) (hb : Below w.heap.size w w') : RowText w' B v ts :=
  rowText_keep h (fun g hg => hb.block g (rowText_lt h g hg).2)
theorem rowText_le {w : World} {B B' : Nat} {v : Value} {ts : List ByteArray} (h : RowText w B v ts) (hB : B' ≤ B) : RowText w B' v ts := by
  rcases h with h | ⟨g, cap, C, h1, h2, h3⟩
  · exact .inl h
  · exact .inr ⟨g, cap, C, h1, by omega, h3⟩
theorem rowText_rows {w : World} {B n c : Nat} {a : Option Addr} {ts : List ByteArray} (h : RowText w B (.slice a n c) ts) : TextsAt w a ts := by
  obtain ⟨ao, cap, e, hf⟩ := rowText_at h
  cases e
  exact hf
theorem rowText_one {w : World} {B : Nat} {x : Value} {ts : List ByteArray} (h : RowText w B x ts) : x.oneCell' = true := by
  obtain ⟨a, c, rfl, -⟩ := rowText_at h
  rfl
theorem take_getText {C : Array Value} {xs : List Value} {n : Nat} (h : C.toList.take n = xs) {j : Nat} {u : Value} (hj : j < n) (hu : xs[j]? = some u) : C[j]? = some u := by
  rw [← h, List.getElem?_take_of_lt hj] at hu
  simpa using hu
theorem rowText_own {w : World} {B : Nat} {v : Value} {ts : List ByteArray} (h : w.ownsRow B 9 1 v ts.length (ts.map Value.string)) : RowText w B v ts := by
  rcases h.2 with ⟨rfl, hn⟩ | ⟨g, cap, cur, rfl, hB, hC, hle, _, hs, ht⟩
  · exact .inl ⟨rfl, List.eq_nil_of_length_eq_zero hn⟩
  · refine .inr ⟨g, cap, cur, rfl, hB, hC, by omega, ?_⟩
    intro j hj _
    exact take_getText ht (by omega) (by simp [hj])
theorem text_block {w : World} {B : Nat} {x : Value} {ts : List ByteArray} (h : RowText w B x ts) {g : Nat} (hg : x.ownBlock = some g) : ∃ C, w.heap[g]? = some (.cells C 9 (0, 0)) := by
  rcases h with ⟨rfl, rfl⟩ | ⟨g', cap, C, rfl, _, hC, _⟩
  · cases hg
  · obtain rfl : g' = g := by simpa [Value.ownBlock] using hg
    exact ⟨C, hC⟩
theorem Tryz.infoText : (Tryz.prog.info? 9).map (fun i => (i.zero, i.size, i.bytes)) = some (some (.string ⟨#[]⟩), 1, 16) := by kernel_rfl
theorem texts_one (ts : List ByteArray) : ∀ u ∈ ts.map Value.string, u.oneCell' = true := by
  intro u hu
  obtain ⟨b, _, rfl⟩ := List.mem_map.1 hu
  rfl
theorem app_txt {ops : Array Oper} {rest : List Oper} {o : Oper} {a : Act} {Q : Exit → Act → World → Prop} (W : World) (B : Nat) (hgd : o.guard = none) (s y : Operand)
    (ho : o.op = .call { callee := .builtin .append, args := #[s, y], argTypes := #[25, 25] }) (v : Value) (l : List ByteArray) (F : ByteArray) (hs : a.eval s = v)
    (hown : W.ownsRow B 9 1 v l.length (l.map Value.string)) (k : Nat) (hx : a.eval y = .slice (some ⟨k, 0, none⟩) 1 1) (hblk : W.heap[k]? = some (.cells #[.string F] 9 (0, 0)))
    (hlen : l.length ≤ 1048576) (hbase : B ≤ W.heap.size)
    (h : ∀ g cap w', w'.ownsRow B 9 1 (.slice (some ⟨g, 0, none⟩) (l.length + 1) cap) (l ++ [F]).length ((l ++ [F]).map Value.string) → Below B W w' → W.grownBy w' v.ownBlock → B ≤ g → g < w'.heap.size → wpList Tryz.prog ops Q rest (a.put o.dst (.slice (some ⟨g, 0, none⟩) (l.length + 1) cap)) w') :
    wpList Tryz.prog ops Q (o :: rest) a W := by
  obtain ⟨i0, hi, hz0, hz1, hz2⟩ := info_parts Tryz.infoText
  refine wpList_append_lies W hgd s y 25 ho B 9 i0 (.string ⟨#[]⟩) 1 16 Tryz.underlying25 hi hz0 hz1 hz2 rfl (by decide) v l.length (l.map Value.string) hs hown ⟨k, 0, none⟩ 1 1 ([F].map Value.string) hx rfl
    (fun j u hj => World.news_of_block hblk j u hj) (texts_one [F]) (by omega) (by unfold maxLen; omega) (by omega) hbase W.heap.size rfl ?_
  intro g cap w' hown' hgrow hg hgl
  have hlt := hown.lt
  refine h g cap w' ?_ ((Below.refl B W).grown hgrow hbase (fun k hk => (hlt k hk).1)) hgrow ?_ hgl
  · rw [List.map_append, List.length_append]
    exact hown'
  · rcases hg with hg | rfl
    · exact (hlt g hg).1
    · exact hbase
theorem step_app_txt {ops : Array Oper} {o : Oper} {a : Act} {K : Act → World → Prop} {Q : Exit → Act → World → Prop} {E : Prop} (W : World) (B : Nat) (hgd : o.guard = none) (s y : Operand)
    (ho : o.op = .call { callee := .builtin .append, args := #[s, y], argTypes := #[25, 25] }) (v : Value) (l : List ByteArray) (F : ByteArray) (hs : a.eval s = v)
    (hown : W.ownsRow B 9 1 v l.length (l.map Value.string)) (k : Nat) (hx : a.eval y = .slice (some ⟨k, 0, none⟩) 1 1) (hblk : W.heap[k]? = some (.cells #[.string F] 9 (0, 0)))
    (hlen : l.length ≤ 1048576) (hbase : B ≤ W.heap.size)
    (h : ∀ g cap w', w'.ownsRow B 9 1 (.slice (some ⟨g, 0, none⟩) (l.length + 1) cap) (l ++ [F]).length ((l ++ [F]).map Value.string) → Below B W w' → W.grownBy w' v.ownBlock → B ≤ g → g < w'.heap.size → K (a.put o.dst (.slice (some ⟨g, 0, none⟩) (l.length + 1) cap)) w') :
    if Region.wanted o (yielded ops a.tmps) = true then Oper.wp Tryz.prog o a W K Q else E := by
  obtain ⟨i0, hi, hz0, hz1, hz2⟩ := info_parts Tryz.infoText
  refine step_append_lies W hgd s y 25 ho B 9 i0 (.string ⟨#[]⟩) 1 16 Tryz.underlying25 hi hz0 hz1 hz2 rfl (by decide) v l.length (l.map Value.string) hs hown ⟨k, 0, none⟩ 1 1 ([F].map Value.string) hx rfl
    (fun j u hj => World.news_of_block hblk j u hj) (texts_one [F]) (by omega) (by unfold maxLen; omega) (by omega) hbase W.heap.size rfl ?_
  intro g cap w' hown' hgrow hg hgl
  have hlt := hown.lt
  refine h g cap w' ?_ ((Below.refl B W).grown hgrow hbase (fun k hk => (hlt k hk).1)) hgrow ?_ hgl
  · rw [List.map_append, List.length_append]
    exact hown'
  · rcases hg with hg | rfl
    · exact (hlt g hg).1
    · exact hbase
def mk (k : Nat) : List UInt8 := 109 :: Wd.decA 20 k []
structure ValD where
  kind : Int
  til : Int
  text : ByteArray
  items : List ByteArray
def Asc (L : List ByteArray) : Prop := ∀ j (h : j + 1 < L.length), Op.bytesLess L[j].toList L[j + 1].toList = true
def AscF (L : List ByteArray) : Prop := ∀ j (h : j + 2 < L.length), j % 2 = 0 → Op.bytesLess L[j].toList L[j + 2].toList = true
def Small (L : List ByteArray) : Prop := ∀ s ∈ L, s.size ≤ 60
def TextsR (L : List ByteArray) : Prop := 1 ≤ L.length ∧ L.length ≤ 24 ∧ Small L
def KindR (v : ValD) : Prop := (v.kind = 1 ∧ v.items.length = 0 ∧ v.text.size ≤ 60) ∨
  (v.kind = 2 ∧ v.text.size = 0 ∧ TextsR v.items) ∨ (v.kind = 3 ∧ v.text.size = 0 ∧ TextsR v.items ∧ v.items.length % 2 = 0 ∧ AscF v.items) ∨ (v.kind = 4 ∧ v.text.size = 0 ∧ TextsR v.items ∧ Asc v.items)
def ValR (v : ValD) : Prop := 0 ≤ v.til ∧ v.til ≤ 100000 ∧ KindR v
def evN (L : List ByteArray) (k : Nat) : List ByteArray := (List.range k).map (fun j => L.getD (2 * j) ⟨#[]⟩)
theorem evN_length (L : List ByteArray) (k : Nat) : (evN L k).length = k := by simp [evN]
theorem evN_get (L : List ByteArray) (k j : Nat) (h : j < (evN L k).length) (h2 : 2 * j < L.length) : (evN L k)[j] = L[2 * j] := by
  simp [evN, List.getD, List.getElem?_eq_getElem h2]
theorem evN_succ (L : List ByteArray) (k : Nat) (h : 2 * k < L.length) : evN L (k + 1) = evN L k ++ [L[2 * k]] := by
  simp [evN, List.range_succ, List.getD, List.getElem?_eq_getElem h]
theorem evN_asc (L : List ByteArray) : Asc (evN L ((L.length + 1) / 2)) ↔ AscF L := by
  constructor
  · intro h j hj h2
    have hl := evN_length L ((L.length + 1) / 2)
    have := h (j / 2) (by omega)
    rw [evN_get L _ _ _ (by omega), evN_get L _ _ _ (by omega)] at this
    have e1 : 2 * (j / 2) = j := by omega
    have e2 : 2 * (j / 2 + 1) = j + 2 := by omega
    simp only [e1, e2] at this
    exact this
  · intro h j hj
    have hl := evN_length L ((L.length + 1) / 2)
    rw [evN_get L _ _ _ (by omega), evN_get L _ _ _ (by omega)]
    exact h (2 * j) (by omega) (by omega)
theorem val_cells {W : World} {g : Nat} {a b c d : Value} {t : TypeId} (h : W.heap[g]? = some (.cells #[a, b, c, d] t (0, 0))) : W.cell? ⟨g, 0, none⟩ = some a ∧ W.cell? ⟨g, 1, none⟩ = some b ∧ W.cell? ⟨g, 2, none⟩ = some c ∧ W.cell? ⟨g, 3, none⟩ = some d :=
  ⟨(cell_of_row W g 0 _ _ (0, 0) h).trans rfl, (cell_of_row W g 1 _ _ (0, 0) h).trans rfl, (cell_of_row W g 2 _ _ (0, 0) h).trans rfl, (cell_of_row W g 3 _ _ (0, 0) h).trans rfl⟩
theorem val_frozen {W : World} {g : Nat} {a b c d : Value} {t : TypeId} (h : W.heap[g]? = some (.cells #[a, b, c, d] t (0, 0))) : W.frozen? ⟨g, 0, none⟩ = false ∧ W.frozen? ⟨g, 1, none⟩ = false ∧ W.frozen? ⟨g, 2, none⟩ = false ∧ W.frozen? ⟨g, 3, none⟩ = false :=
  ⟨frozen_of_row W g 0 _ _ h, frozen_of_row W g 1 _ _ h, frozen_of_row W g 2 _ _ h, frozen_of_row W g 3 _ _ h⟩
theorem obj_lt {w : World} {k : Nat} {x : Obj} (h : w.heap[k]? = some x) : k < w.heap.size := (Array.getElem?_eq_some_iff.1 h).1
theorem blk_newd {X w2 : World} {C : Array Value} {t : TypeId} (b2 : Below (X.alloc (.cells C t)).drew.heap.size (X.alloc (.cells C t)).drew w2) : w2.heap[X.heap.size]? = some (.cells C t (0, 0)) := (b2.block X.heap.size (by simp)).trans (heap_alloc_new X _)
theorem val_keep {w w' : World} {g n : Nat} {o : Obj} (h : w.heap[g]? = some o) (hb : Below n w w') (hg : g < n) : w'.heap[g]? = some o := (hb.block g hg).trans h
structure EntD where
  key : ByteArray
  val : ValD
theorem Tryz.infoEntry : (Tryz.prog.info? 40).map (fun i => (i.zero, i.size, i.bytes)) = some (some (.agg #[.string ⟨#[]⟩, .int .i64 0, .int .i64 0, .string ⟨#[]⟩, .slice none 0 0]), 5, 72) := by kernel_rfl
def EntriesAt (w : World) (ao : Option Addr) (es : List EntD) : Prop := ∀ j (h : j < es.length), ∃ b off : Nat, ao = some ⟨b, off, none⟩ ∧ b < w.heap.size ∧ w.cell? ⟨b, off + j * 5, none⟩ = some (.string es[j].key) ∧
  w.cell? ⟨b, off + j * 5 + 1, none⟩ = some (.int .i64 es[j].val.kind) ∧ w.cell? ⟨b, off + j * 5 + 2, none⟩ = some (.int .i64 es[j].val.til) ∧ w.cell? ⟨b, off + j * 5 + 3, none⟩ = some (.string es[j].val.text) ∧
  ∃ a c, w.cell? ⟨b, off + j * 5 + 4, none⟩ = some (.slice a es[j].val.items.length c) ∧ TextsAt w a es[j].val.items
theorem entriesAt_keep {w w' : World} {ao : Option Addr} {es : List EntD} (h : EntriesAt w ao es) (hb : Below w.heap.size w w') : EntriesAt w' ao es := by
  intro j hj
  obtain ⟨b, off, h1, h2, h3, h4, h5, h6, a, c, h7, h8⟩ := h j hj
  exact ⟨b, off, h1, Nat.lt_of_lt_of_le h2 hb.size, (hb.cell (p := ⟨b, off + j * 5, none⟩) h2).trans h3, (hb.cell (p := ⟨b, off + j * 5 + 1, none⟩) h2).trans h4, (hb.cell (p := ⟨b, off + j * 5 + 2, none⟩) h2).trans h5, (hb.cell (p := ⟨b, off + j * 5 + 3, none⟩) h2).trans h6, a, c, (hb.cell (p := ⟨b, off + j * 5 + 4, none⟩) h2).trans h7, textsAt_keep h8 hb⟩
def KidsE (w : World) (B g : Nat) (C : Array Value) (es : List EntD) (k : Nat) : Prop :=
  (∀ j (h : j < es.length), j < k → C[j * 5]? = some (.string es[j].key) ∧ C[j * 5 + 1]? = some (.int .i64 es[j].val.kind) ∧ C[j * 5 + 2]? = some (.int .i64 es[j].val.til) ∧ C[j * 5 + 3]? = some (.string es[j].val.text) ∧ ∃ x, C[j * 5 + 4]? = some x ∧ RowText w B x es[j].val.items ∧ x.ownBlock ≠ some g) ∧
  (∀ (i j : Nat) (x y : Value) (h : Nat), i ≠ j → i < k → j < k → C[i * 5 + 4]? = some x → C[j * 5 + 4]? = some y → x.ownBlock = some h → y.ownBlock ≠ some h)
def RowEnt (w : World) (B : Nat) (v : Value) (es : List EntD) : Prop := (v = .slice none 0 0 ∧ es = []) ∨
  ∃ (g cap : Nat) (C : Array Value), v = .slice (some ⟨g, 0, none⟩) es.length cap ∧ B ≤ g ∧ w.heap[g]? = some (.cells C 40 (0, 0)) ∧ es.length * 5 ≤ C.size ∧ KidsE w B g C es es.length
theorem rowEnt_at {w : World} {B : Nat} {v : Value} {es : List EntD} (h : RowEnt w B v es) : ∃ ao cap, v = .slice ao es.length cap ∧ EntriesAt w ao es := by
  rcases h with ⟨rfl, rfl⟩ | ⟨g, cap, C, rfl, _, hC, _, hI⟩
  · exact ⟨none, 0, rfl, fun j hj => absurd hj (by simp)⟩
  · refine ⟨_, cap, rfl, fun j hj => ⟨g, 0, rfl, obj_lt hC, ?_⟩⟩
    obtain ⟨h1, h2, h3, h4, x, h5, h6, -⟩ := hI.1 j hj hj
    obtain ⟨a, c, rfl, h8⟩ := rowText_at h6
    rw [Nat.zero_add]
    exact ⟨(cell_of_row w g _ _ _ (0, 0) hC).trans h1, (cell_of_row w g _ _ _ (0, 0) hC).trans h2, (cell_of_row w g _ _ _ (0, 0) hC).trans h3, (cell_of_row w g _ _ _ (0, 0) hC).trans h4, a, c, (cell_of_row w g _ _ _ (0, 0) hC).trans h5, h8⟩
theorem rowEnt_rows {w : World} {B n c : Nat} {a : Option Addr} {es : List EntD} (h : RowEnt w B (.slice a n c) es) : n = es.length ∧ EntriesAt w a es := by
  obtain ⟨ao, cap, e, hf⟩ := rowEnt_at h
  cases e
  exact ⟨rfl, hf⟩
def putE (C : Array Value) (k : Nat) (e : EntD) (x : Value) : Array Value := ((((C.setIfInBounds (k * 5) (.string e.key)).setIfInBounds (k * 5 + 1) (.int .i64 e.val.kind)).setIfInBounds (k * 5 + 2) (.int .i64 e.val.til)).setIfInBounds (k * 5 + 3) (.string e.val.text)).setIfInBounds (k * 5 + 4) x
theorem putE_size (C : Array Value) (k : Nat) (e : EntD) (x : Value) : (putE C k e x).size = C.size := by simp [putE]
theorem putE_other (C : Array Value) (k : Nat) (e : EntD) (x : Value) (i : Nat) (h : i < k * 5 ∨ k * 5 + 4 < i) : (putE C k e x)[i]? = C[i]? := by
  unfold putE
  rw [Array.getElem?_setIfInBounds_ne (by omega), Array.getElem?_setIfInBounds_ne (by omega), Array.getElem?_setIfInBounds_ne (by omega), Array.getElem?_setIfInBounds_ne (by omega), Array.getElem?_setIfInBounds_ne (by omega)]
theorem putE_here (C : Array Value) (k : Nat) (e : EntD) (x : Value) (h : k * 5 + 4 < C.size) : (putE C k e x)[k * 5]? = some (.string e.key) ∧ (putE C k e x)[k * 5 + 1]? = some (.int .i64 e.val.kind) ∧ (putE C k e x)[k * 5 + 2]? = some (.int .i64 e.val.til) ∧ (putE C k e x)[k * 5 + 3]? = some (.string e.val.text) ∧ (putE C k e x)[k * 5 + 4]? = some x := by
  unfold putE
  refine ⟨?_, ?_, ?_, ?_, ?_⟩ <;> simp [Array.getElem?_setIfInBounds] <;> omega
def storeE (w : World) (g k : Nat) (e : EntD) (x : Value) : World := ((((w.setCell ⟨g, k * 5, none⟩ (.string e.key)).setCell ⟨g, k * 5 + 1, none⟩ (.int .i64 e.val.kind)).setCell ⟨g, k * 5 + 2, none⟩ (.int .i64 e.val.til)).setCell ⟨g, k * 5 + 3, none⟩ (.string e.val.text)).setCell ⟨g, k * 5 + 4, none⟩ x
theorem storeE_here {w : World} {g k : Nat} {C : Array Value} {t : TypeId} (e : EntD) (x : Value) (h : w.heap[g]? = some (.cells C t (0, 0))) : (storeE w g k e x).heap[g]? = some (.cells (putE C k e x) t (0, 0)) :=
  heap_setCell_same _ g _ _ t _ (heap_setCell_same _ g _ _ t _ (heap_setCell_same _ g _ _ t _ (heap_setCell_same _ g _ _ t _ (heap_setCell_same w g _ C t _ h))))
theorem storeE_other (w : World) (g k : Nat) (e : EntD) (x : Value) (b : Nat) (h : b ≠ g) : (storeE w g k e x).heap[b]? = w.heap[b]? := by
  unfold storeE
  rw [Below.heap_setCell _ _ _ _ (by simpa using h), Below.heap_setCell _ _ _ _ (by simpa using h), Below.heap_setCell _ _ _ _ (by simpa using h), Below.heap_setCell _ _ _ _ (by simpa using h), Below.heap_setCell _ _ _ _ (by simpa using h)]
theorem storeE_below {w0 w : World} {B g k : Nat} (e : EntD) (x : Value) (h : Below B w0 w) (hg : B ≤ g) : Below B w0 (storeE w g k e x) :=
  ((((h.setCell (p := ⟨g, k * 5, none⟩) hg _).setCell (p := ⟨g, k * 5 + 1, none⟩) hg _).setCell (p := ⟨g, k * 5 + 2, none⟩) hg _).setCell (p := ⟨g, k * 5 + 3, none⟩) hg _).setCell (p := ⟨g, k * 5 + 4, none⟩) hg _
def cells1E (e : EntD) (x : Value) : List Value := [.string e.key, .int .i64 e.val.kind, .int .i64 e.val.til, .string e.val.text, x]
def cellsEnt : List EntD → List Value → List Value
  | b :: r, x :: s => .string b.key :: .int .i64 b.val.kind :: .int .i64 b.val.til :: .string b.val.text :: x :: cellsEnt r s
  | _, _ => []
theorem cellsEnt_append : ∀ (a : List EntD) (s : List Value) (b : EntD) (x : Value), s.length = a.length → cellsEnt (a ++ [b]) (s ++ [x]) = cellsEnt a s ++ cells1E b x
  | [], [], _, _, _ => rfl
  | [], _ :: _, _, _, h => absurd h (by simp)
  | _ :: _, [], _, _, h => absurd h (by simp)
  | A :: r, y :: s, b, x, h => by simp only [List.cons_append, cellsEnt]; rw [cellsEnt_append r s b x (by simpa using h)]
theorem cellsEnt_get : ∀ (a : List EntD) (s : List Value) (j : Nat) (b : EntD) (x : Value), a[j]? = some b → s[j]? = some x →
    (cellsEnt a s)[j * 5]? = some (.string b.key) ∧ (cellsEnt a s)[j * 5 + 1]? = some (.int .i64 b.val.kind) ∧ (cellsEnt a s)[j * 5 + 2]? = some (.int .i64 b.val.til) ∧ (cellsEnt a s)[j * 5 + 3]? = some (.string b.val.text) ∧ (cellsEnt a s)[j * 5 + 4]? = some x
  | [], _, _, _, _, h, _ => absurd h (by simp)
  | _ :: _, [], _, _, _, _, h => absurd h (by simp)
  | A :: r, y :: s, 0, b, x, h, h' => by simp at h h'; subst h h'; simp [cellsEnt]
  | A :: r, y :: s, j + 1, b, x, h, h' => by
    have := cellsEnt_get r s j b x (by simpa using h) (by simpa using h')
    have e : (j + 1) * 5 = j * 5 + 5 := by omega
    simp only [cellsEnt, e]
    simpa using this
def BuildE (w : World) (B : Nat) (v : Value) (bs : List EntD) : Prop :=
  ∃ vs : List Value, vs.length = bs.length ∧ w.ownsRow B 40 5 v bs.length (cellsEnt bs vs) ∧ (∀ (j : Nat) (x : Value) (b : EntD), vs[j]? = some x → bs[j]? = some b → RowText w B x b.val.items) ∧
    (∀ (i j : Nat) (x y : Value) (h : Nat), i ≠ j → vs[i]? = some x → vs[j]? = some y → x.ownBlock = some h → y.ownBlock ≠ some h)
theorem buildE_nil (w : World) (B : Nat) : BuildE w B (.slice none 0 0) [] := ⟨[], rfl, World.ownsRow_nil _ _ _ _, fun j x b h => by simp at h, fun i j x y h _ hx => by simp at hx⟩
theorem owns_blockE {w : World} {B : Nat} {e : TypeId} {s : Nat} {v : Value} {n : Nat} {xs : List Value} (h : w.ownsRow B e s v n xs) {g : Nat} (hg : v.ownBlock = some g) : ∃ C, w.heap[g]? = some (.cells C e (0, 0)) := by
  rcases h.2 with ⟨rfl, _⟩ | ⟨g', cap, cur, rfl, _, hC, _⟩
  · cases hg
  · obtain rfl : g' = g := by simpa [Value.ownBlock] using hg
    exact ⟨cur, hC⟩
theorem kid_apartE {w : World} {B B' : Nat} {v x : Value} {n s : Nat} {xs : List Value} {ts : List ByteArray} (h : w.ownsRow B 40 s v n xs) (hx : RowText w B' x ts) {g : Nat} (hg : x.ownBlock = some g) : v.ownBlock ≠ some g := by
  intro e
  obtain ⟨C, h1⟩ := owns_blockE h e
  obtain ⟨C', h2⟩ := text_block hx hg
  rw [h1] at h2
  simp at h2
theorem buildE_below {w w' : World} {B : Nat} {v : Value} {bs : List EntD} (h : BuildE w B v bs) (hb : Below w.heap.size w w') : BuildE w' B v bs := by
  obtain ⟨vs, h1, h2, h3, h4⟩ := h
  exact ⟨vs, h1, ownsRow_below h2 hb, fun j x b hx hj => rowText_below (h3 j x b hx hj) hb, h4⟩
theorem buildE_form {w : World} {B : Nat} {v : Value} {bs : List EntD} (h : BuildE w B v bs) : ∃ a c, v = .slice a bs.length c := by
  obtain ⟨vs, -, h2, -⟩ := h
  exact slice_form h2
theorem buildE_row {w : World} {B : Nat} {v : Value} {bs : List EntD} (h : BuildE w B v bs) : RowEnt w B v bs := by
  obtain ⟨vs, h1, h2, h3, h4⟩ := h
  rcases h2.2 with ⟨rfl, hn⟩ | ⟨g, cap, cur, rfl, hB, hC, hle, _, hs, ht⟩
  · exact .inl ⟨rfl, List.eq_nil_of_length_eq_zero hn⟩
  · have hget : ∀ j (hj : j < bs.length), ∃ x, vs[j]? = some x ∧ cur[j * 5]? = some (.string bs[j].key) ∧ cur[j * 5 + 1]? = some (.int .i64 bs[j].val.kind) ∧ cur[j * 5 + 2]? = some (.int .i64 bs[j].val.til) ∧ cur[j * 5 + 3]? = some (.string bs[j].val.text) ∧ cur[j * 5 + 4]? = some x := by
      intro j hj
      obtain ⟨x, hx⟩ : ∃ x, vs[j]? = some x := ⟨vs[j]'(by omega), List.getElem?_eq_getElem (by omega)⟩
      obtain ⟨k1, k2, k3, k4, k5⟩ := cellsEnt_get bs vs j bs[j] x (List.getElem?_eq_getElem hj) hx
      exact ⟨x, hx, take_getText ht (by omega) k1, take_getText ht (by omega) k2, take_getText ht (by omega) k3, take_getText ht (by omega) k4, take_getText ht (by omega) k5⟩
    refine .inr ⟨g, cap, cur, rfl, hB, hC, by omega, fun j hj _ => ?_, ?_⟩
    · obtain ⟨x, hx, k1, k2, k3, k4, k5⟩ := hget j hj
      refine ⟨k1, k2, k3, k4, x, k5, h3 j x _ hx (List.getElem?_eq_getElem hj), fun e => ?_⟩
      exact kid_apartE h2 (h3 j x _ hx (List.getElem?_eq_getElem hj)) e rfl
    · intro i j x y h hij hi hj hx hy e
      obtain ⟨x', hx', -, -, -, -, k2⟩ := hget i hi
      obtain ⟨y', hy', -, -, -, -, k2'⟩ := hget j hj
      rw [k2] at hx
      rw [k2'] at hy
      obtain rfl := Option.some.inj hx
      obtain rfl := Option.some.inj hy
      exact h4 i j x' y' h hij hx' hy' e
theorem buildE_put {W w' : World} {B : Nat} {v v' x : Value} {bs : List EntD} {b : EntD} (hx : RowText W B x b.val.items)
    (vs : List Value) (h1 : vs.length = bs.length) (h3 : ∀ (j : Nat) (y : Value) (c : EntD), vs[j]? = some y → bs[j]? = some c → RowText W B y c.val.items) (h4 : ∀ (i j : Nat) (y z : Value) (h : Nat), i ≠ j → vs[i]? = some y → vs[j]? = some z → y.ownBlock = some h → z.ownBlock ≠ some h)
    (hnew : ∀ g, x.ownBlock = some g → ∀ y ∈ vs, y.ownBlock ≠ some g)
    (hown' : w'.ownsRow B 40 5 v' (bs ++ [b]).length (cellsEnt bs vs ++ cells1E b x)) (hkeep : ∀ k, v.ownBlock ≠ some k → k < W.heap.size → w'.heap[k]? = W.heap[k]?)
    (hown : W.ownsRow B 40 5 v bs.length (cellsEnt bs vs)) : BuildE w' B v' (bs ++ [b]) := by
  have keep : ∀ y (fs : List ByteArray), RowText W B y fs → RowText w' B y fs := fun y fs hy => rowText_keep hy (fun g hg => hkeep g (kid_apartE hown hy hg) (rowText_lt hy g hg).2)
  refine ⟨vs ++ [x], by simp [h1], by rw [cellsEnt_append bs vs b x h1]; exact hown', ?_, ?_⟩
  · intro j y c hy hc
    by_cases hj : j < bs.length
    · rw [List.getElem?_append_left (by omega)] at hy
      rw [List.getElem?_append_left hj] at hc
      exact keep _ _ (h3 j y c hy hc)
    · have hlt : j < (bs ++ [b]).length := (List.getElem?_eq_some_iff.1 hc).1
      have hje : j = bs.length := by simp at hlt; omega
      subst hje
      rw [List.getElem?_append_right (by omega)] at hy
      rw [List.getElem?_append_right (Nat.le_refl _)] at hc
      simp [h1] at hy hc
      subst hy hc
      exact keep _ _ hx
  · intro i j y z g hij hy hz hg e
    by_cases hi : i < vs.length
    · rw [List.getElem?_append_left hi] at hy
      by_cases hj : j < vs.length
      · rw [List.getElem?_append_left hj] at hz
        exact h4 i j y z g hij hy hz hg e
      · rw [List.getElem?_append_right (by omega)] at hz
        have hz' := List.mem_of_getElem? hz
        obtain rfl : z = x := by simpa using hz'
        exact hnew g e y (List.mem_of_getElem? hy) hg
    · rw [List.getElem?_append_right (by omega)] at hy
      have hy' := List.mem_of_getElem? hy
      obtain rfl : y = x := by simpa using hy'
      by_cases hj : j < vs.length
      · rw [List.getElem?_append_left hj] at hz
        exact hnew g hg z (List.mem_of_getElem? hz) e
      · have hi1 : i < (vs ++ [y]).length := by
          rcases Nat.lt_or_ge i (vs ++ [y]).length with h' | h'
          · exact h'
          · rw [List.getElem?_eq_none (by simp at h' ⊢; omega)] at hy; simp at hy
        have hj1 : j < (vs ++ [y]).length := by
          rcases Nat.lt_or_ge j (vs ++ [y]).length with h' | h'
          · exact h'
          · rw [List.getElem?_eq_none (by simpa using h')] at hz; simp at hz
        simp at hi1 hj1
        omega
theorem five_one {w : World} {B : Nat} {x : Value} {ts : List ByteArray} (h : RowText w B x ts) (e : EntD) : ∀ u ∈ cells1E e x, Value.oneCell' u = true := by
  intro u hu
  simp only [cells1E, List.mem_cons, List.not_mem_nil, or_false] at hu
  rcases hu with rfl | rfl | rfl | rfl | rfl
  · rfl
  · rfl
  · rfl
  · rfl
  · exact rowText_one h
theorem buildE_after {W0 W w' : World} {B : Nat} {v x v' : Value} {bs : List EntD} {b : EntD} {vs : List Value} (hBs : B ≤ W0.heap.size) (hb : Below W0.heap.size W0 W)
    (h1 : vs.length = bs.length) (h2 : W0.ownsRow B 40 5 v bs.length (cellsEnt bs vs)) (h3 : ∀ (j : Nat) (x : Value) (b : EntD), vs[j]? = some x → bs[j]? = some b → RowText W0 B x b.val.items)
    (h4 : ∀ (i j : Nat) (x y : Value) (h : Nat), i ≠ j → vs[i]? = some x → vs[j]? = some y → x.ownBlock = some h → y.ownBlock ≠ some h)
    (hx : RowText W W0.heap.size x b.val.items) (hown' : w'.ownsRow B 40 5 v' (bs ++ [b]).length (cellsEnt bs vs ++ cells1E b x)) (hgrow : W.grownBy w' v.ownBlock) : BuildE w' B v' (bs ++ [b]) := by
  refine buildE_put (W := W) (v := v) (rowText_le hx hBs) vs h1 (fun j y c hy hc => rowText_below (h3 j y c hy hc) hb) h4 ?_ hown' (fun k hk hlt => hgrow.block k hlt (fun e => hk e.symm)) (ownsRow_below h2 hb)
  intro g hg y hy e
  obtain ⟨j, hj, hjy⟩ := List.getElem_of_mem hy
  have k1 := h3 j y _ (by rw [List.getElem?_eq_getElem hj, hjy]) (List.getElem?_eq_getElem (by omega))
  have := (rowText_lt k1 g e).2
  have := (rowText_lt hx g hg).1
  omega
theorem app_ent {ops : Array Oper} {rest : List Oper} {o : Oper} {a : Act} {Q : Exit → Act → World → Prop} (W0 W : World) (B : Nat) (hgd : o.guard = none) (s y : Operand)
    (ho : o.op = .call { callee := .builtin .append, args := #[s, y], argTypes := #[24, 24] }) (v x : Value) (bs : List EntD) (b : EntD) (hs : a.eval s = v)
    (hbuild : BuildE W0 B v bs) (hBs : B ≤ W0.heap.size) (hb : Below W0.heap.size W0 W) (hx : RowText W W0.heap.size x b.val.items) (k : Nat) (hy : a.eval y = .slice (some ⟨k, 0, none⟩) 1 1) (hblk : W.heap[k]? = some (.cells #[.string b.key, .int .i64 b.val.kind, .int .i64 b.val.til, .string b.val.text, x] 40 (0, 0)))
    (hlen : bs.length ≤ 1048576)
    (h : ∀ g cap w', BuildE w' B (.slice (some ⟨g, 0, none⟩) (bs.length + 1) cap) (bs ++ [b]) → Below B W w' → W.grownBy w' v.ownBlock → wpList Tryz.prog ops Q rest (a.put o.dst (.slice (some ⟨g, 0, none⟩) (bs.length + 1) cap)) w') :
    wpList Tryz.prog ops Q (o :: rest) a W := by
  obtain ⟨i0, hi, hz0, hz1, hz2⟩ := info_parts Tryz.infoEntry
  obtain ⟨vs, h1, h2, h3, h4⟩ := hbuild
  have hown := ownsRow_below h2 hb
  refine wpList_append_lies W hgd s y 24 ho B 40 i0 (.agg #[.string ⟨#[]⟩, .int .i64 0, .int .i64 0, .string ⟨#[]⟩, .slice none 0 0]) 5 72 Tryz.underlying24 hi hz0 hz1 hz2 rfl (by decide) v bs.length (cellsEnt bs vs) hs hown ⟨k, 0, none⟩ 1 1 (cells1E b x) hy rfl
    (fun j u hj => World.news_of_block hblk j u hj) (five_one hx _) (by omega) (by unfold maxLen; omega) (by omega) (Nat.le_trans hBs hb.size) W.heap.size rfl ?_
  intro g cap w' hown' hgrow hg hgl
  refine h g cap w' (buildE_after hBs hb h1 h2 h3 h4 hx (by rw [List.length_append]; exact hown') hgrow) ((Below.refl B W).grown hgrow (Nat.le_trans hBs hb.size) (fun k hk => (hown.lt k hk).1)) hgrow
end Go.Proofs.YtifjneldjjmeaaaGreatDoor
