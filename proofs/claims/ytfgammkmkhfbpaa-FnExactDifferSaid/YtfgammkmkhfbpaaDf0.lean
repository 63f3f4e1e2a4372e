import Derived.WalkKit
import Derived.WalkSpells
import Derived.WalkLawsBesides
import Derived.Outline
import Derived.Laws.IdiomStrings
import Derived.Deep.AppendLies
import Derived.Deep.RegionHeld3
import Derived.BigQuiet
import Derived.WalkSmall
import Derived.Test.YtfgammkmkhfbpaaChecked
import Derived.Laws.MakeOwn
import Derived.Lib.SmallJoins
import Derived.OpenShut
set_option maxRecDepth 100000
set_option maxHeartbeats 1000000
namespace Go.Proofs.Ytfgammkmkhfbpaa
open Go.RowKit
theorem hide {p : Prop} (h : p) : Hid p := h
def bv (b : UInt8) : Value := .int .u8 (b.toNat : Int)
theorem bv_one (l : List UInt8) : ∀ u ∈ l.map bv, u.oneCell' = true := by
  intro u hu
  obtain ⟨b, _, rfl⟩ := List.mem_map.1 hu
  rfl
theorem cells_new (w : World) (C : Array Value) (t : TypeId) : ∀ j u, C.toList[j]? = some u → (w.alloc (.cells C t)).cell? ((⟨w.heap.size, 0, none⟩ : Addr).add j) = some u := by
  intro j u h
  simp only [Array.getElem?_toList] at h
  have e : ((⟨w.heap.size, 0, none⟩ : Addr).add j) = ⟨w.heap.size, j, none⟩ := by cases j <;> simp [Addr.add]
  rw [e]
  exact (World.cell?_alloc_mark w C t (0, 0) j).trans h
theorem grownBy_trans {a b c : World} {r : Option Nat} (h : a.grownBy b r) (k : b.grownBy c r) : a.grownBy c r :=
  ⟨k.os.trans h.os, k.tape.trans h.tape, k.output.trans h.output, Nat.le_trans h.size k.size, fun i hi hr => (k.block i (Nat.lt_of_lt_of_le hi h.size) hr).trans (h.block i hi hr)⟩
theorem grownBy_below {a b : World} (r : Option Nat) (h : Below a.heap.size a b) : a.grownBy b r := ⟨h.os, h.tape, h.output, h.size, fun k hk _ => h.block k hk⟩
theorem grownBy_store {a b : World} {g : Nat} (h : a.grownBy b (some g)) (j : Nat) (u : Value) : a.grownBy (b.setCell ⟨g, j, none⟩ u) (some g) :=
  ⟨h.os, h.tape, h.output, by have := h.size; simpa [World.setCell] using this, fun k hk hne => (Below.heap_setCell _ _ _ _ (by intro e; exact hne (by rw [e]))).trans (h.block k hk hne)⟩
theorem ownsRow_below {w w' : World} {B : Nat} {e : TypeId} {size : Nat} {v : Value} {n : Nat} {xs : List Value} (h : w.ownsRow B e size v n xs) (hb : Below w.heap.size w w') : w'.ownsRow B e size v n xs :=
  h.kept (grownBy_below none hb) (by cases hv : v.ownBlock with | none => exact .inl rfl | some k => exact .inr (by simp))
theorem ownsRow_mono {w : World} {B B' : Nat} {e : TypeId} {size : Nat} {v : Value} {n : Nat} {xs : List Value} (h : w.ownsRow B e size v n xs) (hB : B' ≤ B) : w.ownsRow B' e size v n xs := by
  refine ⟨h.1, ?_⟩
  rcases h.2 with h | ⟨g, cap, cur, hv, hb, r⟩
  · exact .inl h
  · exact .inr ⟨g, cap, cur, hv, by omega, r⟩
theorem drewN_below (w : World) (q : Nat) : Below w.heap.size w (w.drewN q) := below_drewN (Below.refl _ _) q
theorem cat_list (a b : List UInt8) : (⟨a.toArray⟩ : ByteArray) ++ ⟨b.toArray⟩ = ⟨(a ++ b).toArray⟩ := by
  apply ByteArray.ext
  simp
theorem slice_form {w : World} {B : Nat} {e : TypeId} {size : Nat} {v : Value} {n : Nat} {xs : List Value} (h : w.ownsRow B e size v n xs) : ∃ a c, v = .slice a n c := by
  rcases h.2 with ⟨rfl, rfl⟩ | ⟨g, cap, cur, rfl, _⟩
  · exact ⟨none, 0, rfl⟩
  · exact ⟨_, cap, rfl⟩
section
variable {P : Program}
theorem conv_own (ts te tx : TypeId) (hts : P.underlying ts = some (.slice te)) (hte : P.underlying te = some (.int .u8)) (htx : P.underlying tx = some .string)
    (w : World) (base : Nat) (v : Value) (l : List UInt8) (h : w.ownsRow base te 1 v l.length (l.map bv)) :
    (convert ts tx v).run P w = .ok (.string ⟨l.toArray⟩) w := by
  rcases h.2 with ⟨hv, hn⟩ | ⟨g, cap, cur, hv, hg, hh, hn, hm, hs, ht⟩
  · have hl := List.eq_nil_of_length_eq_zero hn
    subst hv hl
    rw [run_convert_bytes_string w ts tx te none 0 0 hts hte htx]
    rfl
  · subst hv
    refine run_convert_bytes_back w ts tx te ⟨g, 0, none⟩ cap l hts hte htx ?_
    intro j hj
    have := h.cells (g := g) rfl j (bv l[j]) (by simp [hj])
    exact this
theorem app_bytes {ops : Array Oper} {rest : List Oper} {o : Oper} {a : Act} {Q : Exit → Act → World → Prop} {C : Array Value} (wr : World) (ts te : TypeId) (hts : P.underlying ts = some (.slice te))
    (hinfo : (P.info? te).map (fun i => (i.zero, i.size, i.bytes)) = some (some (.int .u8 0), 1, 1)) (w : World) (B : Nat) (hgd : o.guard = none) (s x : Operand)
    (ho : o.op = .call { callee := .builtin .append, args := #[s, x], argTypes := #[ts, ts] }) (v : Value) (l news : List UInt8) (hs : a.eval s = v)
    (hown : wr.ownsRow B te 1 v l.length (l.map bv)) (hx : a.eval x = .slice (some ⟨wr.heap.size, 0, none⟩) news.length news.length) (hC : C.toList = news.map bv)
    (hlen : l.length + news.length ≤ 70368744177664) (hbel : Below B w wr) (hbase : B ≤ wr.heap.size)
    (h : ∀ v' w', w'.ownsRow B te 1 v' (l ++ news).length ((l ++ news).map bv) → Below B w w' → wr.heap.size ≤ w'.heap.size → wpList P ops Q rest (a.put o.dst v') w') :
    wpList P ops Q (o :: rest) a (wr.alloc (.cells C te)) := by
  obtain ⟨i0, hi, hz0, hz1, hz2⟩ := info_parts hinfo
  have hsz : wr.heap.size ≤ (wr.alloc (.cells C te)).heap.size := by simp
  refine wpList_append_own _ hgd s x ts ho B te i0 (.int .u8 0) 1 1 hts hi hz0 hz1 hz2 rfl (by decide) v l.length (l.map bv) hs (hown.alloc _) ⟨wr.heap.size, 0, none⟩ news.length news.length (news.map bv) hx (by simp)
    (fun j u hj => cells_new wr C te j u (by rw [hC]; exact hj)) (bv_one news) (by unfold maxLen; omega) (by omega) (by omega) ?_
  intro v' w' hown' hgrow _
  have hlt := hown.lt
  have hb1 : Below B w (wr.alloc (.cells C te)) := hbel.alloc hbase _
  refine h v' w' ?_ (hb1.grown hgrow (by omega) (fun k hk => (hlt k hk).1)) (Nat.le_trans hsz hgrow.size)
  rw [List.length_append, List.map_append]
  exact hown'
end
end Go.Proofs.Ytfgammkmkhfbpaa
namespace Go.Proofs.Ytfgammkmkhfbpaa
namespace Wd
def bt (s : ByteArray) (p : Nat) : Nat := if h : p < s.size then (s[p]'h).toNat else 0
def varF : Nat → Nat → List UInt8
  | 0, _ => []
  | f + 1, n => if n < 128 then [UInt8.ofNat n] else UInt8.ofNat (n % 128 + 128) :: varF f (n / 128)
theorem varF_low (f n : Nat) (h : n < 128) : varF (f + 1) n = [UInt8.ofNat n] := by simp [varF, h]
theorem varF_high (f n : Nat) (h : ¬ n < 128) : varF (f + 1) n = UInt8.ofNat (n % 128 + 128) :: varF f (n / 128) := by simp [varF, h]
theorem div_lt_pow (f m : Nat) (h : m < 128 ^ (f + 1)) : m / 128 < 128 ^ f := by
  rw [Nat.pow_succ] at h; exact Nat.div_lt_of_lt_mul (by rw [Nat.mul_comm]; exact h)
def rvF (s : ByteArray) : Nat → Nat → Nat → Nat → Nat → Option (Nat × Nat)
  | 0, _, _, _, _ => none
  | f + 1, p, k, q, n =>
    if p < s.size then
      (if bt s p < 128 then (if n + bt s p % 128 * q ≤ 1000000000 ∧ (0 < bt s p ∨ k = 0) then some (n + bt s p % 128 * q, p + 1) else none)
       else rvF s f (p + 1) (k + 1) (q * 128) (n + bt s p % 128 * q))
    else none
theorem rvF_more (s : ByteArray) (f p k q n : Nat) (h : p < s.size) (hb : ¬ bt s p < 128) : rvF s (f + 1) p k q n = rvF s f (p + 1) (k + 1) (q * 128) (n + bt s p % 128 * q) := by
  simp [rvF, h, hb]
theorem rvF_last (s : ByteArray) (f p k q n : Nat) (h : p < s.size) (hb : bt s p < 128) (hn : n + bt s p % 128 * q ≤ 1000000000) (hk : 0 < bt s p ∨ k = 0) : rvF s (f + 1) p k q n = some (n + bt s p % 128 * q, p + 1) := by
  simp only [rvF, if_pos h, if_pos hb, if_pos (And.intro hn hk)]
theorem rvF_moreB {s : ByteArray} {f p k q n b : Nat} (hB : bt s p = b) (h : p < s.size) (hb : ¬ b < 128) : rvF s (f + 1) p k q n = rvF s f (p + 1) (k + 1) (q * 128) (n + b % 128 * q) := by
  subst hB; exact rvF_more s f p k q n h hb
theorem rvF_lastB {s : ByteArray} {f p k q n b : Nat} (hB : bt s p = b) (h : p < s.size) (hb : b < 128) (hn : n + b % 128 * q ≤ 1000000000) (hk : 0 < b ∨ k = 0) : rvF s (f + 1) p k q n = some (n + b % 128 * q, p + 1) := by
  subst hB; exact rvF_last s f p k q n h hb hn hk
def rv (s : ByteArray) (i : Nat) : Option (Nat × Nat) := rvF s 5 i 0 1 0
def figI (x : Int) : Int := if x < 10 then 48 + x else 87 + x
theorem figI_low (x : Int) (h : x < 10) : figI x = 48 + x := by simp [figI, h]
theorem figI_bd (x : Int) (h0 : 0 ≤ x) (h1 : x < 16) : 48 ≤ figI x ∧ figI x ≤ 102 := by unfold figI; split <;> omega
def figB (x : Nat) : UInt8 := UInt8.ofNat (figI x).toNat
theorem figB_val (x : Nat) (h : x < 16) : ((figB x).toNat : Int) = figI x := by
  have := figI_bd x (by omega) (by omega)
  simp only [figB, UInt8.toNat_ofNat']
  omega
def decA : Nat → Nat → List UInt8 → List UInt8
  | 0, _, acc => acc
  | f + 1, n, acc => if n = 0 then acc else decA f (n / 10) (figB (n % 10) :: acc)
theorem decA_zero (f : Nat) (acc : List UInt8) : decA f 0 acc = acc := by cases f <;> simp [decA]
theorem decA_step (f n : Nat) (acc : List UInt8) (h : n ≠ 0) : decA (f + 1) n acc = decA f (n / 10) (figB (n % 10) :: acc) := by simp [decA, h]
end Wd
end Go.Proofs.Ytfgammkmkhfbpaa
namespace Go.Proofs.Ytfgammkmkhfbpaa
open Go.RowKit
theorem Try.info5 : (Try.prog.info? 5).map (fun i => (i.zero, i.size, i.bytes)) = some (some (.int .u8 0), 1, 1) := by kernel_rfl
theorem Try.cells5 : Try.prog.cellsOf 5 = 1 := by kernel_rfl
theorem l01In_any (x a b : Int) (w : World) : Calls Try.prog 30 #[.int .i64 x, .int .i64 a, .int .i64 b] w fun e w' => e = .returned (.bool (decide (a ≤ x) && decide (x ≤ b))) ∧ w' = w := by
  by_cases h : a ≤ x
  · have h' : decide (a ≤ x) = true := by simp; omega
    rw [h', Bool.true_and]
    go_enter Try.func30, Try.ntmps30
    go_wp2
    go_ret
    exact ⟨rfl, rfl⟩
  · have h' : decide (a ≤ x) = false := by simp; omega
    rw [h', Bool.false_and]
    go_enter Try.func30, Try.ntmps30
    go_wp2
    go_ret
    exact ⟨rfl, rfl⟩
theorem l01In_val (x a b : Int) (c : Bool) (w : World) (h : (decide (a ≤ x) && decide (x ≤ b)) = c) : Calls Try.prog 30 #[.int .i64 x, .int .i64 a, .int .i64 b] w fun e w' => e = .returned (.bool c) ∧ w' = w := h ▸ l01In_any x a b w
def TextsAt (w : World) (ao : Option Addr) (ts : List ByteArray) : Prop := ∀ j (h : j < ts.length), ∃ b off : Nat, ao = some ⟨b, off, none⟩ ∧ b < w.heap.size ∧ w.cell? ⟨b, off + j, none⟩ = some (.string ts[j])
theorem textsAt_keep {w w' : World} {ao : Option Addr} {ts : List ByteArray} (h : TextsAt w ao ts) (hb : Below w.heap.size w w') : TextsAt w' ao ts := by
  intro j hj
  obtain ⟨b, off, h1, h2, h3⟩ := h j hj
  exact ⟨b, off, h1, Nat.lt_of_lt_of_le h2 hb.size, (hb.cell (p := ⟨b, off + j, none⟩) h2).trans h3⟩
def TextsIn (C : Array Value) (ts : List ByteArray) (k : Nat) : Prop := ∀ j (h : j < ts.length), j < k → C[j]? = some (.string ts[j])
theorem textsIn_put {C : Array Value} {ts : List ByteArray} {k : Nat} (h : TextsIn C ts k) (hk : k < ts.length) (hs : ts.length ≤ C.size) : TextsIn (C.setIfInBounds k (.string ts[k])) ts (k + 1) := by
  intro j hj hjk
  by_cases e : j = k
  · subst e
    simp [Array.getElem?_setIfInBounds]
    omega
  · rw [Array.getElem?_setIfInBounds_ne (by omega)]
    exact h j hj (by omega)
theorem textsAt_in {w : World} {g : Nat} {C : Array Value} {t : TypeId} {ts : List ByteArray} (h : w.heap[g]? = some (.cells C t (0, 0))) (hC : TextsIn C ts ts.length) : TextsAt w (some ⟨g, 0, none⟩) ts := by
  intro j hj
  refine ⟨g, 0, rfl, (Array.getElem?_eq_some_iff.1 h).1, ?_⟩
  rw [Nat.zero_add, cell_of_row w g _ C t (0, 0) h]
  exact hC j hj hj
def RowText (w : World) (B : Nat) (v : Value) (ts : List ByteArray) : Prop := (v = .slice none 0 0 ∧ ts = []) ∨
  ∃ (g cap : Nat) (C : Array Value), v = .slice (some ⟨g, 0, none⟩) ts.length cap ∧ B ≤ g ∧ w.heap[g]? = some (.cells C 9 (0, 0)) ∧ ts.length ≤ C.size ∧ TextsIn C ts ts.length
theorem rowText_at {w : World} {B : Nat} {v : Value} {ts : List ByteArray} (h : RowText w B v ts) : ∃ ao cap, v = .slice ao ts.length cap ∧ TextsAt w ao ts := by
  rcases h with ⟨rfl, rfl⟩ | ⟨g, cap, C, rfl, _, hC, _, hI⟩
  · exact ⟨none, 0, rfl, fun j hj => absurd hj (by simp)⟩
  · exact ⟨_, cap, rfl, textsAt_in hC hI⟩
theorem rowText_lt {w : World} {B : Nat} {v : Value} {ts : List ByteArray} (h : RowText w B v ts) : ∀ g, v.ownBlock = some g → B ≤ g ∧ g < w.heap.size := by
  rcases h with ⟨rfl, rfl⟩ | ⟨g, cap, C, rfl, hB, hC, _, hI⟩
  · intro g h; cases h
  · intro g' h
    obtain rfl : g = g' := by simpa [Value.ownBlock] using h
    exact ⟨hB, (Array.getElem?_eq_some_iff.1 hC).1⟩
theorem rowText_keep {w w' : World} {B : Nat} {v : Value} {ts : List ByteArray} (h : RowText w B v ts) (hk : ∀ g, v.ownBlock = some g → w'.heap[g]? = w.heap[g]?) : RowText w' B v ts := by
  rcases h with ⟨rfl, rfl⟩ | ⟨g, cap, C, rfl, hB, hC, hs, hI⟩
  · exact .inl ⟨rfl, rfl⟩
  · exact .inr ⟨g, cap, C, rfl, hB, (hk g rfl).trans hC, hs, hI⟩
theorem rowText_le {w : World} {B B' : Nat} {v : Value} {ts : List ByteArray} (h : RowText w B v ts) (hB : B' ≤ B) : RowText w B' v ts := by
  rcases h with h | ⟨g, cap, C, h1, h2, h3⟩
  · exact .inl h
  · exact .inr ⟨g, cap, C, h1, by omega, h3⟩
theorem rowText_rows {w : World} {B n c : Nat} {a : Option Addr} {ts : List ByteArray} (h : RowText w B (.slice a n c) ts) : TextsAt w a ts := by
  obtain ⟨ao, cap, e, hf⟩ := rowText_at h
  cases e
  exact hf
theorem take_getText {C : Array Value} {xs : List Value} {n : Nat} (h : C.toList.take n = xs) {j : Nat} {u : Value} (hj : j < n) (hu : xs[j]? = some u) : C[j]? = some u := by
  rw [← h, List.getElem?_take_of_lt hj] at hu
  simpa using hu
theorem rowText_own {w : World} {B : Nat} {v : Value} {ts : List ByteArray} (h : w.ownsRow B 9 1 v ts.length (ts.map Value.string)) : RowText w B v ts := by
  rcases h.2 with ⟨rfl, hn⟩ | ⟨g, cap, cur, rfl, hB, hC, hle, _, hs, ht⟩
  · exact .inl ⟨rfl, List.eq_nil_of_length_eq_zero hn⟩
  · refine .inr ⟨g, cap, cur, rfl, hB, hC, by omega, ?_⟩
    intro j hj _
    exact take_getText ht (by omega) (by simp [hj])
theorem Try.infoText : (Try.prog.info? 9).map (fun i => (i.zero, i.size, i.bytes)) = some (some (.string ⟨#[]⟩), 1, 16) := by kernel_rfl
theorem texts_one (ts : List ByteArray) : ∀ u ∈ ts.map Value.string, u.oneCell' = true := by
  intro u hu
  obtain ⟨b, _, rfl⟩ := List.mem_map.1 hu
  rfl
theorem app_txt {ops : Array Oper} {rest : List Oper} {o : Oper} {a : Act} {Q : Exit → Act → World → Prop} (W : World) (B : Nat) (hgd : o.guard = none) (s y : Operand)
    (ho : o.op = .call { callee := .builtin .append, args := #[s, y], argTypes := #[34, 34] }) (v : Value) (l : List ByteArray) (F : ByteArray) (hs : a.eval s = v)
    (hown : W.ownsRow B 9 1 v l.length (l.map Value.string)) (k : Nat) (hx : a.eval y = .slice (some ⟨k, 0, none⟩) 1 1) (hblk : W.heap[k]? = some (.cells #[.string F] 9 (0, 0)))
    (hlen : l.length ≤ 1048576) (hbase : B ≤ W.heap.size)
    (h : ∀ g cap w', w'.ownsRow B 9 1 (.slice (some ⟨g, 0, none⟩) (l.length + 1) cap) (l ++ [F]).length ((l ++ [F]).map Value.string) → Below B W w' → W.grownBy w' v.ownBlock → B ≤ g → g < w'.heap.size → wpList Try.prog ops Q rest (a.put o.dst (.slice (some ⟨g, 0, none⟩) (l.length + 1) cap)) w') :
    wpList Try.prog ops Q (o :: rest) a W := by
  obtain ⟨i0, hi, hz0, hz1, hz2⟩ := info_parts Try.infoText
  refine wpList_append_lies W hgd s y 34 ho B 9 i0 (.string ⟨#[]⟩) 1 16 Try.underlying34 hi hz0 hz1 hz2 rfl (by decide) v l.length (l.map Value.string) hs hown ⟨k, 0, none⟩ 1 1 ([F].map Value.string) hx rfl
    (fun j u hj => World.news_of_block hblk j u hj) (texts_one [F]) (by omega) (by unfold maxLen; omega) (by omega) hbase W.heap.size rfl ?_
  intro g cap w' hown' hgrow hg hgl
  have hlt := hown.lt
  refine h g cap w' ?_ ((Below.refl B W).grown hgrow hbase (fun k hk => (hlt k hk).1)) hgrow ?_ hgl
  · rw [List.map_append, List.length_append]
    exact hown'
  · rcases hg with hg | rfl
    · exact (hlt g hg).1
    · exact hbase
theorem step_app_txt {ops : Array Oper} {o : Oper} {a : Act} {K : Act → World → Prop} {Q : Exit → Act → World → Prop} {E : Prop} (W : World) (B : Nat) (hgd : o.guard = none) (s y : Operand)
    (ho : o.op = .call { callee := .builtin .append, args := #[s, y], argTypes := #[34, 34] }) (v : Value) (l : List ByteArray) (F : ByteArray) (hs : a.eval s = v)
    (hown : W.ownsRow B 9 1 v l.length (l.map Value.string)) (k : Nat) (hx : a.eval y = .slice (some ⟨k, 0, none⟩) 1 1) (hblk : W.heap[k]? = some (.cells #[.string F] 9 (0, 0)))
    (hlen : l.length ≤ 1048576) (hbase : B ≤ W.heap.size)
    (h : ∀ g cap w', w'.ownsRow B 9 1 (.slice (some ⟨g, 0, none⟩) (l.length + 1) cap) (l ++ [F]).length ((l ++ [F]).map Value.string) → Below B W w' → W.grownBy w' v.ownBlock → B ≤ g → g < w'.heap.size → K (a.put o.dst (.slice (some ⟨g, 0, none⟩) (l.length + 1) cap)) w') :
    if Region.wanted o (yielded ops a.tmps) = true then Oper.wp Try.prog o a W K Q else E := by
  obtain ⟨i0, hi, hz0, hz1, hz2⟩ := info_parts Try.infoText
  refine step_append_lies W hgd s y 34 ho B 9 i0 (.string ⟨#[]⟩) 1 16 Try.underlying34 hi hz0 hz1 hz2 rfl (by decide) v l.length (l.map Value.string) hs hown ⟨k, 0, none⟩ 1 1 ([F].map Value.string) hx rfl
    (fun j u hj => World.news_of_block hblk j u hj) (texts_one [F]) (by omega) (by unfold maxLen; omega) (by omega) hbase W.heap.size rfl ?_
  intro g cap w' hown' hgrow hg hgl
  have hlt := hown.lt
  refine h g cap w' ?_ ((Below.refl B W).grown hgrow hbase (fun k hk => (hlt k hk).1)) hgrow ?_ hgl
  · rw [List.map_append, List.length_append]
    exact hown'
  · rcases hg with hg | rfl
    · exact (hlt g hg).1
    · exact hbase
theorem conv_byte (W : World) (b : UInt8) (z : Int) (hz : (b.toNat : Int) = z) :
    (convert 64 9 (.slice (some ⟨W.heap.size, 0, none⟩) 1 1)).run Try.prog (W.alloc (.cells #[.int .u8 z] 5)) = .ok (.string ⟨#[b]⟩) (W.alloc (.cells #[.int .u8 z] 5)) := by
  refine run_convert_bytes_back (P := Try.prog) (W.alloc (.cells #[.int .u8 z] 5)) 64 9 5 ⟨W.heap.size, 0, none⟩ 1 [b] Try.underlying64 Try.underlying5 Try.underlying9 ?_
  intro j hj
  exact cells_new W #[.int .u8 z] 5 j _ (by
    have : j = 0 := by simpa using hj
    subst this
    simp [hz])
def mk (k : Nat) : List UInt8 := 109 :: Wd.decA 20 k []
theorem mark_any (n : Nat) (w : World) (h0 : 0 < n) (h1 : n ≤ 9223372036854775807) :
    Calls Try.prog 27 #[.int .i64 n] w fun e w' => e = .returned (.string ⟨(mk n).toArray⟩) ∧ Below w.heap.size w w' := by
  have hz : decide ((n : Int) ≤ 0) = false := by simp; omega
  go_enter Try.func27, Try.ntmps27
  go_wp2
  go_loopw [0, 3] (fun t v wr => ∃ (f m : Nat) (acc : List UInt8), t = .int .i64 m ∧ v = .string ⟨acc.toArray⟩ ∧ m < 10 ^ f ∧ m ≤ 9223372036854775807 ∧ acc.length + f = 20 ∧ Hid (Wd.decA f m acc = Wd.decA 20 n []) ∧ Below w.heap.size w wr) (fun t _ _ => (intOf t).toNat)
  case atStart => exact ⟨20, n, [], rfl, rfl, by omega, h1, rfl, rfl, Below.refl _ _⟩
  case round =>
    obtain ⟨f, m, acc, rfl, rfl, hm, hm2, hl, hacc, hb⟩ := hrel
    have hbs := hb.size
    by_cases hlt : 0 < m
    · obtain ⟨f, rfl⟩ : ∃ g, f = g + 1 := by
        cases f with
        | zero => simp at hm; omega
        | succ g => exact ⟨g, rfl⟩
      have hfac := hide (Wd.decA_step f m acc (by omega))
      have hdiv : m / 10 < 10 ^ f := Nat.div_lt_of_lt_mul (by rw [Nat.mul_comm, ← Nat.pow_succ]; exact hm)
      have hcv := conv_byte wr (Wd.figB (m % 10)) (48 + (m : Int) % 10) (by rw [Wd.figB_val _ (by omega), Wd.figI_low _ (by omega)]; omega)
      go_wp2
      go_roundw
      case rel =>
        refine ⟨f, m / 10, Wd.figB (m % 10) :: acc, by go_num, congrArg Value.string (cat_list [Wd.figB (m % 10)] acc), hdiv, by omega, by simp; omega, ?_, hb.alloc hbs _⟩
        show _ = _
        rw [← hacc.out, hfac.out]
      case measure => simp [intOf]; omega
    · have hm0 : m = 0 := by omega
      subst hm0
      have hfin := hide ((Wd.decA_zero f acc).symm.trans hacc.out)
      go_wp2
      go_ret
      unfold mk
      rw [← hfin.out]
      exact ⟨congrArg (fun x => Ending.returned (Value.string x)) (cat_list [109] acc), hb⟩
def szTs : List ByteArray → Int → Int
  | [], n => n
  | s :: r, n => if n < (s.size : Int) then -1 else szTs r (n - s.size)
theorem szTs_small : ∀ (ts : List ByteArray) (n : Int), n ≤ 1048576 → 0 ≤ n → 0 ≤ szTs ts n → ∀ s ∈ ts, s.size ≤ 1048576
  | [], _, _, _, _, _, h => absurd h List.not_mem_nil
  | F :: r, n, h0, h1, h2, A, hA => by
    unfold szTs at h2
    split at h2
    · omega
    · rcases List.mem_cons.1 hA with rfl | hA
      · omega
      · exact szTs_small r _ (by omega) (by omega) h2 A hA
theorem szTs_le : ∀ (ts : List ByteArray) (n : Int), 0 ≤ n → szTs ts n ≤ n
  | [], _, _ => Int.le_refl _
  | F :: r, n, h => by
    unfold szTs
    split
    · omega
    · have := szTs_le r (n - F.size) (by omega)
      omega
def szTx (ts : List ByteArray) (n : Int) : Int := if n < ts.length then -1 else szTs ts (n - ts.length)
theorem szTx_le (ts : List ByteArray) (n : Int) (h : 0 ≤ n) : szTx ts n ≤ n := by
  unfold szTx
  split
  · omega
  · have := szTs_le ts (n - ts.length) (by omega)
    omega
theorem szTx_small {ts : List ByteArray} {n : Int} (h0 : n ≤ 1048576) (h : 0 ≤ szTx ts n) (hn : 0 ≤ n) : ts.length ≤ 1048576 ∧ ∀ s ∈ ts, s.size ≤ 1048576 := by
  unfold szTx at h
  split at h
  · omega
  · exact ⟨by omega, szTs_small ts _ (by omega) (by omega) h⟩
theorem szStringS_any (ts : List ByteArray) (ao : Option Addr) (cap : Nat) (n : Int) (w : World) (h0 : 0 ≤ n) (h1 : n ≤ 1048576) (hl : ts.length ≤ maxLen) (hts : TextsAt w ao ts) (hsz : ∀ s ∈ ts, s.size ≤ maxLen) :
    Calls Try.prog 45 #[.slice ao ts.length cap, .int .i64 n] w fun e w' => e = .returned (.int .i64 (szTx ts n)) ∧ Below w.heap.size w w' := by
  have HF := hide hts
  have HS := hide hsz
  clear hts hsz
  unfold maxLen at hl
  unfold szTx
  by_cases hn : n < ts.length
  · have hn' : decide (n - (ts.length : Int) < 0) = true := by simp; omega
    rw [if_pos hn]
    go_enter Try.func45, Try.ntmps45
    go_wp2
    go_ret
    exact ⟨rfl, Below.refl _ _⟩
  · have hn' : decide (n - (ts.length : Int) < 0) = false := by simp; omega
    rw [if_neg hn]
    obtain ⟨R, HR⟩ : ∃ R, Hid (szTs ts (n - ts.length) = R) := ⟨_, rfl⟩
    rw [HR.out]
    go_enter Try.func45, Try.ntmps45
    go_wp2
    go_loop [1, 5] (fun m ii => ∃ (k : Nat) (x : Int), ii = .int .i64 k ∧ m = .int .i64 x ∧ k ≤ ts.length ∧ 0 ≤ x ∧ x ≤ 1048576 ∧ Hid (szTs (ts.drop k) x = R)) (fun _ ii => ts.length - (intOf ii).toNat)
    case atStart => exact ⟨0, n - ts.length, rfl, rfl, Nat.zero_le _, by omega, by omega, HR.out⟩
    case round =>
      obtain ⟨k, x, rfl, rfl, hk, hx0, hx1, HX⟩ := hrel
      by_cases hlt : k < ts.length
      · have hlt' : decide ((k : Int) < (ts.length : Int)) = true := by simp; omega
        obtain ⟨b, off, rfl, hbw, hc0⟩ := HF.out k hlt
        have hsA := HS.out ts[k] (List.getElem_mem hlt)
        unfold maxLen at hsA
        have HD : Hid (szTs (ts.drop k) x = if x < (ts[k].size : Int) then -1 else szTs (ts.drop (k + 1)) (x - ts[k].size)) := by show _ = _; rw [List.drop_eq_getElem_cons hlt]; rfl
        generalize ts[k] = F at hc0 hsA HD
        have hi0 : (0 : Int) ≤ (k : Int) := by omega
        have hi1 : (k : Int) < (ts.length : Int) := by omega
        by_cases hneg : x < (F.size : Int)
        · have hneg' : decide (x - (F.size : Int) < 0) = true := by simp; omega
          have hR : Hid (R = -1) := by show _ = _; rw [← HX.out, HD.out, if_pos hneg]
          go_wp2
          go_ret
          rw [hR.out]
          exact ⟨rfl, Below.refl _ _⟩
        · have hneg' : decide (x - (F.size : Int) < 0) = false := by simp; omega
          have hR : Hid (szTs (ts.drop (k + 1)) (x - F.size) = R) := by show _ = _; rw [← HX.out, HD.out, if_neg hneg]
          go_wp2
          go_round
          case rel => exact ⟨k + 1, x - F.size, by go_num, by go_num, by omega, by omega, by omega, hR⟩
          case measure => simp [intOf]; omega
      · have hlt' : decide ((k : Int) < (ts.length : Int)) = false := by simp; omega
        have hR : Hid (x = R) := by show _ = _; rw [← HX.out, List.drop_eq_nil_of_le (by omega)]; rfl
        go_wp2
        go_ret
        rw [← hR.out]
        exact ⟨rfl, Below.refl _ _⟩
theorem toStringS_any (ts : List ByteArray) (ao : Option Addr) (cap : Nat) (w : World) (hl : ts.length ≤ 1048576) (hts : TextsAt w ao ts) :
    Calls Try.prog 46 #[.slice ao ts.length cap] w fun e w' => (∃ v, e = .returned v ∧ RowText w' w.heap.size v ts) ∧ Below w.heap.size w w' := by
  have HF := hide hts
  clear hts
  obtain ⟨i0, hi, hz0, hz1, hz2⟩ := info_parts Try.infoText
  obtain ⟨M, hM⟩ : ∃ M, M = madeCells (Value.string ⟨#[]⟩).cells (((ts.length : Nat) : Int).toNat * i0.size) := ⟨_, rfl⟩
  have hmk : ∀ W : World, (Instr.makeSlice 34 (.int .i64 (ts.length : Int)) (.int .i64 (ts.length : Int))).run Try.prog W = .ok (.slice (some ⟨W.heap.size, 0, none⟩) ts.length ts.length) (W.alloc (.cells M 9)) := fun W => by
    have h := run_make (P := Try.prog) W 34 9 i0 (.string ⟨#[]⟩) Try.underlying34 hi hz0 .i64 .i64 (ts.length : Int) (ts.length : Int) (by omega) (by omega) (by rw [hz2]; omega) (by omega)
    rw [← hM] at h
    simpa using h
  have hMs : M.size = ts.length := by rw [hM, size_madeCells, hz1]; simp
  clear hM
  go_enter Try.func46, Try.ntmps46
  go_wp2
  go_loopw [4] (fun ii wr => ∃ (k : Nat) (C : Array Value), ii = .int .i64 k ∧ k ≤ ts.length ∧ Hid (wr.heap[w.heap.size]? = some (.cells C 9 (0, 0))) ∧ C.size = ts.length ∧ Hid (TextsIn C ts k) ∧ Hid (Below w.heap.size w wr)) (fun ii _ => ts.length - (intOf ii).toNat)
  case atStart => exact ⟨0, M, rfl, Nat.zero_le _, heap_alloc_new w _, hMs, fun j _ hj => absurd hj (by omega), (Below.refl _ w).alloc (Nat.le_refl _) _⟩
  case round =>
    obtain ⟨k, C, rfl, hk, HC, hCs, HI, HB⟩ := hrel
    by_cases hlt : k < ts.length
    · have hlt' : decide ((k : Int) < (ts.length : Int)) = true := by simp; omega
      obtain ⟨b, off, rfl, hbw, hc0⟩ := textsAt_keep HF.out HB.out k hlt
      obtain ⟨F, HFk⟩ : ∃ F, Hid (ts[k] = F) := ⟨ts[k], hide rfl⟩
      rw [HFk.out] at hc0
      have hi0 : (0 : Int) ≤ (k : Int) := by omega
      have hi1 : (k : Int) < (ts.length : Int) := by omega
      have hq0 := cell_of_row wr w.heap.size k C 9 (0, 0) HC.out
      have hf0 := frozen_of_row wr w.heap.size k C 9 HC.out
      rw [Array.getElem?_eq_getElem (by omega)] at hq0
      have HN : Hid (TextsIn (C.setIfInBounds k (.string F)) ts (k + 1)) := by have := textsIn_put HI.out hlt (by omega); rw [HFk.out] at this; exact this
      have HC2 := hide (heap_setCell_same wr w.heap.size k C 9 (.string F) HC.out)
      have HB2 := hide (HB.out.setCell (p := ⟨w.heap.size, k, none⟩) (Nat.le_refl _) (.string F))
      go_wp2_with fail
      go_roundw
      case rel => exact ⟨k + 1, C.setIfInBounds k (.string F), by go_num, by omega, HC2, by simpa using hCs, HN, HB2⟩
      case measure => simp [intOf]; omega
    · have hlt' : decide ((k : Int) < (ts.length : Int)) = false := by simp; omega
      have hke : k = ts.length := by omega
      subst hke
      go_wp2
      go_ret
      exact ⟨⟨_, rfl, .inr ⟨w.heap.size, ts.length, C, rfl, Nat.le_refl _, HC.out, by omega, HI.out⟩⟩, HB.out⟩
theorem eqStringS_same (ts : List ByteArray) (ao ao2 : Option Addr) (cap cap2 : Nat) (w : World) (hl : ts.length ≤ maxLen) (h1 : TextsAt w ao ts) (h2 : TextsAt w ao2 ts) :
    Calls Try.prog 57 #[.slice ao ts.length cap, .slice ao2 ts.length cap2] w fun e w' => e = .returned (.bool true) ∧ Below w.heap.size w w' := by
  have H1 := hide h1
  have H2 := hide h2
  clear h1 h2
  unfold maxLen at hl
  have hne : (!((ts.length : Int) == (ts.length : Int))) = false := by simp
  go_enter Try.func57, Try.ntmps57
  go_wp2
  go_loopw [5] (fun ii wr => ∃ (k q : Nat), ii = .int .i64 k ∧ k ≤ ts.length ∧ wr = w.drewN q) (fun ii _ => ts.length - (intOf ii).toNat)
  case atStart => exact ⟨0, 0, rfl, Nat.zero_le _, rfl⟩
  case round =>
    obtain ⟨k, q, rfl, hk, rfl⟩ := hrel
    by_cases hlt : k < ts.length
    · have hlt' : decide ((k : Int) < (ts.length : Int)) = true := by simp; omega
      obtain ⟨b, off, rfl, hbw, hc0⟩ := H1.out k hlt
      obtain ⟨b', off', rfl, hbw', hd0⟩ := H2.out k hlt
      generalize ts[k] = F at hc0 hd0
      have hi0 : (0 : Int) ≤ (k : Int) := by omega
      have hi1 : (k : Int) < (ts.length : Int) := by omega
      have hee : (F.toList == F.toList) = true := beq_self_eq_true _
      go_wp2
      go_quiet (fail)
      go_wp2
      go_roundw
      case rel => exact ⟨k + 1, q + nq, by go_num, by omega, rfl⟩
      case measure => simp [intOf]; omega
    · have hlt' : decide ((k : Int) < (ts.length : Int)) = false := by simp; omega
      go_wp2
      go_ret
      exact ⟨rfl, drewN_below w q⟩
def markTs (k n : Nat) : List ByteArray := (List.range n).map (fun j => ⟨(mk (k + j)).toArray⟩)
theorem markTs_length (k n : Nat) : (markTs k n).length = n := by simp [markTs]
theorem markTs_get (k n j : Nat) (h : j < (markTs k n).length) : (markTs k n)[j] = ⟨(mk (k + j)).toArray⟩ := by simp [markTs]
theorem markStringS_row (v : Value) (ts : List ByteArray) (B k : Nat) (w : World) (hn : ts.length ≤ 1048576) (hk0 : 0 < k) (hk : k ≤ 10000000) (h : RowText w B v ts) :
    Calls Try.prog 28 #[v, .int .i64 (k : Int)] w fun e w' => e = .returned (.int .i64 ((k + ts.length : Nat) : Int)) ∧ RowText w' B v (markTs k ts.length) ∧ w.grownBy w' v.ownBlock := by
  rcases h with ⟨rfl, rfl⟩ | ⟨g, cap, C0, rfl, hB, hC, hs, hI⟩
  · go_enter Try.func28, Try.ntmps28
    go_wp2
    go_loop [1, 5] (fun kk ii => kk = .int .i64 k ∧ ii = .int .i64 0) (fun _ _ => 0)
    case atStart => exact ⟨rfl, rfl⟩
    case round =>
      obtain ⟨rfl, rfl⟩ := hrel
      go_wp2
      go_ret
      exact ⟨rfl, .inl ⟨rfl, rfl⟩, World.grownBy.refl _ _⟩
  · have HC0 := hide hC
    clear hC hI
    obtain ⟨n, HN⟩ : ∃ n, Hid (ts.length = n) := ⟨_, hide rfl⟩
    rw [HN.out] at hn hs ⊢
    clear HN
    go_enter Try.func28, Try.ntmps28
    go_wp2
    go_loopw [1, 5] (fun kk ii wr => ∃ (j : Nat) (C : Array Value), kk = .int .i64 ((k + j : Nat) : Int) ∧ ii = .int .i64 j ∧ j ≤ n ∧ Hid (wr.heap[g]? = some (.cells C 9 (0, 0))) ∧ C.size = C0.size ∧ Hid (TextsIn C (markTs k n) j) ∧ Hid (w.grownBy wr (some g))) (fun _ ii _ => n - (intOf ii).toNat)
    case atStart => exact ⟨0, C0, rfl, rfl, Nat.zero_le _, HC0, rfl, fun j _ hj => absurd hj (by omega), World.grownBy.refl _ _⟩
    case round =>
      obtain ⟨j, C, rfl, rfl, hj, HC, hCs, HI, HG⟩ := hrel
      by_cases hlt : j < n
      · have hlt' : decide ((j : Int) < (n : Int)) = true := by simp; omega
        have hi0 : (0 : Int) ≤ (j : Int) := by omega
        have hi1 : (j : Int) < (n : Int) := by omega
        have hgw : g < wr.heap.size := (Array.getElem?_eq_some_iff.1 HC.out).1
        obtain ⟨K, HK⟩ : ∃ K : Nat, Hid (K = k + j) := ⟨_, hide rfl⟩
        have hKb : 0 < K ∧ K ≤ 15000000 := by have := HK.out; omega
        rw [← HK.out]
        go_wp2_with fail
        refine (mark_any K _ hKb.1 (by omega)).mono ?_
        rintro e w1 ⟨rfl, b1⟩
        have HC1 : Hid (w1.heap[g]? = some (.cells C 9 (0, 0))) := (b1.block g hgw).trans HC.out
        have HG1 : Hid (w.grownBy w1 (some g)) := grownBy_trans HG.out (grownBy_below _ b1)
        have hq0 := cell_of_row w1 g j _ _ (0, 0) HC1.out
        have hf0 := frozen_of_row w1 g j _ _ HC1.out
        rw [Array.getElem?_eq_getElem (by omega)] at hq0
        clear b1
        go_wp2_with fail
        go_roundw
        case rel =>
          have hl := markTs_length k n
          have HP := textsIn_put HI.out (by omega) (by omega)
          rw [markTs_get, ← HK.out] at HP
          refine ⟨j + 1, C.setIfInBounds j (.string ⟨(mk K).toArray⟩), ?_, by go_num, by omega, heap_setCell_same _ g _ _ _ _ HC1.out, by simpa using hCs, HP, grownBy_store HG1.out j _⟩
          have := HK.out
          congr 1
          omega
        case measure => simp [intOf]; omega
      · have hlt' : decide ((j : Int) < (n : Int)) = false := by simp; omega
        have hje : j = n := by omega
        subst hje
        go_wp2
        go_ret
        have hl := markTs_length k j
        exact ⟨rfl, .inr ⟨g, cap, C, by rw [hl], hB, HC.out, by omega, by rw [hl]; exact HI.out⟩, HG.out⟩
open Go.ChangeShapes Go.WideShapes Go.Deep Go.Joins in
theorem texts_in {H : Type} {enc : TypeId × Value → H} {w : World} {fuel : Nat} {v : Value} {z : DataW H × List MemPlace} (h : DataW.trod enc Try.prog w 0 (fun _ => true) true fuel 34 [v] = some z) :
    ∃ (ao : Option Addr) (ts : List ByteArray) (cap : Nat), v = .slice ao ts.length cap ∧ ts.length ≤ maxLen ∧ TextsAt w ao ts ∧ ∀ s ∈ ts, s.size ≤ maxLen := by
  have hc : Try.prog.cellsOf 9 = 1 := by kernel_rfl
  rcases open_slice Try.underlying34 h with ⟨e, _⟩ | ⟨a, l0, c0, m, n', D, Pl, e, _, hle, hmx, hm, _, hel⟩
  · simp at e
    subst e
    exact ⟨none, [], 0, rfl, by unfold maxLen; simp, fun j hj => absurd hj (by simp), fun F hF => absurd hF List.not_mem_nil⟩
  · simp at e
    subst e
    rw [hc] at hel
    have hm' : l0 ≤ m := by rw [hm]; simpa using hle
    have hch : ∀ i, i < l0 → ∃ A : ByteArray, w.cells? 0 (a.add (i * 1)) 1 = some [.string A] ∧ A.size ≤ maxLen := by
      intro i hi
      obtain ⟨cs', g1, g2⟩ := hel i (by omega)
      obtain ⟨s0, e0, _, z0⟩ := DataW.trod_string Try.underlying9 g2
      subst e0
      exact ⟨s0, g1, z0⟩
    haveI : Inhabited ByteArray := ⟨⟨#[]⟩⟩
    obtain ⟨G, hG⟩ := choose_lt hch
    refine ⟨some a, (List.range l0).map G, c0, by simp, by simp; omega, ?_, ?_⟩
    · intro j hj
      have hj' : j < l0 := by simpa using hj
      have g1 := (hG j hj').1
      obtain ⟨_, _, hcell⟩ := World.cells?_some g1
      have q0 := hcell 0 (by omega)
      obtain ⟨b, off, spot⟩ := a
      have hspot : spot = none := by
        obtain ⟨_, _, hcell0⟩ := World.cells?_some (hG 0 (by omega)).1
        have q := hcell0 0 (by omega)
        simpa [Addr.add] using World.cell?_spot q
      subst hspot
      have ha : ∀ o i, ((⟨b, o, none⟩ : Addr).add i) = ⟨b, o + i, none⟩ := by intro o i; cases i <;> simp [Addr.add]
      simp only [ha] at q0
      refine ⟨b, off, rfl, ?_, ?_⟩
      · rcases Nat.lt_or_ge b w.heap.size with h | h
        · exact h
        · unfold World.cell? at q0
          rw [show w.heap[(⟨b, off + j * 1 + 0, none⟩ : Addr).block]? = none from Array.getElem?_eq_none h] at q0
          cases q0
      · simpa using q0
    · intro A hA
      obtain ⟨i, hi, rfl⟩ := List.mem_map.1 hA
      exact (hG i (by simpa using hi)).2
structure ValD where
  kind : Int
  til : Int
  text : ByteArray
  items : List ByteArray
def Asc (L : List ByteArray) : Prop := ∀ j (h : j + 1 < L.length), Op.bytesLess L[j].toList L[j + 1].toList = true
def AscF (L : List ByteArray) : Prop := ∀ j (h : j + 2 < L.length), j % 2 = 0 → Op.bytesLess L[j].toList L[j + 2].toList = true
def Small (L : List ByteArray) : Prop := ∀ s ∈ L, s.size ≤ 60
def TextsR (L : List ByteArray) : Prop := 1 ≤ L.length ∧ L.length ≤ 24 ∧ Small L
def KindR (v : ValD) : Prop := (v.kind = 1 ∧ v.items.length = 0 ∧ v.text.size ≤ 60) ∨
  (v.kind = 2 ∧ v.text.size = 0 ∧ TextsR v.items) ∨ (v.kind = 3 ∧ v.text.size = 0 ∧ TextsR v.items ∧ v.items.length % 2 = 0 ∧ AscF v.items) ∨ (v.kind = 4 ∧ v.text.size = 0 ∧ TextsR v.items ∧ Asc v.items)
def ValR (v : ValD) : Prop := 0 ≤ v.til ∧ v.til ≤ 100000 ∧ KindR v
def evN (L : List ByteArray) (k : Nat) : List ByteArray := (List.range k).map (fun j => L.getD (2 * j) ⟨#[]⟩)
theorem evN_length (L : List ByteArray) (k : Nat) : (evN L k).length = k := by simp [evN]
theorem evN_get (L : List ByteArray) (k j : Nat) (h : j < (evN L k).length) (h2 : 2 * j < L.length) : (evN L k)[j] = L[2 * j] := by
  simp [evN, List.getD, List.getElem?_eq_getElem h2]
theorem evN_succ (L : List ByteArray) (k : Nat) (h : 2 * k < L.length) : evN L (k + 1) = evN L k ++ [L[2 * k]] := by
  simp [evN, List.range_succ, List.getD, List.getElem?_eq_getElem h]
theorem evN_asc (L : List ByteArray) : Asc (evN L ((L.length + 1) / 2)) ↔ AscF L := by
  constructor
  · intro h j hj h2
    have hl := evN_length L ((L.length + 1) / 2)
    have := h (j / 2) (by omega)
    rw [evN_get L _ _ _ (by omega), evN_get L _ _ _ (by omega)] at this
    have e1 : 2 * (j / 2) = j := by omega
    have e2 : 2 * (j / 2 + 1) = j + 2 := by omega
    simp only [e1, e2] at this
    exact this
  · intro h j hj
    have hl := evN_length L ((L.length + 1) / 2)
    rw [evN_get L _ _ _ (by omega), evN_get L _ _ _ (by omega)]
    exact h (2 * j) (by omega) (by omega)
end Go.Proofs.Ytfgammkmkhfbpaa
