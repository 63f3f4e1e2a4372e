import Derived.WalkKit
import Derived.WalkSpells
import Derived.WalkLawsBesides
import Derived.Outline
import Derived.Laws.IdiomStrings
import Derived.Deep.AppendLies
import Derived.Deep.RegionHeld3
import Derived.BigQuiet
import Derived.WalkSmall
import Derived.Test.YtbenmgokhklnjaaChecked
import Derived.Laws.MakeOwn
import Derived.Laws.Bits128
set_option maxRecDepth 100000
set_option maxHeartbeats 1000000
namespace Go.Proofs.Ytbenmgokhklnjaa
open Go.RowKit
theorem hide {p : Prop} (h : p) : Hid p := h
def bv (b : UInt8) : Value := .int .u8 (b.toNat : Int)
theorem bv_one (l : List UInt8) : ∀ u ∈ l.map bv, u.oneCell' = true := by
  intro u hu
  obtain ⟨b, _, rfl⟩ := List.mem_map.1 hu
  rfl
theorem cells_new (w : World) (C : Array Value) (t : TypeId) : ∀ j u, C.toList[j]? = some u → (w.alloc (.cells C t)).cell? ((⟨w.heap.size, 0, none⟩ : Addr).add j) = some u := by
  intro j u h
  simp only [Array.getElem?_toList] at h
  have e : ((⟨w.heap.size, 0, none⟩ : Addr).add j) = ⟨w.heap.size, j, none⟩ := by cases j <;> simp [Addr.add]
  rw [e]
  exact (World.cell?_alloc_mark w C t (0, 0) j).trans h
theorem grownBy_trans {a b c : World} {r : Option Nat} (h : a.grownBy b r) (k : b.grownBy c r) : a.grownBy c r :=
  ⟨k.os.trans h.os, k.tape.trans h.tape, k.output.trans h.output, Nat.le_trans h.size k.size, fun i hi hr => (k.block i (Nat.lt_of_lt_of_le hi h.size) hr).trans (h.block i hi hr)⟩
theorem grownBy_below {a b : World} (r : Option Nat) (h : Below a.heap.size a b) : a.grownBy b r := ⟨h.os, h.tape, h.output, h.size, fun k hk _ => h.block k hk⟩
theorem grownBy_store {a b : World} {g : Nat} (h : a.grownBy b (some g)) (j : Nat) (u : Value) : a.grownBy (b.setCell ⟨g, j, none⟩ u) (some g) :=
  ⟨h.os, h.tape, h.output, by have := h.size; simpa [World.setCell] using this, fun k hk hne => (Below.heap_setCell _ _ _ _ (by intro e; exact hne (by rw [e]))).trans (h.block k hk hne)⟩
theorem ownsRow_below {w w' : World} {B : Nat} {e : TypeId} {size : Nat} {v : Value} {n : Nat} {xs : List Value} (h : w.ownsRow B e size v n xs) (hb : Below w.heap.size w w') : w'.ownsRow B e size v n xs :=
  h.kept (grownBy_below none hb) (by cases hv : v.ownBlock with | none => exact .inl rfl | some k => exact .inr (by simp))
theorem ownsRow_mono {w : World} {B B' : Nat} {e : TypeId} {size : Nat} {v : Value} {n : Nat} {xs : List Value} (h : w.ownsRow B e size v n xs) (hB : B' ≤ B) : w.ownsRow B' e size v n xs := by
  refine ⟨h.1, ?_⟩
  rcases h.2 with h | ⟨g, cap, cur, hv, hb, r⟩
  · exact .inl h
  · exact .inr ⟨g, cap, cur, hv, by omega, r⟩
theorem drewN_below (w : World) (q : Nat) : Below w.heap.size w (w.drewN q) := below_drewN (Below.refl _ _) q
theorem cat_list (a b : List UInt8) : (⟨a.toArray⟩ : ByteArray) ++ ⟨b.toArray⟩ = ⟨(a ++ b).toArray⟩ := by
  apply ByteArray.ext
  simp
theorem slice_form {w : World} {B : Nat} {e : TypeId} {size : Nat} {v : Value} {n : Nat} {xs : List Value} (h : w.ownsRow B e size v n xs) : ∃ a c, v = .slice a n c := by
  rcases h.2 with ⟨rfl, rfl⟩ | ⟨g, cap, cur, rfl, _⟩
  · exact ⟨none, 0, rfl⟩
  · exact ⟨_, cap, rfl⟩
section
variable {P : Program}
theorem conv_own (ts te tx : TypeId) (hts : P.underlying ts = some (.slice te)) (hte : P.underlying te = some (.int .u8)) (htx : P.underlying tx = some .string)
    (w : World) (base : Nat) (v : Value) (l : List UInt8) (h : w.ownsRow base te 1 v l.length (l.map bv)) :
    (convert ts tx v).run P w = .ok (.string ⟨l.toArray⟩) w := by
  rcases h.2 with ⟨hv, hn⟩ | ⟨g, cap, cur, hv, hg, hh, hn, hm, hs, ht⟩
  · have hl := List.eq_nil_of_length_eq_zero hn
    subst hv hl
    rw [run_convert_bytes_string w ts tx te none 0 0 hts hte htx]
    rfl
  · subst hv
    refine run_convert_bytes_back w ts tx te ⟨g, 0, none⟩ cap l hts hte htx ?_
    intro j hj
    have := h.cells (g := g) rfl j (bv l[j]) (by simp [hj])
    exact this
theorem app_bytes {ops : Array Oper} {rest : List Oper} {o : Oper} {a : Act} {Q : Exit → Act → World → Prop} {C : Array Value} (wr : World) (ts te : TypeId) (hts : P.underlying ts = some (.slice te))
    (hinfo : (P.info? te).map (fun i => (i.zero, i.size, i.bytes)) = some (some (.int .u8 0), 1, 1)) (w : World) (B : Nat) (hgd : o.guard = none) (s x : Operand)
    (ho : o.op = .call { callee := .builtin .append, args := #[s, x], argTypes := #[ts, ts] }) (v : Value) (l news : List UInt8) (hs : a.eval s = v)
    (hown : wr.ownsRow B te 1 v l.length (l.map bv)) (hx : a.eval x = .slice (some ⟨wr.heap.size, 0, none⟩) news.length news.length) (hC : C.toList = news.map bv)
    (hlen : l.length + news.length ≤ 70368744177664) (hbel : Below B w wr) (hbase : B ≤ wr.heap.size)
    (h : ∀ v' w', w'.ownsRow B te 1 v' (l ++ news).length ((l ++ news).map bv) → Below B w w' → wr.heap.size ≤ w'.heap.size → wpList P ops Q rest (a.put o.dst v') w') :
    wpList P ops Q (o :: rest) a (wr.alloc (.cells C te)) := by
  obtain ⟨i0, hi, hz0, hz1, hz2⟩ := info_parts hinfo
  have hsz : wr.heap.size ≤ (wr.alloc (.cells C te)).heap.size := by simp
  refine wpList_append_own _ hgd s x ts ho B te i0 (.int .u8 0) 1 1 hts hi hz0 hz1 hz2 rfl (by decide) v l.length (l.map bv) hs (hown.alloc _) ⟨wr.heap.size, 0, none⟩ news.length news.length (news.map bv) hx (by simp)
    (fun j u hj => cells_new wr C te j u (by rw [hC]; exact hj)) (bv_one news) (by unfold maxLen; omega) (by omega) (by omega) ?_
  intro v' w' hown' hgrow _
  have hlt := hown.lt
  have hb1 : Below B w (wr.alloc (.cells C te)) := hbel.alloc hbase _
  refine h v' w' ?_ (hb1.grown hgrow (by omega) (fun k hk => (hlt k hk).1)) (Nat.le_trans hsz hgrow.size)
  rw [List.length_append, List.map_append]
  exact hown'
end
end Go.Proofs.Ytbenmgokhklnjaa
namespace Go.Proofs.Ytbenmgokhklnjaa
namespace Wd
def bt (s : ByteArray) (p : Nat) : Nat := if h : p < s.size then (s[p]'h).toNat else 0
theorem bt_eq (s : ByteArray) (p : Nat) (h : p < s.size) : (s[p]'h).toNat = bt s p := by simp [bt, h]
theorem bt_lt (s : ByteArray) (p : Nat) : bt s p < 256 := by unfold bt; split; exact UInt8.toNat_lt _; omega
def varF : Nat → Nat → List UInt8
  | 0, _ => []
  | f + 1, n => if n < 128 then [UInt8.ofNat n] else UInt8.ofNat (n % 128 + 128) :: varF f (n / 128)
theorem varF_low (f n : Nat) (h : n < 128) : varF (f + 1) n = [UInt8.ofNat n] := by simp [varF, h]
theorem varF_high (f n : Nat) (h : ¬ n < 128) : varF (f + 1) n = UInt8.ofNat (n % 128 + 128) :: varF f (n / 128) := by simp [varF, h]
theorem div_lt_pow (f m : Nat) (h : m < 128 ^ (f + 1)) : m / 128 < 128 ^ f := by
  rw [Nat.pow_succ] at h; exact Nat.div_lt_of_lt_mul (by rw [Nat.mul_comm]; exact h)
def rvF (s : ByteArray) : Nat → Nat → Nat → Nat → Nat → Option (Nat × Nat)
  | 0, _, _, _, _ => none
  | f + 1, p, k, q, n =>
    if p < s.size then
      (if bt s p < 128 then (if n + bt s p % 128 * q ≤ 1000000000 ∧ (0 < bt s p ∨ k = 0) then some (n + bt s p % 128 * q, p + 1) else none)
       else rvF s f (p + 1) (k + 1) (q * 128) (n + bt s p % 128 * q))
    else none
theorem rvF_end (s : ByteArray) (f p k q n : Nat) (h : ¬ p < s.size) : rvF s f p k q n = none := by
  cases f <;> simp [rvF, h]
theorem rvF_more (s : ByteArray) (f p k q n : Nat) (h : p < s.size) (hb : ¬ bt s p < 128) : rvF s (f + 1) p k q n = rvF s f (p + 1) (k + 1) (q * 128) (n + bt s p % 128 * q) := by
  simp [rvF, h, hb]
theorem rvF_last (s : ByteArray) (f p k q n : Nat) (h : p < s.size) (hb : bt s p < 128) (hn : n + bt s p % 128 * q ≤ 1000000000) (hk : 0 < bt s p ∨ k = 0) : rvF s (f + 1) p k q n = some (n + bt s p % 128 * q, p + 1) := by
  simp only [rvF, if_pos h, if_pos hb, if_pos (And.intro hn hk)]
theorem rvF_not (s : ByteArray) (f p k q n : Nat) (hb : bt s p < 128) (hn : ¬ (n + bt s p % 128 * q ≤ 1000000000 ∧ (0 < bt s p ∨ k = 0))) : rvF s (f + 1) p k q n = none := by
  by_cases h : p < s.size
  · simp only [rvF, if_pos h, if_pos hb, if_neg hn]
  · exact rvF_end _ _ _ _ _ _ h
theorem rvF_moreB {s : ByteArray} {f p k q n b : Nat} (hB : bt s p = b) (h : p < s.size) (hb : ¬ b < 128) : rvF s (f + 1) p k q n = rvF s f (p + 1) (k + 1) (q * 128) (n + b % 128 * q) := by
  subst hB; exact rvF_more s f p k q n h hb
theorem rvF_lastB {s : ByteArray} {f p k q n b : Nat} (hB : bt s p = b) (h : p < s.size) (hb : b < 128) (hn : n + b % 128 * q ≤ 1000000000) (hk : 0 < b ∨ k = 0) : rvF s (f + 1) p k q n = some (n + b % 128 * q, p + 1) := by
  subst hB; exact rvF_last s f p k q n h hb hn hk
theorem rvF_notB {s : ByteArray} {f p k q n b : Nat} (hB : bt s p = b) (hb : b < 128) (hn : ¬ (n + b % 128 * q ≤ 1000000000 ∧ (0 < b ∨ k = 0))) : rvF s (f + 1) p k q n = none := by
  subst hB; exact rvF_not s f p k q n hb hn
def rv (s : ByteArray) (i : Nat) : Option (Nat × Nat) := rvF s 5 i 0 1 0
def valF (s : ByteArray) : Nat → Nat → Nat
  | _, 0 => 0
  | i, k + 1 => bt s i % 128 + 128 * valF s (i + 1) k
def subF (s : ByteArray) : Nat → Nat → List UInt8
  | _, 0 => []
  | i, k + 1 => UInt8.ofNat (bt s i) :: subF s (i + 1) k
theorem subF_length (s : ByteArray) : ∀ k i, (subF s i k).length = k
  | 0, _ => rfl
  | k + 1, i => by simp [subF, subF_length s k (i + 1)]
theorem valF_snoc (s : ByteArray) : ∀ k i, valF s i (k + 1) = valF s i k + bt s (i + k) % 128 * 128 ^ k
  | 0, i => by simp [valF]
  | k + 1, i => by
    rw [valF, valF_snoc s k (i + 1), valF, Nat.pow_succ, show i + 1 + k = i + (k + 1) from by omega, Nat.mul_add, ← Nat.mul_assoc, Nat.mul_comm 128 (bt s (i + (k + 1)) % 128), Nat.mul_assoc, Nat.mul_comm 128 (128 ^ k), Nat.add_assoc]
theorem valF_zero (s : ByteArray) (k i : Nat) (h : valF s i (k + 1) = 0) : bt s (i + k) % 128 = 0 := by
  rw [valF_snoc] at h
  have h1 : bt s (i + k) % 128 * 128 ^ k = 0 := by omega
  rcases Nat.mul_eq_zero.1 h1 with h2 | h2
  · exact h2
  · have := Nat.pow_pos (n := k) (show 0 < 128 by omega); omega
theorem canonF (s : ByteArray) : ∀ k i f, (∀ j, j < k → 128 ≤ bt s (i + j)) → bt s (i + k) < 128 → k < f → (varF f (valF s i (k + 1)) = subF s i (k + 1) ↔ (0 < bt s (i + k) ∨ k = 0))
  | 0, i, f, _, hb, hf => by
    obtain ⟨g, rfl⟩ : ∃ g, f = g + 1 := ⟨f - 1, by omega⟩
    have hb' : bt s i < 128 := hb
    have hv : valF s i (0 + 1) = bt s i := by simp [valF]; omega
    rw [hv, varF_low g _ hb']
    simp [subF]
  | k + 1, i, f, hj, hb, hf => by
    obtain ⟨g, rfl⟩ : ∃ g, f = g + 1 := ⟨f - 1, by omega⟩
    have hc : 128 ≤ bt s i := hj 0 (by omega)
    have hc2 := bt_lt s i
    have ih := canonF s k (i + 1) g (fun j hjk => by have := hj (j + 1) (by omega); rw [show i + 1 + j = i + (j + 1) from by omega]; exact this) (by rw [show i + 1 + k = i + (k + 1) from by omega]; exact hb) (by omega)
    rw [show i + 1 + k = i + (k + 1) from by omega] at ih
    have hv : valF s i (k + 1 + 1) = bt s i % 128 + 128 * valF s (i + 1) (k + 1) := rfl
    have hs : subF s i (k + 1 + 1) = UInt8.ofNat (bt s i) :: subF s (i + 1) (k + 1) := rfl
    rw [hv, hs]
    by_cases hV : valF s (i + 1) (k + 1) = 0
    · have hz := valF_zero s k (i + 1) hV
      rw [show i + 1 + k = i + (k + 1) from by omega] at hz
      rw [varF_low g _ (by omega)]
      constructor
      · intro h
        have := congrArg List.length h
        simp [subF_length] at this
      · intro h; omega
    · rw [varF_high g _ (by omega), show (bt s i % 128 + 128 * valF s (i + 1) (k + 1)) % 128 + 128 = bt s i from by omega, show (bt s i % 128 + 128 * valF s (i + 1) (k + 1)) / 128 = valF s (i + 1) (k + 1) from by omega]
      constructor
      · intro h
        have h2 := ih.1 (List.cons.inj h).2
        rcases h2 with h2 | h2
        · exact .inl h2
        · subst h2
          have e : valF s (i + 1) (0 + 1) = bt s (i + 1) % 128 := by simp [valF]
          rw [e] at hV
          left; show 0 < bt s (i + 1); omega
      · intro h
        rw [ih.2 (by omega)]
theorem subF_extract (s : ByteArray) (i k : Nat) (h : i + k ≤ s.size) : (s.extract i (i + k)).data.toList = subF s i k := by
  apply List.ext_getElem
  · simp [subF_length]
    have : s.data.size = s.size := rfl
    omega
  · intro n h1 h2
    rw [subF_length] at h2
    have key : ∀ k i n (hn : n < k) (hk : i + k ≤ s.size), (subF s i k)[n]'(by rw [subF_length]; exact hn) = s[i + n]'(by omega) := by
      intro k
      induction k with
      | zero => intro i n hn; omega
      | succ k ih =>
        intro i n hn hk
        cases n with
        | zero =>
          have := bt_eq s i (by omega)
          simp [subF, ← this]
        | succ n =>
          have := ih (i + 1) n (by omega) (by omega)
          simp only [subF, List.getElem_cons_succ, this]
          congr 1; omega
    rw [key k i n h2 h]
    simp
    rfl
def figI (x : Int) : Int := if x < 10 then 48 + x else 87 + x
def figB (x : Nat) : UInt8 := UInt8.ofNat (figI x).toNat
def decA : Nat → Nat → List UInt8 → List UInt8
  | 0, _, acc => acc
  | f + 1, n, acc => if n = 0 then acc else decA f (n / 10) (figB (n % 10) :: acc)
end Wd
end Go.Proofs.Ytbenmgokhklnjaa
namespace Go.Proofs.Ytbenmgokhklnjaa
open Go.RowKit
theorem Try.info5 : (Try.prog.info? 5).map (fun i => (i.zero, i.size, i.bytes)) = some (some (.int .u8 0), 1, 1) := by kernel_rfl
theorem Try.cells5 : Try.prog.cellsOf 5 = 1 := by kernel_rfl
theorem l01In_any (x a b : Int) (w : World) : Calls Try.prog 34 #[.int .i64 x, .int .i64 a, .int .i64 b] w fun e w' => e = .returned (.bool (decide (a ≤ x) && decide (x ≤ b))) ∧ w' = w := by
  by_cases h : a ≤ x
  · have h' : decide (a ≤ x) = true := by simp; omega
    rw [h', Bool.true_and]
    go_enter Try.func34, Try.ntmps34
    go_wp2
    go_ret
    exact ⟨rfl, rfl⟩
  · have h' : decide (a ≤ x) = false := by simp; omega
    rw [h', Bool.false_and]
    go_enter Try.func34, Try.ntmps34
    go_wp2
    go_ret
    exact ⟨rfl, rfl⟩
theorem l01In_val (x a b : Int) (c : Bool) (w : World) (h : (decide (a ≤ x) && decide (x ≤ b)) = c) : Calls Try.prog 34 #[.int .i64 x, .int .i64 a, .int .i64 b] w fun e w' => e = .returned (.bool c) ∧ w' = w := h ▸ l01In_any x a b w
def TextsAt (w : World) (ao : Option Addr) (ts : List ByteArray) : Prop := ∀ j (h : j < ts.length), ∃ b off : Nat, ao = some ⟨b, off, none⟩ ∧ b < w.heap.size ∧ w.cell? ⟨b, off + j, none⟩ = some (.string ts[j])
theorem textsAt_keep {w w' : World} {ao : Option Addr} {ts : List ByteArray} (h : TextsAt w ao ts) (hb : Below w.heap.size w w') : TextsAt w' ao ts := by
  intro j hj
  obtain ⟨b, off, h1, h2, h3⟩ := h j hj
  exact ⟨b, off, h1, Nat.lt_of_lt_of_le h2 hb.size, (hb.cell (p := ⟨b, off + j, none⟩) h2).trans h3⟩
def TextsIn (C : Array Value) (ts : List ByteArray) (k : Nat) : Prop := ∀ j (h : j < ts.length), j < k → C[j]? = some (.string ts[j])
theorem textsAt_in {w : World} {g : Nat} {C : Array Value} {t : TypeId} {ts : List ByteArray} (h : w.heap[g]? = some (.cells C t (0, 0))) (hC : TextsIn C ts ts.length) : TextsAt w (some ⟨g, 0, none⟩) ts := by
  intro j hj
  refine ⟨g, 0, rfl, (Array.getElem?_eq_some_iff.1 h).1, ?_⟩
  rw [Nat.zero_add, cell_of_row w g _ C t (0, 0) h]
  exact hC j hj hj
def RowText (w : World) (B : Nat) (v : Value) (ts : List ByteArray) : Prop := (v = .slice none 0 0 ∧ ts = []) ∨
  ∃ (g cap : Nat) (C : Array Value), v = .slice (some ⟨g, 0, none⟩) ts.length cap ∧ B ≤ g ∧ w.heap[g]? = some (.cells C 9 (0, 0)) ∧ ts.length ≤ C.size ∧ TextsIn C ts ts.length
theorem rowText_at {w : World} {B : Nat} {v : Value} {ts : List ByteArray} (h : RowText w B v ts) : ∃ ao cap, v = .slice ao ts.length cap ∧ TextsAt w ao ts := by
  rcases h with ⟨rfl, rfl⟩ | ⟨g, cap, C, rfl, _, hC, _, hI⟩
  · exact ⟨none, 0, rfl, fun j hj => absurd hj (by simp)⟩
  · exact ⟨_, cap, rfl, textsAt_in hC hI⟩
theorem rowText_lt {w : World} {B : Nat} {v : Value} {ts : List ByteArray} (h : RowText w B v ts) : ∀ g, v.ownBlock = some g → B ≤ g ∧ g < w.heap.size := by
  rcases h with ⟨rfl, rfl⟩ | ⟨g, cap, C, rfl, hB, hC, _, hI⟩
  · intro g h; cases h
  · intro g' h
    obtain rfl : g = g' := by simpa [Value.ownBlock] using h
    exact ⟨hB, (Array.getElem?_eq_some_iff.1 hC).1⟩
theorem rowText_keep {w w' : World} {B : Nat} {v : Value} {ts : List ByteArray} (h : RowText w B v ts) (hk : ∀ g, v.ownBlock = some g → w'.heap[g]? = w.heap[g]?) : RowText w' B v ts := by
  rcases h with ⟨rfl, rfl⟩ | ⟨g, cap, C, rfl, hB, hC, hs, hI⟩
  · exact .inl ⟨rfl, rfl⟩
  · exact .inr ⟨g, cap, C, rfl, hB, (hk g rfl).trans hC, hs, hI⟩
theorem rowText_below {w w' : World} {B : Nat} {v : Value} {ts : List ByteArray} (h : RowText w B v ts) (hb : Below w.heap.size w w') : RowText w' B v ts :=
  rowText_keep h (fun g hg => hb.block g (rowText_lt h g hg).2)
theorem rowText_le {w : World} {B B' : Nat} {v : Value} {ts : List ByteArray} (h : RowText w B v ts) (hB : B' ≤ B) : RowText w B' v ts := by
  rcases h with h | ⟨g, cap, C, h1, h2, h3⟩
  · exact .inl h
  · exact .inr ⟨g, cap, C, h1, by omega, h3⟩
theorem rowText_rows {w : World} {B n c : Nat} {a : Option Addr} {ts : List ByteArray} (h : RowText w B (.slice a n c) ts) : TextsAt w a ts := by
  obtain ⟨ao, cap, e, hf⟩ := rowText_at h
  cases e
  exact hf
theorem take_getText {C : Array Value} {xs : List Value} {n : Nat} (h : C.toList.take n = xs) {j : Nat} {u : Value} (hj : j < n) (hu : xs[j]? = some u) : C[j]? = some u := by
  rw [← h, List.getElem?_take_of_lt hj] at hu
  simpa using hu
theorem rowText_own {w : World} {B : Nat} {v : Value} {ts : List ByteArray} (h : w.ownsRow B 9 1 v ts.length (ts.map Value.string)) : RowText w B v ts := by
  rcases h.2 with ⟨rfl, hn⟩ | ⟨g, cap, cur, rfl, hB, hC, hle, _, hs, ht⟩
  · exact .inl ⟨rfl, List.eq_nil_of_length_eq_zero hn⟩
  · refine .inr ⟨g, cap, cur, rfl, hB, hC, by omega, ?_⟩
    intro j hj _
    exact take_getText ht (by omega) (by simp [hj])
theorem Try.infoText : (Try.prog.info? 9).map (fun i => (i.zero, i.size, i.bytes)) = some (some (.string ⟨#[]⟩), 1, 16) := by kernel_rfl
theorem texts_one (ts : List ByteArray) : ∀ u ∈ ts.map Value.string, u.oneCell' = true := by
  intro u hu
  obtain ⟨b, _, rfl⟩ := List.mem_map.1 hu
  rfl
theorem app_txt {ops : Array Oper} {rest : List Oper} {o : Oper} {a : Act} {Q : Exit → Act → World → Prop} (W : World) (B : Nat) (hgd : o.guard = none) (s y : Operand)
    (ho : o.op = .call { callee := .builtin .append, args := #[s, y], argTypes := #[24, 24] }) (v : Value) (l : List ByteArray) (F : ByteArray) (hs : a.eval s = v)
    (hown : W.ownsRow B 9 1 v l.length (l.map Value.string)) (k : Nat) (hx : a.eval y = .slice (some ⟨k, 0, none⟩) 1 1) (hblk : W.heap[k]? = some (.cells #[.string F] 9 (0, 0)))
    (hlen : l.length ≤ 1048576) (hbase : B ≤ W.heap.size)
    (h : ∀ g cap w', w'.ownsRow B 9 1 (.slice (some ⟨g, 0, none⟩) (l.length + 1) cap) (l ++ [F]).length ((l ++ [F]).map Value.string) → Below B W w' → W.grownBy w' v.ownBlock → B ≤ g → g < w'.heap.size → wpList Try.prog ops Q rest (a.put o.dst (.slice (some ⟨g, 0, none⟩) (l.length + 1) cap)) w') :
    wpList Try.prog ops Q (o :: rest) a W := by
  obtain ⟨i0, hi, hz0, hz1, hz2⟩ := info_parts Try.infoText
  refine wpList_append_lies W hgd s y 24 ho B 9 i0 (.string ⟨#[]⟩) 1 16 Try.underlying24 hi hz0 hz1 hz2 rfl (by decide) v l.length (l.map Value.string) hs hown ⟨k, 0, none⟩ 1 1 ([F].map Value.string) hx rfl
    (fun j u hj => World.news_of_block hblk j u hj) (texts_one [F]) (by omega) (by unfold maxLen; omega) (by omega) hbase W.heap.size rfl ?_
  intro g cap w' hown' hgrow hg hgl
  have hlt := hown.lt
  refine h g cap w' ?_ ((Below.refl B W).grown hgrow hbase (fun k hk => (hlt k hk).1)) hgrow ?_ hgl
  · rw [List.map_append, List.length_append]
    exact hown'
  · rcases hg with hg | rfl
    · exact (hlt g hg).1
    · exact hbase
theorem step_app_txt {ops : Array Oper} {o : Oper} {a : Act} {K : Act → World → Prop} {Q : Exit → Act → World → Prop} {E : Prop} (W : World) (B : Nat) (hgd : o.guard = none) (s y : Operand)
    (ho : o.op = .call { callee := .builtin .append, args := #[s, y], argTypes := #[24, 24] }) (v : Value) (l : List ByteArray) (F : ByteArray) (hs : a.eval s = v)
    (hown : W.ownsRow B 9 1 v l.length (l.map Value.string)) (k : Nat) (hx : a.eval y = .slice (some ⟨k, 0, none⟩) 1 1) (hblk : W.heap[k]? = some (.cells #[.string F] 9 (0, 0)))
    (hlen : l.length ≤ 1048576) (hbase : B ≤ W.heap.size)
    (h : ∀ g cap w', w'.ownsRow B 9 1 (.slice (some ⟨g, 0, none⟩) (l.length + 1) cap) (l ++ [F]).length ((l ++ [F]).map Value.string) → Below B W w' → W.grownBy w' v.ownBlock → B ≤ g → g < w'.heap.size → K (a.put o.dst (.slice (some ⟨g, 0, none⟩) (l.length + 1) cap)) w') :
    if Region.wanted o (yielded ops a.tmps) = true then Oper.wp Try.prog o a W K Q else E := by
  obtain ⟨i0, hi, hz0, hz1, hz2⟩ := info_parts Try.infoText
  refine step_append_lies W hgd s y 24 ho B 9 i0 (.string ⟨#[]⟩) 1 16 Try.underlying24 hi hz0 hz1 hz2 rfl (by decide) v l.length (l.map Value.string) hs hown ⟨k, 0, none⟩ 1 1 ([F].map Value.string) hx rfl
    (fun j u hj => World.news_of_block hblk j u hj) (texts_one [F]) (by omega) (by unfold maxLen; omega) (by omega) hbase W.heap.size rfl ?_
  intro g cap w' hown' hgrow hg hgl
  have hlt := hown.lt
  refine h g cap w' ?_ ((Below.refl B W).grown hgrow hbase (fun k hk => (hlt k hk).1)) hgrow ?_ hgl
  · rw [List.map_append, List.length_append]
    exact hown'
  · rcases hg with hg | rfl
    · exact (hlt g hg).1
    · exact hbase
structure ValD where
  kind : Int
  til : Int
  text : ByteArray
  items : List ByteArray
def Asc (L : List ByteArray) : Prop := ∀ j (h : j + 1 < L.length), Op.bytesLess L[j].toList L[j + 1].toList = true
def AscF (L : List ByteArray) : Prop := ∀ j (h : j + 2 < L.length), j % 2 = 0 → Op.bytesLess L[j].toList L[j + 2].toList = true
def Small (L : List ByteArray) : Prop := ∀ s ∈ L, s.size ≤ 60
def TextsR (L : List ByteArray) : Prop := 1 ≤ L.length ∧ L.length ≤ 24 ∧ Small L
def KindR (v : ValD) : Prop := (v.kind = 1 ∧ v.items.length = 0 ∧ v.text.size ≤ 60) ∨
  (v.kind = 2 ∧ v.text.size = 0 ∧ TextsR v.items) ∨ (v.kind = 3 ∧ v.text.size = 0 ∧ TextsR v.items ∧ v.items.length % 2 = 0 ∧ AscF v.items) ∨ (v.kind = 4 ∧ v.text.size = 0 ∧ TextsR v.items ∧ Asc v.items)
def ValR (v : ValD) : Prop := 0 ≤ v.til ∧ v.til ≤ 100000 ∧ KindR v
def evN (L : List ByteArray) (k : Nat) : List ByteArray := (List.range k).map (fun j => L.getD (2 * j) ⟨#[]⟩)
theorem evN_length (L : List ByteArray) (k : Nat) : (evN L k).length = k := by simp [evN]
theorem evN_get (L : List ByteArray) (k j : Nat) (h : j < (evN L k).length) (h2 : 2 * j < L.length) : (evN L k)[j] = L[2 * j] := by
  simp [evN, List.getD, List.getElem?_eq_getElem h2]
theorem evN_succ (L : List ByteArray) (k : Nat) (h : 2 * k < L.length) : evN L (k + 1) = evN L k ++ [L[2 * k]] := by
  simp [evN, List.range_succ, List.getD, List.getElem?_eq_getElem h]
theorem evN_asc (L : List ByteArray) : Asc (evN L ((L.length + 1) / 2)) ↔ AscF L := by
  constructor
  · intro h j hj h2
    have hl := evN_length L ((L.length + 1) / 2)
    have := h (j / 2) (by omega)
    rw [evN_get L _ _ _ (by omega), evN_get L _ _ _ (by omega)] at this
    have e1 : 2 * (j / 2) = j := by omega
    have e2 : 2 * (j / 2 + 1) = j + 2 := by omega
    simp only [e1, e2] at this
    exact this
  · intro h j hj
    have hl := evN_length L ((L.length + 1) / 2)
    rw [evN_get L _ _ _ (by omega), evN_get L _ _ _ (by omega)]
    exact h (2 * j) (by omega) (by omega)
def nmD : Nat → ByteArray
  | 0 => ⟨#[102]⟩
  | 1 => ⟨#[103]⟩
  | 2 => ⟨#[104]⟩
  | _ => ⟨#[105]⟩
theorem nmD_size (i : Nat) : (nmD i).size = 1 := by
  unfold nmD
  split <;> rfl
theorem nmD_less (i j : Nat) (hij : i < j) (hj : j < 4) : Op.bytesLess (nmD i).toList (nmD j).toList = true := by
  rw [ByteArray.toList_eq, ByteArray.toList_eq]
  have : (i = 0 ∧ j = 1) ∨ (i = 0 ∧ j = 2) ∨ (i = 0 ∧ j = 3) ∨ (i = 1 ∧ j = 2) ∨ (i = 1 ∧ j = 3) ∨ (i = 2 ∧ j = 3) := by omega
  rcases this with ⟨rfl, rfl⟩ | ⟨rfl, rfl⟩ | ⟨rfl, rfl⟩ | ⟨rfl, rfl⟩ | ⟨rfl, rfl⟩ | ⟨rfl, rfl⟩ <;> rfl
def SetR (i : Nat) (acc : List ByteArray) : Prop := i ≤ 4 ∧ acc.length ≤ i ∧ (0 < i → 0 < acc.length) ∧ Small acc ∧ Asc acc ∧ ∀ x ∈ acc, ∃ m, m < i ∧ x = nmD m
def FldR (i : Nat) (acc : List ByteArray) : Prop := i ≤ 4 ∧ acc.length ≤ 2 * i ∧ acc.length % 2 = 0 ∧ (0 < i → 0 < acc.length) ∧ Small acc ∧ AscF acc ∧ ∀ j (h : j < acc.length), j % 2 = 0 → ∃ m, m < i ∧ acc[j] = nmD m
theorem setR_zero : SetR 0 [] := ⟨by omega, by simp, fun h => absurd h (by omega), fun s hs => absurd hs List.not_mem_nil, fun j h => absurd h (by simp), fun x hx => absurd hx List.not_mem_nil⟩
theorem fldR_zero : FldR 0 [] := ⟨by omega, by simp, by simp, fun h => absurd h (by omega), fun s hs => absurd hs List.not_mem_nil, fun j h => absurd h (by simp), fun j h => absurd h (by simp)⟩
theorem setR_skip {i : Nat} {acc : List ByteArray} (h : SetR i acc) (h0 : 0 < i) (hi : i < 4) : SetR (i + 1) acc := by
  obtain ⟨h1, h2, h3, h4, h5, h6⟩ := h
  exact ⟨by omega, by omega, fun _ => h3 h0, h4, h5, fun x hx => by obtain ⟨m, hm, e⟩ := h6 x hx; exact ⟨m, by omega, e⟩⟩
theorem fldR_skip {i : Nat} {acc : List ByteArray} (h : FldR i acc) (h0 : 0 < i) (hi : i < 4) : FldR (i + 1) acc := by
  obtain ⟨h1, h2, h3, h4, h5, h6, h7⟩ := h
  exact ⟨by omega, by omega, h3, fun _ => h4 h0, h5, h6, fun j hj he => by obtain ⟨m, hm, e⟩ := h7 j hj he; exact ⟨m, by omega, e⟩⟩
theorem setR_put {i : Nat} {acc : List ByteArray} (h : SetR i acc) (hi : i < 4) : SetR (i + 1) (acc ++ [nmD i]) := by
  obtain ⟨h1, h2, h3, h4, h5, h6⟩ := h
  refine ⟨by omega, by simp; omega, fun _ => by simp, fun s hs => ?_, fun j hj => ?_, fun x hx => ?_⟩
  · rcases List.mem_append.1 hs with hs | hs
    · exact h4 s hs
    · obtain rfl : s = nmD i := by simpa using hs
      rw [nmD_size]; omega
  · simp only [List.length_append, List.length_cons, List.length_nil] at hj
    by_cases hl : j + 1 < acc.length
    · rw [List.getElem_append_left (by omega), List.getElem_append_left hl]
      exact h5 j hl
    · have e : j + 1 = acc.length := by omega
      rw [List.getElem_append_left (by omega), List.getElem_append_right (by omega)]
      simp only [e, Nat.sub_self, List.getElem_cons_zero]
      obtain ⟨m, hm, e2⟩ := h6 acc[j] (List.getElem_mem _)
      rw [e2]
      exact nmD_less m i hm hi
  · rcases List.mem_append.1 hx with hx | hx
    · obtain ⟨m, hm, e⟩ := h6 x hx
      exact ⟨m, by omega, e⟩
    · obtain rfl : x = nmD i := by simpa using hx
      exact ⟨i, by omega, rfl⟩
theorem fldR_put {i : Nat} {acc : List ByteArray} {y : ByteArray} (h : FldR i acc) (hi : i < 4) (hy : y.size ≤ 60) : FldR (i + 1) (acc ++ [nmD i] ++ [y]) := by
  obtain ⟨h1, h2, h3, h4, h5, h6, h7⟩ := h
  have e0 : acc ++ [nmD i] ++ [y] = acc ++ [nmD i, y] := by simp
  rw [e0]
  refine ⟨by omega, by simp; omega, by simp; omega, fun _ => by simp, fun s hs => ?_, fun j hj he => ?_, fun j hj he => ?_⟩
  · rcases List.mem_append.1 hs with hs | hs
    · exact h5 s hs
    · simp only [List.mem_cons, List.not_mem_nil, or_false] at hs
      rcases hs with rfl | rfl
      · rw [nmD_size]; omega
      · exact hy
  · simp only [List.length_append, List.length_cons, List.length_nil] at hj
    by_cases hl : j + 2 < acc.length
    · rw [List.getElem_append_left (by omega), List.getElem_append_left hl]
      exact h6 j hl he
    · have e : j + 2 = acc.length := by omega
      rw [List.getElem_append_left (by omega), List.getElem_append_right (by omega)]
      simp only [e, Nat.sub_self, List.getElem_cons_zero]
      obtain ⟨m, hm, e2⟩ := h7 j (by omega) he
      rw [e2]
      exact nmD_less m i hm hi
  · simp only [List.length_append, List.length_cons, List.length_nil] at hj
    by_cases hl : j < acc.length
    · rw [List.getElem_append_left hl]
      obtain ⟨m, hm, e⟩ := h7 j hl he
      exact ⟨m, by omega, e⟩
    · have e : j = acc.length := by omega
      rw [List.getElem_append_right (by omega)]
      simp only [e, Nat.sub_self, List.getElem_cons_zero]
      exact ⟨i, by omega, rfl⟩
theorem setR_end {u : Int} {acc : List ByteArray} (h : SetR 4 acc) (h0 : 0 ≤ u) (h1 : u ≤ 100000) : ValR ⟨4, u, ⟨#[]⟩, acc⟩ := by
  obtain ⟨-, g2, g3, g4, g5, -⟩ := h
  exact ⟨h0, h1, .inr (.inr (.inr ⟨rfl, rfl, ⟨g3 (by omega), by show acc.length ≤ 24; omega, g4⟩, g5⟩))⟩
theorem fldR_end {u : Int} {acc : List ByteArray} (h : FldR 4 acc) (h0 : 0 ≤ u) (h1 : u ≤ 100000) : ValR ⟨3, u, ⟨#[]⟩, acc⟩ := by
  obtain ⟨-, g2, g3, g4, g5, g6, -⟩ := h
  exact ⟨h0, h1, .inr (.inr (.inl ⟨rfl, rfl, ⟨g4 (by omega), by show acc.length ≤ 24; omega, g5⟩, g3, g6⟩))⟩
theorem listR_end {u : Int} {acc : List ByteArray} (hl : 1 ≤ acc.length) (hm : acc.length ≤ 24) (hs : Small acc) (h0 : 0 ≤ u) (h1 : u ≤ 100000) : ValR ⟨2, u, ⟨#[]⟩, acc⟩ :=
  ⟨h0, h1, .inr (.inl ⟨rfl, rfl, hl, hm, hs⟩)⟩
theorem textR_end {u : Int} {s : ByteArray} (hs : s.size ≤ 60) (h0 : 0 ≤ u) (h1 : u ≤ 100000) : ValR ⟨1, u, s, []⟩ :=
  ⟨h0, h1, .inl ⟨rfl, rfl, hs⟩⟩
theorem i64_and255 (n : Int) : bits .and .i64 n 255 = n % 256 := by
  have h255 : (BitVec.ofInt 64 255).toNat = 2 ^ 8 - 1 := by decide
  have key : (BitVec.ofInt 64 n &&& BitVec.ofInt 64 255).toNat = (n % ((2 ^ 64 : Nat) : Int)).toNat % 2 ^ 8 := by
    rw [BitVec.toNat_and, BitVec.toNat_ofInt, h255, Nat.and_two_pow_sub_one_eq_mod]
  show IntKind.i64.wrap ((BitVec.ofInt 64 n &&& BitVec.ofInt 64 255).toNat : Nat) = n % 256
  rw [key, IntKind.wrap_i64]
  omega
def Code (w0 : World) (ao : Option Addr) (len : Nat) : Prop := ∀ j, j < len → ∃ b off z : Nat, ao = some ⟨b, off, none⟩ ∧ b < w0.heap.size ∧ w0.cell? ⟨b, off + j, none⟩ = some (.int .u8 z) ∧ z < 256
def CurAt (w0 w : World) (g : Nat) (ao : Option Addr) (len cap : Nat) : Prop :=
  Below w0.heap.size w0 w ∧ w0.heap.size ≤ g ∧ ∃ (i : Nat) (h : Int) (T : TypeId), i ≤ len ∧ w.heap[g]? = some (.cells #[.slice ao len cap, .int .i64 i, .int .i64 h] T (0, 0))
theorem cur_cell {w : World} {g : Nat} {cs : Array Value} {T : TypeId} (h : w.heap[g]? = some (.cells cs T (0, 0))) (j : Nat) (v : Value) (hj : cs[j]? = some v) : w.cell? ⟨g, j, none⟩ = some v := by
  rw [cell_of_row w g j cs T (0, 0) h, hj]
theorem ret_i {k : IntKind} {a b : Int} (h : a = b) : Ending.returned (.int k a) = .returned (.int k b) := by rw [h]
theorem byte_any (w0 w : World) (g : Nat) (ao : Option Addr) (len cap : Nat) (hlen : len ≤ 1048576) (hcode : Code w0 ao len) (hc : CurAt w0 w g ao len cap) :
    Calls Try.prog 45 #[.pointer (some ⟨g, 0, none⟩)] w fun e w' => ∃ x : Nat, e = .returned (.int .i64 x) ∧ x < 256 ∧ CurAt w0 w' g ao len cap ∧ w.grownBy w' (some g) := by
  obtain ⟨hb, hg, i, h, T, hi, hh⟩ := hc
  have hc0 := cur_cell hh 0 _ rfl
  have hc1 := cur_cell hh 1 _ rfl
  have hc2 := cur_cell hh 2 _ rfl
  have hf1 := frozen_of_row w g 1 _ T hh
  have hf2 := frozen_of_row w g 2 _ T hh
  have hand := i64_and255
  have KH : Hid (∀ H1 : Int, (w.setCell ⟨g, 2, none⟩ (.int .i64 H1)).heap[g]? = some (.cells #[.slice ao len cap, .int .i64 i, .int .i64 H1] T (0, 0)) ∧ w.grownBy (w.setCell ⟨g, 2, none⟩ (.int .i64 H1)) (some g)) :=
    fun H1 => ⟨(heap_setCell_same w g 2 _ T (.int .i64 H1) hh).trans rfl, grownBy_store (World.grownBy.refl _ _) 2 _⟩
  have HB := hide hb
  have HC := hide hcode
  clear hh hb hcode
  go_enter Try.func45, Try.ntmps45
  go_wp2
  clear hc0 hc1 hc2 hf1 hf2
  generalize wrap64 (wrap64 (h * 6364136223846793005) + 1442695040888963407) = H1
  obtain ⟨hh1, g1⟩ := KH.out H1
  generalize w.setCell ⟨g, 2, none⟩ (.int .i64 H1) = W1 at hh1 g1 ⊢
  have hc0 := cur_cell hh1 0 _ rfl
  have hc1 := cur_cell hh1 1 _ rfl
  have hc2 := cur_cell hh1 2 _ rfl
  have hf1 := frozen_of_row W1 g 1 _ T hh1
  have HH1 := hide hh1
  have G1 := hide g1
  have HB1 : Hid (Below w0.heap.size w0 W1) := HB.out.grown g1 HB.out.size (fun k hk => by cases hk; exact hg)
  clear hh1 g1
  by_cases hlt : i < len
  · have hlt' : decide ((i : Int) < (len : Int)) = true := by simp; omega
    obtain ⟨b, off, z, rfl, hbl, hz, hz256⟩ := HC.out i hlt
    have hcz : W1.cell? ⟨b, off + i, none⟩ = some (.int .u8 z) := (HB1.out.cell (p := ⟨b, off + i, none⟩) hbl).trans hz
    have hi0 : (0 : Int) ≤ (i : Int) := by omega
    have hi1 : (i : Int) < (len : Int) := by omega
    clear hz
    go_quiet (fail)
    go_wp2
    generalize bits BinOp.xor IntKind.i64 (H1 / 8589934592) (H1 / 35184372088832) = Y
    go_quiet (fail)
    go_wp2
    go_quiet (fail)
    go_wp2
    go_ret
    have hs : ∀ q, Below w0.heap.size w0 ((W1.drewN q).setCell ⟨g, 1, none⟩ (.int .i64 ((i : Int) + 1))) := fun q => (below_drewN HB1.out q).setCell (p := ⟨g, 1, none⟩) hg _
    have hr : ∀ q, ((W1.drewN q).setCell ⟨g, 1, none⟩ (.int .i64 ((i : Int) + 1))).heap[g]? = some (.cells #[.slice (some ⟨b, off, none⟩) len cap, .int .i64 ((i + 1 : Nat) : Int), .int .i64 H1] T (0, 0)) :=
      fun q => (heap_setCell_same (W1.drewN q) g 1 _ T (.int .i64 ((i : Int) + 1)) HH1.out).trans rfl
    exact ⟨((Y + z) % 256).toNat, ret_i (by omega), by omega, ⟨hs _, hg, i + 1, H1, T, by omega, hr _⟩, grownBy_store (grownBy_trans G1.out (grownBy_below _ (drewN_below _ _))) 1 _⟩
  · have hlt' : decide ((i : Int) < (len : Int)) = false := by simp; omega
    go_quiet (fail)
    go_wp2
    generalize bits BinOp.xor IntKind.i64 (H1 / 8589934592) (H1 / 35184372088832) = Y
    go_quiet (fail)
    go_wp2
    go_ret
    exact ⟨(Y % 256).toNat, ret_i (by omega), by omega, ⟨below_drewN (below_drewN HB1.out _) _, hg, i, H1, T, hi, HH1.out⟩, grownBy_trans G1.out (grownBy_trans (grownBy_below _ (drewN_below _ _)) (grownBy_below _ (drewN_below _ _)))⟩
theorem below_any (w0 w : World) (g : Nat) (ao : Option Addr) (len cap : Nat) (n : Int) (hlen : len ≤ 1048576) (hn : n ≤ 4611686018427387904) (hcode : Code w0 ao len) (hc : CurAt w0 w g ao len cap) :
    Calls Try.prog 46 #[.pointer (some ⟨g, 0, none⟩), .int .i64 n] w fun e w' => ∃ x : Nat, e = .returned (.int .i64 x) ∧ (0 < n → (x : Int) < n) ∧ (n ≤ 0 → x = 0) ∧ CurAt w0 w' g ao len cap ∧ w.grownBy w' (some g) := by
  have HC := hide hcode
  have HU := hide hc
  clear hcode hc
  by_cases h0 : n ≤ 0
  · go_enter Try.func46, Try.ntmps46
    go_wp2
    go_ret
    exact ⟨0, rfl, fun h => absurd h (by omega), fun _ => rfl, HU.out, World.grownBy.refl _ _⟩
  · by_cases h1 : n ≤ 256
    · go_enter Try.func46, Try.ntmps46
      go_wp2_with fail
      refine (byte_any w0 _ g ao len cap hlen HC.out HU.out).mono ?_
      rintro e w1 ⟨x, rfl, hx, hc1, g1⟩
      go_wp2
      go_ret
      have hb := Int.emod_lt_of_pos (x : Int) (show 0 < n by omega)
      have hp := Int.emod_nonneg (x : Int) (show n ≠ 0 by omega)
      exact ⟨((x : Int) % n).toNat, ret_i (by omega), fun _ => by omega, fun h => absurd h (by omega), hc1, g1⟩
    · go_enter Try.func46, Try.ntmps46
      go_wp2_with fail
      refine (byte_any w0 _ g ao len cap hlen HC.out HU.out).mono ?_
      rintro e w1 ⟨x, rfl, hx, hc1, g1⟩
      have HU1 := hide hc1
      have G1 := hide g1
      clear hc1 g1
      go_wp2_with fail
      refine (byte_any w0 _ g ao len cap hlen HC.out HU1.out).mono ?_
      rintro e w2 ⟨y, rfl, hy, hc2, g2⟩
      have HU2 := hide hc2
      have G2 := hide g2
      clear hc2 g2
      go_wp2_with fail
      refine (byte_any w0 _ g ao len cap hlen HC.out HU2.out).mono ?_
      rintro e w3 ⟨z, rfl, hz, hc3, g3⟩
      have HU3 := hide hc3
      have G3 := hide g3
      clear hc3 g3
      go_wp2_with fail
      refine (byte_any w0 _ g ao len cap hlen HC.out HU3.out).mono ?_
      rintro e w4 ⟨u, rfl, hu, hc4, g4⟩
      go_wp2
      go_ret
      have hb := Int.emod_lt_of_pos ((x : Int) * 16777216 + (y : Int) * 65536 + (z : Int) * 256 + (u : Int)) (show 0 < n by omega)
      have hp := Int.emod_nonneg ((x : Int) * 16777216 + (y : Int) * 65536 + (z : Int) * 256 + (u : Int)) (show n ≠ 0 by omega)
      exact ⟨(((x : Int) * 16777216 + (y : Int) * 65536 + (z : Int) * 256 + (u : Int)) % n).toNat, ret_i (by omega), fun _ => by omega, fun h => absurd h (by omega), hc4, grownBy_trans G1.out (grownBy_trans G2.out (grownBy_trans G3.out g4))⟩
theorem i64_and30 (n : Int) : bits .and .i64 n 1073741823 = n % 1073741824 := by
  have h30 : (BitVec.ofInt 64 1073741823).toNat = 2 ^ 30 - 1 := by decide
  have key : (BitVec.ofInt 64 n &&& BitVec.ofInt 64 1073741823).toNat = (n % ((2 ^ 64 : Nat) : Int)).toNat % 2 ^ 30 := by
    rw [BitVec.toNat_and, BitVec.toNat_ofInt, h30, Nat.and_two_pow_sub_one_eq_mod]
  show IntKind.i64.wrap ((BitVec.ofInt 64 n &&& BitVec.ofInt 64 1073741823).toNat : Nat) = n % 1073741824
  rw [key, IntKind.wrap_i64]
  omega
theorem new_any (w : World) (ao : Option Addr) (len cap : Nat) (hlen : len ≤ 1048576) (hcode : Code w ao len) :
    Calls Try.prog 30 #[.slice ao len cap] w fun e w' => ∃ g, e = .returned (.pointer (some ⟨g, 0, none⟩)) ∧ CurAt w w' g ao len cap := by
  have hand := i64_and30
  have HC := hide hcode
  clear hcode
  go_enter Try.func30, Try.ntmps30
  go_wp2
  go_loop [3, 4] (fun hh ii => ∃ (k : Nat) (h : Int), k ≤ len ∧ ii = .int .i64 k ∧ hh = .int .i64 h ∧ 0 ≤ h ∧ h ≤ 1073741824) (fun _ ii => len - (intOf ii).toNat)
  case atStart => exact ⟨0, _, Nat.zero_le _, rfl, rfl, by omega, by omega⟩
  case round =>
    obtain ⟨k, h, hk, rfl, rfl, h0, h1⟩ := hrel
    by_cases hlt : k < len
    · have hlt' : decide ((k : Int) < (len : Int)) = true := by simp; omega
      by_cases h4 : k < 4000
      · have h4' : decide ((k : Int) < 4000) = true := by simp; omega
        obtain ⟨b, off, z, rfl, hbl, hz, hz256⟩ := HC.out k hlt
        have hi0 : (0 : Int) ≤ (k : Int) := by omega
        have hi1 : (k : Int) < (len : Int) := by omega
        go_wp2
        go_round
        case rel => exact ⟨k + 1, _, by omega, by go_num, rfl, by omega, by omega⟩
        case measure => simp [intOf]; omega
      · have h4' : decide ((k : Int) < 4000) = false := by simp; omega
        go_wp2
        go_ret
        exact ⟨w.heap.size, rfl, (Below.refl _ _).alloc (Nat.le_refl _) _, Nat.le_refl _, 0, h, _, Nat.zero_le _, heap_alloc_new w _⟩
    · have hlt' : decide ((k : Int) < (len : Int)) = false := by simp; omega
      go_wp2
      go_ret
      exact ⟨w.heap.size, rfl, (Below.refl _ _).alloc (Nat.le_refl _) _, Nat.le_refl _, 0, h, _, Nat.zero_le _, heap_alloc_new w _⟩
theorem once_any (w0 w : World) (g : Nat) (ao : Option Addr) (len cap : Nat) (n : Int) (hlen : len ≤ 1048576) (hn : n ≤ 4611686018427387904) (hcode : Code w0 ao len) (hc : CurAt w0 w g ao len cap) :
    Calls Try.prog 75 #[.pointer (some ⟨g, 0, none⟩), .int .i64 n] w fun e w' => ∃ b : Bool, e = .returned (.bool b) ∧ CurAt w0 w' g ao len cap ∧ w.grownBy w' (some g) := by
  have HC := hide hcode
  have HU := hide hc
  clear hcode hc
  go_enter Try.func75, Try.ntmps75
  go_wp2_with fail
  refine (below_any w0 _ g ao len cap n hlen hn HC.out HU.out).mono ?_
  rintro e w1 ⟨x, rfl, _, _, hc1, g1⟩
  go_wp2
  go_ret
  exact ⟨_, rfl, hc1, g1⟩
end Go.Proofs.Ytbenmgokhklnjaa
