import Derived.WalkKit
import Derived.WalkSpells
import Derived.WalkLawsBesides
import Derived.Outline
import Derived.Laws.IdiomStrings
import Derived.Deep.AppendLies
import Derived.Deep.RegionHeld3
import Derived.BigQuiet
import Derived.WalkSmall
import Derived.Test.YtmmchemgegmhhaaGreatDoorChecked
import Derived.Laws.BitsAllLaws
import Derived.Lib.Strings
import Derived.Lib.Walk
import Derived.Lib.BufferWrite
import Derived.Lib.UnsafeStr
import Derived.Laws.MakeOwn
import Derived.Laws.OwnMore
import Derived.Lib.ConvBytes
set_option maxRecDepth 100000
set_option maxHeartbeats 2000000
namespace Go.Proofs.YtmmchemgegmhhaaGreatDoor
open Go.RowKit
theorem hide {p : Prop} (h : p) : Hid p := h
def bv (b : UInt8) : Value := .int .u8 (b.toNat : Int)
theorem bv_one (l : List UInt8) : ∀ u ∈ l.map bv, u.oneCell' = true := by
  intro u hu
  obtain ⟨b, _, rfl⟩ := List.mem_map.1 hu
  rfl
theorem cells_new (w : World) (C : Array Value) (t : TypeId) : ∀ j u, C.toList[j]? = some u → (w.alloc (.cells C t)).cell? ((⟨w.heap.size, 0, none⟩ : Addr).add j) = some u := by
  intro j u h
  simp only [Array.getElem?_toList] at h
  have e : ((⟨w.heap.size, 0, none⟩ : Addr).add j) = ⟨w.heap.size, j, none⟩ := by cases j <;> simp [Addr.add]
  rw [e]
  exact (World.cell?_alloc_mark w C t (0, 0) j).trans h
theorem size_alloc_drew (w : World) (o : Obj) : w.heap.size ≤ (w.alloc o).drew.heap.size := by simp
theorem grownBy_trans {a b c : World} {r : Option Nat} (h : a.grownBy b r) (k : b.grownBy c r) : a.grownBy c r :=
  ⟨k.os.trans h.os, k.tape.trans h.tape, k.output.trans h.output, Nat.le_trans h.size k.size, fun i hi hr => (k.block i (Nat.lt_of_lt_of_le hi h.size) hr).trans (h.block i hi hr)⟩
theorem grownBy_below {a b : World} (r : Option Nat) (h : Below a.heap.size a b) : a.grownBy b r := ⟨h.os, h.tape, h.output, h.size, fun k hk _ => h.block k hk⟩
theorem grownBy_store {a b : World} {g : Nat} (h : a.grownBy b (some g)) (j : Nat) (u : Value) : a.grownBy (b.setCell ⟨g, j, none⟩ u) (some g) :=
  ⟨h.os, h.tape, h.output, by have := h.size; simpa [World.setCell] using this, fun k hk hne => (Below.heap_setCell _ _ _ _ (by intro e; exact hne (by rw [e]))).trans (h.block k hk hne)⟩
theorem ownsRow_below {w w' : World} {B : Nat} {e : TypeId} {size : Nat} {v : Value} {n : Nat} {xs : List Value} (h : w.ownsRow B e size v n xs) (hb : Below w.heap.size w w') : w'.ownsRow B e size v n xs :=
  h.kept (grownBy_below none hb) (by cases hv : v.ownBlock with | none => exact .inl rfl | some k => exact .inr (by simp))
theorem ownsRow_drewN {w : World} {B : Nat} {e : TypeId} {size : Nat} {v : Value} {n : Nat} {xs : List Value} (h : w.ownsRow B e size v n xs) (q : Nat) : (w.drewN q).ownsRow B e size v n xs := h
theorem ownsRow_mono {w : World} {B B' : Nat} {e : TypeId} {size : Nat} {v : Value} {n : Nat} {xs : List Value} (h : w.ownsRow B e size v n xs) (hB : B' ≤ B) : w.ownsRow B' e size v n xs := by
  refine ⟨h.1, ?_⟩
  rcases h.2 with h | ⟨g, cap, cur, hv, hb, r⟩
  · exact .inl h
  · exact .inr ⟨g, cap, cur, hv, by omega, r⟩
theorem drewN_below (w : World) (q : Nat) : Below w.heap.size w (w.drewN q) := below_drewN (Below.refl _ _) q
theorem cat_list (a b : List UInt8) : (⟨a.toArray⟩ : ByteArray) ++ ⟨b.toArray⟩ = ⟨(a ++ b).toArray⟩ := by
  apply ByteArray.ext
  simp
def sv (l : List UInt8) : Value := .string ⟨l.toArray⟩
theorem slice_form {w : World} {B : Nat} {e : TypeId} {size : Nat} {v : Value} {n : Nat} {xs : List Value} (h : w.ownsRow B e size v n xs) : ∃ a c, v = .slice a n c := by
  rcases h.2 with ⟨rfl, rfl⟩ | ⟨g, cap, cur, rfl, _⟩
  · exact ⟨none, 0, rfl⟩
  · exact ⟨_, cap, rfl⟩
section
variable {P : Program}
theorem conv_own (ts te tx : TypeId) (hts : P.underlying ts = some (.slice te)) (hte : P.underlying te = some (.int .u8)) (htx : P.underlying tx = some .string)
    (w : World) (base : Nat) (v : Value) (l : List UInt8) (h : w.ownsRow base te 1 v l.length (l.map bv)) :
    (convert ts tx v).run P w = .ok (.string ⟨l.toArray⟩) w := by
  rcases h.2 with ⟨hv, hn⟩ | ⟨g, cap, cur, hv, hg, hh, hn, hm, hs, ht⟩
  · have hl := List.eq_nil_of_length_eq_zero hn
    subst hv hl
    rw [run_convert_bytes_string w ts tx te none 0 0 hts hte htx]
    rfl
  · subst hv
    refine run_convert_bytes_back w ts tx te ⟨g, 0, none⟩ cap l hts hte htx ?_
    intro j hj
    have := h.cells (g := g) rfl j (bv l[j]) (by simp [hj])
    exact this
theorem app_bytes {ops : Array Oper} {rest : List Oper} {o : Oper} {a : Act} {Q : Exit → Act → World → Prop} {C : Array Value} (wr : World) (ts te : TypeId) (hts : P.underlying ts = some (.slice te))
    (hinfo : (P.info? te).map (fun i => (i.zero, i.size, i.bytes)) = some (some (.int .u8 0), 1, 1)) (w : World) (B : Nat) (hgd : o.guard = none) (s x : Operand)
    (ho : o.op = .call { callee := .builtin .append, args := #[s, x], argTypes := #[ts, ts] }) (v : Value) (l news : List UInt8) (hs : a.eval s = v)
    (hown : wr.ownsRow B te 1 v l.length (l.map bv)) (hx : a.eval x = .slice (some ⟨wr.heap.size, 0, none⟩) news.length news.length) (hC : C.toList = news.map bv)
    (hlen : l.length + news.length ≤ 70368744177664) (hbel : Below B w wr) (hbase : B ≤ wr.heap.size)
    (h : ∀ v' w', w'.ownsRow B te 1 v' (l ++ news).length ((l ++ news).map bv) → Below B w w' → wr.heap.size ≤ w'.heap.size → wpList P ops Q rest (a.put o.dst v') w') :
    wpList P ops Q (o :: rest) a (wr.alloc (.cells C te)) := by
  obtain ⟨i0, hi, hz0, hz1, hz2⟩ := info_parts hinfo
  have hsz : wr.heap.size ≤ (wr.alloc (.cells C te)).heap.size := by simp
  refine wpList_append_own _ hgd s x ts ho B te i0 (.int .u8 0) 1 1 hts hi hz0 hz1 hz2 rfl (by decide) v l.length (l.map bv) hs (hown.alloc _) ⟨wr.heap.size, 0, none⟩ news.length news.length (news.map bv) hx (by simp)
    (fun j u hj => cells_new wr C te j u (by rw [hC]; exact hj)) (bv_one news) (by unfold maxLen; omega) (by omega) (by omega) ?_
  intro v' w' hown' hgrow _
  have hlt := hown.lt
  have hb1 : Below B w (wr.alloc (.cells C te)) := hbel.alloc hbase _
  refine h v' w' ?_ (hb1.grown hgrow (by omega) (fun k hk => (hlt k hk).1)) (Nat.le_trans hsz hgrow.size)
  rw [List.length_append, List.map_append]
  exact hown'
end
end Go.Proofs.YtmmchemgegmhhaaGreatDoor
namespace Go.Proofs.YtmmchemgegmhhaaGreatDoor
namespace Wd
def bt (s : ByteArray) (p : Nat) : Nat := if h : p < s.size then (s[p]'h).toNat else 0
theorem bt_eq (s : ByteArray) (p : Nat) (h : p < s.size) : (s[p]'h).toNat = bt s p := by simp [bt, h]
theorem bt_lt (s : ByteArray) (p : Nat) : bt s p < 256 := by unfold bt; split; exact UInt8.toNat_lt _; omega
def varF : Nat → Nat → List UInt8
  | 0, _ => []
  | f + 1, n => if n < 128 then [UInt8.ofNat n] else UInt8.ofNat (n % 128 + 128) :: varF f (n / 128)
theorem varF_low (f n : Nat) (h : n < 128) : varF (f + 1) n = [UInt8.ofNat n] := by simp [varF, h]
theorem varF_high (f n : Nat) (h : ¬ n < 128) : varF (f + 1) n = UInt8.ofNat (n % 128 + 128) :: varF f (n / 128) := by simp [varF, h]
theorem div_lt_pow (f m : Nat) (h : m < 128 ^ (f + 1)) : m / 128 < 128 ^ f := by
  rw [Nat.pow_succ] at h; exact Nat.div_lt_of_lt_mul (by rw [Nat.mul_comm]; exact h)
def rvF (s : ByteArray) : Nat → Nat → Nat → Nat → Nat → Option (Nat × Nat)
  | 0, _, _, _, _ => none
  | f + 1, p, k, q, n =>
    if p < s.size then
      (if bt s p < 128 then (if n + bt s p % 128 * q ≤ 1000000000 ∧ (0 < bt s p ∨ k = 0) then some (n + bt s p % 128 * q, p + 1) else none)
       else rvF s f (p + 1) (k + 1) (q * 128) (n + bt s p % 128 * q))
    else none
theorem rvF_end (s : ByteArray) (f p k q n : Nat) (h : ¬ p < s.size) : rvF s f p k q n = none := by
  cases f <;> simp [rvF, h]
theorem rvF_more (s : ByteArray) (f p k q n : Nat) (h : p < s.size) (hb : ¬ bt s p < 128) : rvF s (f + 1) p k q n = rvF s f (p + 1) (k + 1) (q * 128) (n + bt s p % 128 * q) := by
  simp [rvF, h, hb]
theorem rvF_last (s : ByteArray) (f p k q n : Nat) (h : p < s.size) (hb : bt s p < 128) (hn : n + bt s p % 128 * q ≤ 1000000000) (hk : 0 < bt s p ∨ k = 0) : rvF s (f + 1) p k q n = some (n + bt s p % 128 * q, p + 1) := by
  simp only [rvF, if_pos h, if_pos hb, if_pos (And.intro hn hk)]
theorem rvF_not (s : ByteArray) (f p k q n : Nat) (hb : bt s p < 128) (hn : ¬ (n + bt s p % 128 * q ≤ 1000000000 ∧ (0 < bt s p ∨ k = 0))) : rvF s (f + 1) p k q n = none := by
  by_cases h : p < s.size
  · simp only [rvF, if_pos h, if_pos hb, if_neg hn]
  · exact rvF_end _ _ _ _ _ _ h
theorem rvF_moreB {s : ByteArray} {f p k q n b : Nat} (hB : bt s p = b) (h : p < s.size) (hb : ¬ b < 128) : rvF s (f + 1) p k q n = rvF s f (p + 1) (k + 1) (q * 128) (n + b % 128 * q) := by
  subst hB; exact rvF_more s f p k q n h hb
theorem rvF_lastB {s : ByteArray} {f p k q n b : Nat} (hB : bt s p = b) (h : p < s.size) (hb : b < 128) (hn : n + b % 128 * q ≤ 1000000000) (hk : 0 < b ∨ k = 0) : rvF s (f + 1) p k q n = some (n + b % 128 * q, p + 1) := by
  subst hB; exact rvF_last s f p k q n h hb hn hk
theorem rvF_notB {s : ByteArray} {f p k q n b : Nat} (hB : bt s p = b) (hb : b < 128) (hn : ¬ (n + b % 128 * q ≤ 1000000000 ∧ (0 < b ∨ k = 0))) : rvF s (f + 1) p k q n = none := by
  subst hB; exact rvF_not s f p k q n hb hn
def rv (s : ByteArray) (i : Nat) : Option (Nat × Nat) := rvF s 5 i 0 1 0
def valF (s : ByteArray) : Nat → Nat → Nat
  | _, 0 => 0
  | i, k + 1 => bt s i % 128 + 128 * valF s (i + 1) k
def subF (s : ByteArray) : Nat → Nat → List UInt8
  | _, 0 => []
  | i, k + 1 => UInt8.ofNat (bt s i) :: subF s (i + 1) k
theorem subF_length (s : ByteArray) : ∀ k i, (subF s i k).length = k
  | 0, _ => rfl
  | k + 1, i => by simp [subF, subF_length s k (i + 1)]
theorem valF_snoc (s : ByteArray) : ∀ k i, valF s i (k + 1) = valF s i k + bt s (i + k) % 128 * 128 ^ k
  | 0, i => by simp [valF]
  | k + 1, i => by
    rw [valF, valF_snoc s k (i + 1), valF, Nat.pow_succ, show i + 1 + k = i + (k + 1) from by omega, Nat.mul_add, ← Nat.mul_assoc, Nat.mul_comm 128 (bt s (i + (k + 1)) % 128), Nat.mul_assoc, Nat.mul_comm 128 (128 ^ k), Nat.add_assoc]
theorem valF_zero (s : ByteArray) (k i : Nat) (h : valF s i (k + 1) = 0) : bt s (i + k) % 128 = 0 := by
  rw [valF_snoc] at h
  have h1 : bt s (i + k) % 128 * 128 ^ k = 0 := by omega
  rcases Nat.mul_eq_zero.1 h1 with h2 | h2
  · exact h2
  · have := Nat.pow_pos (n := k) (show 0 < 128 by omega); omega
theorem canonF (s : ByteArray) : ∀ k i f, (∀ j, j < k → 128 ≤ bt s (i + j)) → bt s (i + k) < 128 → k < f → (varF f (valF s i (k + 1)) = subF s i (k + 1) ↔ (0 < bt s (i + k) ∨ k = 0))
  | 0, i, f, _, hb, hf => by
    obtain ⟨g, rfl⟩ : ∃ g, f = g + 1 := ⟨f - 1, by omega⟩
    have hb' : bt s i < 128 := hb
    have hv : valF s i (0 + 1) = bt s i := by simp [valF]; omega
    rw [hv, varF_low g _ hb']
    simp [subF]
  | k + 1, i, f, hj, hb, hf => by
    obtain ⟨g, rfl⟩ : ∃ g, f = g + 1 := ⟨f - 1, by omega⟩
    have hc : 128 ≤ bt s i := hj 0 (by omega)
    have hc2 := bt_lt s i
    have ih := canonF s k (i + 1) g (fun j hjk => by have := hj (j + 1) (by omega); rw [show i + 1 + j = i + (j + 1) from by omega]; exact this) (by rw [show i + 1 + k = i + (k + 1) from by omega]; exact hb) (by omega)
    rw [show i + 1 + k = i + (k + 1) from by omega] at ih
    have hv : valF s i (k + 1 + 1) = bt s i % 128 + 128 * valF s (i + 1) (k + 1) := rfl
    have hs : subF s i (k + 1 + 1) = UInt8.ofNat (bt s i) :: subF s (i + 1) (k + 1) := rfl
    rw [hv, hs]
    by_cases hV : valF s (i + 1) (k + 1) = 0
    · have hz := valF_zero s k (i + 1) hV
      rw [show i + 1 + k = i + (k + 1) from by omega] at hz
      rw [varF_low g _ (by omega)]
      constructor
      · intro h
        have := congrArg List.length h
        simp [subF_length] at this
      · intro h; omega
    · rw [varF_high g _ (by omega), show (bt s i % 128 + 128 * valF s (i + 1) (k + 1)) % 128 + 128 = bt s i from by omega, show (bt s i % 128 + 128 * valF s (i + 1) (k + 1)) / 128 = valF s (i + 1) (k + 1) from by omega]
      constructor
      · intro h
        have h2 := ih.1 (List.cons.inj h).2
        rcases h2 with h2 | h2
        · exact .inl h2
        · subst h2
          have e : valF s (i + 1) (0 + 1) = bt s (i + 1) % 128 := by simp [valF]
          rw [e] at hV
          left; show 0 < bt s (i + 1); omega
      · intro h
        rw [ih.2 (by omega)]
theorem subF_extract (s : ByteArray) (i k : Nat) (h : i + k ≤ s.size) : (s.extract i (i + k)).data.toList = subF s i k := by
  apply List.ext_getElem
  · simp [subF_length]
    have : s.data.size = s.size := rfl
    omega
  · intro n h1 h2
    rw [subF_length] at h2
    have key : ∀ k i n (hn : n < k) (hk : i + k ≤ s.size), (subF s i k)[n]'(by rw [subF_length]; exact hn) = s[i + n]'(by omega) := by
      intro k
      induction k with
      | zero => intro i n hn; omega
      | succ k ih =>
        intro i n hn hk
        cases n with
        | zero =>
          have := bt_eq s i (by omega)
          simp [subF, ← this]
        | succ n =>
          have := ih (i + 1) n (by omega) (by omega)
          simp only [subF, List.getElem_cons_succ, this]
          congr 1; omega
    rw [key k i n h2 h]
    simp
    rfl
def figI (x : Int) : Int := if x < 10 then 48 + x else 87 + x
theorem figI_low (x : Int) (h : x < 10) : figI x = 48 + x := by simp [figI, h]
theorem figI_high (x : Int) (h : ¬ x < 10) : figI x = 87 + x := by simp [figI, h]
theorem figI_bd (x : Int) (h0 : 0 ≤ x) (h1 : x < 16) : 48 ≤ figI x ∧ figI x ≤ 102 := by unfold figI; split <;> omega
def figB (x : Nat) : UInt8 := UInt8.ofNat (figI x).toNat
theorem figB_val (x : Nat) (h : x < 16) : ((figB x).toNat : Int) = figI x := by
  have := figI_bd x (by omega) (by omega)
  simp only [figB, UInt8.toNat_ofNat']
  omega
def decA : Nat → Nat → List UInt8 → List UInt8
  | 0, _, acc => acc
  | f + 1, n, acc => if n = 0 then acc else decA f (n / 10) (figB (n % 10) :: acc)
theorem decA_zero (f : Nat) (acc : List UInt8) : decA f 0 acc = acc := by cases f <;> simp [decA]
theorem decA_step (f n : Nat) (acc : List UInt8) (h : n ≠ 0) : decA (f + 1) n acc = decA f (n / 10) (figB (n % 10) :: acc) := by simp [decA, h]
def decS (n : Int) : List UInt8 := if n = 0 then [48] else if n < 0 then 45 :: decA 20 n.natAbs [] else decA 20 n.natAbs []
theorem decA_length : ∀ f n acc m, n < 10 ^ m → (decA f n acc).length ≤ acc.length + m
  | 0, n, acc, m, _ => by simp [decA]
  | f + 1, n, acc, m, h => by
    by_cases h0 : n = 0
    · subst h0; rw [decA_zero]; omega
    · rw [decA_step f n acc h0]
      cases m with
      | zero => simp at h; omega
      | succ m =>
        have := decA_length f (n / 10) (figB (n % 10) :: acc) m (Nat.div_lt_of_lt_mul (by rw [Nat.mul_comm, ← Nat.pow_succ]; exact h))
        simp at this
        omega
def numF (s : ByteArray) : Nat → Nat
  | 0 => 0
  | k + 1 => 10 * numF s k + (bt s k - 48)
def digs (s : ByteArray) (k : Nat) : Prop := ∀ p, p < k → 48 ≤ bt s p ∧ bt s p ≤ 57
theorem numF_lt (s : ByteArray) : ∀ k, digs s k → numF s k < 10 ^ k
  | 0, _ => by simp [numF]
  | k + 1, h => by
    have ih := numF_lt s k (fun p hp => h p (by omega))
    have := h k (by omega)
    rw [numF, Nat.pow_succ]
    omega
theorem numF_lead (s : ByteArray) (h0 : bt s 0 = 48) : ∀ k, digs s (k + 1) → numF s (k + 1) < 10 ^ k
  | 0, _ => by simp [numF, h0]
  | k + 1, h => by
    have ih := numF_lead s h0 k (fun p hp => h p (by omega))
    have := h (k + 1) (by omega)
    rw [numF, Nat.pow_succ]
    omega
theorem numF_pos (s : ByteArray) (h0 : bt s 0 ≠ 48) : ∀ k, digs s (k + 1) → 0 < numF s (k + 1)
  | 0, h => by have := h 0 (by omega); simp [numF]; omega
  | k + 1, h => by
    have ih := numF_pos s h0 k (fun p hp => h p (by omega))
    rw [numF]; omega
def tl (s : ByteArray) : Nat → Nat → List UInt8
  | _, 0 => []
  | k, n + 1 => UInt8.ofNat (bt s k) :: tl s (k + 1) n
theorem tl_length (s : ByteArray) : ∀ n k, (tl s k n).length = n
  | 0, _ => rfl
  | n + 1, k => by simp [tl, tl_length s n (k + 1)]
theorem figB_digit (s : ByteArray) (k : Nat) (h : 48 ≤ bt s k ∧ bt s k ≤ 57) : figB (bt s k - 48) = UInt8.ofNat (bt s k) := by
  unfold figB
  rw [figI_low _ (by omega)]
  congr 1
  omega
theorem decA_back (s : ByteArray) (L : Nat) (hd : digs s L) (h0 : bt s 0 ≠ 48) : ∀ k f, k ≤ L → k ≤ f → decA f (numF s k) (tl s k (L - k)) = tl s 0 L
  | 0, f, _, _ => by simp [numF, decA_zero]
  | k + 1, f, hk, hf => by
    obtain ⟨g, rfl⟩ : ∃ g, f = g + 1 := ⟨f - 1, by omega⟩
    have hp := numF_pos s h0 k (fun p hp => hd p (by omega))
    have hdk := hd k (by omega)
    rw [decA_step g _ _ (by omega)]
    have e1 : numF s (k + 1) / 10 = numF s k := by rw [numF]; omega
    have e2 : numF s (k + 1) % 10 = bt s k - 48 := by rw [numF]; omega
    rw [e1, e2, figB_digit s k hdk]
    have e3 : UInt8.ofNat (bt s k) :: tl s (k + 1) (L - (k + 1)) = tl s k (L - k) := by
      rw [show L - k = (L - (k + 1)) + 1 from by omega]; rfl
    rw [e3]
    exact decA_back s L hd h0 k g (by omega) (by omega)
theorem tl_all (s : ByteArray) : tl s 0 s.size = s.data.toList := by
  have key : ∀ n k p (hp : p < n) (hk : k + n ≤ s.size), (tl s k n)[p]'(by rw [tl_length]; exact hp) = s[k + p]'(by omega) := by
    intro n
    induction n with
    | zero => intro k p hp; omega
    | succ n ih =>
      intro k p hp hk
      cases p with
      | zero =>
        have := bt_eq s k (by omega)
        simp [tl, ← this]
      | succ p =>
        have := ih (k + 1) p (by omega) (by omega)
        simp only [tl, List.getElem_cons_succ, this]
        congr 1; omega
  apply List.ext_getElem
  · rw [tl_length]; rfl
  · intro p h1 h2
    rw [tl_length] at h1
    rw [key s.size 0 p h1 (by omega)]
    simp
    rfl
theorem dec_canon (s : ByteArray) (hd : digs s s.size) (h10 : s.size ≤ 10) : decS (numF s s.size) = s.data.toList ↔ (s.size ≠ 0 ∧ (s.size = 1 ∨ bt s 0 ≠ 48)) := by
  rw [← tl_all]
  generalize hL : s.size = L at *
  constructor
  · intro h
    have hlen := congrArg List.length h
    rw [tl_length] at hlen
    cases L with
    | zero => simp [numF, decS] at hlen
    | succ k =>
      refine ⟨by omega, ?_⟩
      by_cases h0 : bt s 0 = 48
      · left
        have hb := numF_lead s h0 k hd
        by_cases hz : numF s (k + 1) = 0
        · rw [hz] at hlen; simp [decS] at hlen; omega
        · have := decA_length 20 (numF s (k + 1)) [] k hb
          have e : decS (numF s (k + 1)) = decA 20 (numF s (k + 1)) [] := by
            unfold decS; rw [if_neg (by omega), if_neg (by omega), Int.natAbs_natCast]
          rw [e] at hlen
          simp at this
          omega
      · exact .inr h0
  · rintro ⟨h1, h2⟩
    by_cases h0 : bt s 0 = 48
    · have : L = 1 := by omega
      subst this
      simp [numF, h0, decS, tl]
    · obtain ⟨k, rfl⟩ : ∃ k, L = k + 1 := ⟨L - 1, by omega⟩
      have hp := numF_pos s h0 k hd
      have e : decS (numF s (k + 1)) = decA 20 (numF s (k + 1)) [] := by
        unfold decS; rw [if_neg (by omega), if_neg (by omega), Int.natAbs_natCast]
      rw [e]
      have := decA_back s (k + 1) hd h0 (k + 1) 20 (Nat.le_refl _) (by omega)
      simpa [tl] using this
end Wd
end Go.Proofs.YtmmchemgegmhhaaGreatDoor
namespace Go.Proofs.YtmmchemgegmhhaaGreatDoor
open Go.RowKit
theorem Tryz.info5 : (Tryz.prog.info? 5).map (fun i => (i.zero, i.size, i.bytes)) = some (some (.int .u8 0), 1, 1) := by kernel_rfl
theorem Tryz.cells5 : Tryz.prog.cellsOf 5 = 1 := by kernel_rfl
theorem l01In_any (x a b : Int) (w : World) : Calls Tryz.prog 43 #[.int .i64 x, .int .i64 a, .int .i64 b] w fun e w' => e = .returned (.bool (decide (a ≤ x) && decide (x ≤ b))) ∧ w' = w := by
  by_cases h : a ≤ x
  · have h' : decide (a ≤ x) = true := by simp; omega
    rw [h', Bool.true_and]
    go_enter Tryz.func43, Tryz.ntmps43
    go_wp2
    go_ret
    exact ⟨rfl, rfl⟩
  · have h' : decide (a ≤ x) = false := by simp; omega
    rw [h', Bool.false_and]
    go_enter Tryz.func43, Tryz.ntmps43
    go_wp2
    go_ret
    exact ⟨rfl, rfl⟩
theorem l01In_val (x a b : Int) (c : Bool) (w : World) (h : (decide (a ≤ x) && decide (x ≤ b)) = c) : Calls Tryz.prog 43 #[.int .i64 x, .int .i64 a, .int .i64 b] w fun e w' => e = .returned (.bool c) ∧ w' = w := h ▸ l01In_any x a b w
def rvAns : Option (Nat × Nat) → Value
  | some (n, p) => .tuple #[.int .i64 n, .int .i64 p, .bool true]
  | none => .tuple #[.int .i64 0, .int .i64 0, .bool false]
theorem ret3 {a a' b b' : Int} {c : Bool} (h1 : a = a') (h2 : b = b') : Ending.returned (.tuple #[.int .i64 a, .int .i64 b, .bool c]) = .returned (.tuple #[.int .i64 a', .int .i64 b', .bool c]) := by rw [h1, h2]
theorem Wd.rvF_bounds (s : ByteArray) : ∀ f p k q n a b, Wd.rvF s f p k q n = some (a, b) → a ≤ 1000000000 ∧ p < b ∧ b ≤ s.size := by
  intro f
  induction f with
  | zero => intro p k q n a b h; simp [Wd.rvF] at h
  | succ f ih =>
    intro p k q n a b h
    by_cases h1 : p < s.size
    · by_cases h2 : Wd.bt s p < 128
      · by_cases h3 : n + Wd.bt s p % 128 * q ≤ 1000000000 ∧ (0 < Wd.bt s p ∨ k = 0)
        · rw [Wd.rvF_last s f p k q n h1 h2 h3.1 h3.2] at h
          simp at h
          omega
        · rw [Wd.rvF_not s f p k q n h2 h3] at h; simp at h
      · rw [Wd.rvF_more s f p k q n h1 h2] at h
        have := ih _ _ _ _ _ _ h
        omega
    · rw [Wd.rvF_end s _ p k q n h1] at h; simp at h
theorem Wd.rv_bounds (s : ByteArray) (i a b : Nat) (h : Wd.rv s i = some (a, b)) : a ≤ 1000000000 ∧ i < b ∧ b ≤ s.size := Wd.rvF_bounds s _ _ _ _ _ _ _ h
def Wd.rvI (s : ByteArray) (i : Int) : Option (Nat × Nat) := if i < 0 ∨ (s.size : Int) < i then none else Wd.rv s i.toNat
theorem Wd.rvI_bounds (s : ByteArray) (i : Int) (a b : Nat) (h : Wd.rvI s i = some (a, b)) : a ≤ 1000000000 ∧ b ≤ s.size := by
  unfold Wd.rvI at h
  split at h
  · simp at h
  · have := Wd.rv_bounds s _ _ _ h; omega
end Go.Proofs.YtmmchemgegmhhaaGreatDoor
namespace Go.Proofs.YtmmchemgegmhhaaGreatDoor
def hv (s : Nat) : Nat := if s % 2 = 1 then s / 2 ^^^ 3558460437 else s / 2
def hvN : Nat → Nat → Nat
  | 0, s => s
  | k + 1, s => hvN k (hv s)
def sb (s b : Nat) : Nat := hvN 8 (s ^^^ b)
def sumL (s : Nat) (l : List UInt8) : Nat := l.foldl (fun s b => sb s b.toNat) s
def htab : List Nat := [0x00000000, 0x4589ac8d, 0x8b13591a, 0xce9af597, 0xbe152a1f, 0xfb9c8692, 0x35067305, 0x708fdf88, 0xd419cc15, 0x91906098, 0x5f0a950f, 0x1a833982, 0x6a0ce60a, 0x2f854a87, 0xe11fbf10, 0xa496139d]
def four (x : Nat) : List UInt8 := [UInt8.ofNat (x / 16777216), UInt8.ofNat (x / 65536), UInt8.ofNat (x / 256), UInt8.ofNat x]
theorem xor_lt32 {a b : Nat} (ha : a < 4294967296) (hb : b < 4294967296) : a ^^^ b < 4294967296 := Nat.xor_lt_two_pow (n := 32) ha hb
theorem hv_lt {s : Nat} (h : s < 4294967296) : hv s < 4294967296 := by
  unfold hv
  split
  · exact xor_lt32 (by omega) (by decide)
  · omega
theorem hv_xor (a b : Nat) : hv (a ^^^ b) = hv a ^^^ hv b := by
  unfold hv
  have h2 : (a ^^^ b) / 2 = a / 2 ^^^ b / 2 := Nat.xor_div_two
  have hm : (a ^^^ b) % 2 = (a + b) % 2 := by
    have e : (a ^^^ b) % 2 ^ 1 = a % 2 ^ 1 ^^^ b % 2 ^ 1 := Nat.xor_mod_two_pow
    simp only [Nat.pow_one] at e
    rw [e]
    rcases Nat.mod_two_eq_zero_or_one a with ha | ha <;> rcases Nat.mod_two_eq_zero_or_one b with hb | hb <;> rw [ha, hb] <;> simp [Nat.add_mod, ha, hb]
  rw [h2, hm]
  rcases Nat.mod_two_eq_zero_or_one a with ha | ha <;> rcases Nat.mod_two_eq_zero_or_one b with hb | hb <;> simp [Nat.add_mod, ha, hb]
  · rw [Nat.xor_assoc]
  · rw [Nat.xor_assoc, Nat.xor_comm (b / 2), Nat.xor_assoc]
  · rw [Nat.xor_comm (b / 2) 3558460437, ← Nat.xor_assoc, Nat.xor_assoc (a / 2), Nat.xor_self, Nat.xor_zero]
theorem hvN_xor (k : Nat) : ∀ a b, hvN k (a ^^^ b) = hvN k a ^^^ hvN k b := by
  induction k with
  | zero => intro a b; rfl
  | succ k ih => intro a b; show hvN k (hv (a ^^^ b)) = _; rw [hv_xor, ih]; rfl
theorem hvN_lt (k : Nat) : ∀ {s}, s < 4294967296 → hvN k s < 4294967296 := by
  induction k with
  | zero => intro s h; exact h
  | succ k ih => intro s h; exact ih (hv_lt h)
theorem hv_even (q : Nat) : hv (2 * q) = q := by
  unfold hv
  rw [if_neg (by omega)]; omega
theorem hvN_16 (q : Nat) : hvN 4 (16 * q) = q := by
  show hv (hv (hv (hv (16 * q)))) = q
  rw [show 16 * q = 2 * (2 * (2 * (2 * q))) by omega]
  simp only [hv_even]
theorem htab_hv : ∀ r, r < 16 → hvN 4 r = htab.getD r 0 := by decide
theorem split16 (s : Nat) : s = 16 * (s / 16) ^^^ s % 16 := by
  apply Nat.eq_of_testBit_eq
  intro i
  rw [Nat.testBit_xor, show 16 * (s / 16) = 2 ^ 4 * (s / 2 ^ 4) from rfl, show s % 16 = s % 2 ^ 4 from rfl, Nat.testBit_mod_two_pow, Nat.testBit_two_pow_mul, Nat.testBit_div_two_pow]
  by_cases h : 4 ≤ i
  · have e : i - 4 + 4 = i := by omega
    simp [h, e, show ¬ i < 4 by omega]
  · simp [h, show i < 4 by omega]
theorem hvN_4 (s : Nat) : hvN 4 s = s / 16 ^^^ htab.getD (s % 16) 0 := by
  rw [show hvN 4 s = hvN 4 (16 * (s / 16) ^^^ s % 16) from congrArg _ (split16 s), hvN_xor, hvN_16, htab_hv _ (Nat.mod_lt _ (by decide))]
theorem hvN_8 (s : Nat) : hvN 8 s = hvN 4 s / 16 ^^^ htab.getD (hvN 4 s % 16) 0 := by
  rw [← hvN_4]; rfl
theorem htab_lt (r : Nat) : htab.getD r 0 < 4294967296 := by
  by_cases h : r < 16
  · revert h; revert r; decide
  · have e : htab.getD r 0 = 0 := by
      rw [List.getD_eq_getElem?_getD, List.getElem?_eq_none (by show 16 ≤ r; omega)]; rfl
    rw [e]; decide
theorem sb_lt {s b : Nat} (hs : s < 4294967296) (hb : b < 256) : sb s b < 4294967296 := hvN_lt 8 (xor_lt32 hs (by omega))
theorem byte_lt (b : UInt8) : b.toNat < 256 := b.toNat_lt
theorem sumL_lt (l : List UInt8) : ∀ {s}, s < 4294967296 → sumL s l < 4294967296 := by
  induction l with
  | nil => intro s h; exact h
  | cons b l ih => intro s h; exact ih (sb_lt h (byte_lt b))
end Go.Proofs.YtmmchemgegmhhaaGreatDoor
namespace Go.Proofs.YtmmchemgegmhhaaGreatDoor
open Go.RowKit
def SumTab (w : World) : Prop := ∀ r, r < 16 → w.cell? ⟨0, r, none⟩ = some (.int .u32 (htab.getD r 0 : Nat))
theorem sumTab_later {w w' : World} (h : Below w.heap.size w w') (ht : SumTab w) : SumTab w' := by
  intro r hr
  have := ht r hr
  refine (h.cell (p := ⟨0, r, none⟩) ?_).trans this
  rcases Nat.lt_or_ge 0 w.heap.size with h' | h'
  · exact h'
  · have e := ht r hr
    unfold World.cell? at e
    rw [show w.heap[(⟨0, r, none⟩ : Addr).block]? = none from Array.getElem?_eq_none h'] at e
    cases e
theorem withByte_any (s b : Nat) (w : World) (hs : s < 4294967296) (hb : b < 256) (hT : SumTab w) :
    Calls Tryz.prog 195 #[.int .u32 s, .int .u8 b] w fun e w' => e = .returned (.int .u32 (sb s b : Nat)) ∧ w' = w := by
  have HR : Hid (sb s b = hvN 8 (s ^^^ b)) := rfl
  have hx0 := u32_xor_nat s b hs (by omega)
  have hx1 := xor_lt32 hs (show b < 4294967296 by omega)
  generalize s ^^^ b = x at HR hx0 hx1
  have hc1 := hT (x % 16) (Nat.mod_lt _ (by decide))
  have hy0 := u32_xor_nat (x / 16) (htab.getD (x % 16) 0) (by omega) (htab_lt _)
  have hy1 := hvN_lt 4 hx1
  have HY : Hid (hvN 8 x = hvN 4 x / 16 ^^^ htab.getD (hvN 4 x % 16) 0) := hvN_8 x
  rw [← hvN_4, show ((x / 16 : Nat) : Int) = (x : Int) / 16 by omega] at hy0
  generalize htab.getD (x % 16) 0 = T1 at hc1 hy0
  generalize hvN 4 x = y at HY hy0 hy1
  have hc2 := hT (y % 16) (Nat.mod_lt _ (by decide))
  have hz0 := u32_xor_nat (y / 16) (htab.getD (y % 16) 0) (by omega) (htab_lt _)
  rw [show ((y / 16 : Nat) : Int) = (y : Int) / 16 by omega] at hz0
  have HZ : Hid (sb s b = y / 16 ^^^ htab.getD (y % 16) 0) := HR.out.trans HY.out
  generalize y / 16 ^^^ htab.getD (y % 16) 0 = z at HZ hz0
  generalize htab.getD (y % 16) 0 = T2 at hc2 hz0
  clear hT HR HY
  go_enter Tryz.func195, Tryz.ntmps195
  go_wp2
  go_ret
  rw [HZ.out]
  exact ⟨rfl, rfl⟩
def sumB (q : Nat) (s : ByteArray) : Nat := sumL q s.data.toList
def sumFrom (q : Nat) (s : ByteArray) (k : Nat) : Nat := sumL q (s.data.toList.drop k)
theorem sumFrom_step (q : Nat) (s : ByteArray) (k : Nat) (h : k < s.size) : sumFrom q s k = sumFrom (sb q (s[k]'h).toNat) s (k + 1) := by
  have hk : k < s.data.toList.length := by simpa using h
  unfold sumFrom
  rw [List.drop_eq_getElem_cons hk]
  rfl
theorem sumFrom_end (q : Nat) (s : ByteArray) (k : Nat) (h : s.size ≤ k) : sumFrom q s k = q := by
  unfold sumFrom
  rw [List.drop_eq_nil_of_le (by simpa using h)]
  rfl
theorem sumMore_any (q0 : Nat) (s : ByteArray) (w : World) (hq0 : q0 < 4294967296) (hl : s.size ≤ 2097152) (hT : SumTab w) :
    Calls Tryz.prog 164 #[.int .u32 q0, .string s] w fun e w' => e = .returned (.int .u32 (sumB q0 s : Nat)) ∧ w' = w := by
  have HT := hide hT
  clear hT
  go_enter Tryz.func164, Tryz.ntmps164
  go_wp2
  go_loop [5, 10] (fun t u => ∃ (k q : Nat), t = .int .u32 q ∧ u = .int .i64 k ∧ k ≤ s.size ∧ q < 4294967296 ∧ Hid (sumFrom q s k = sumB q0 s)) (fun _ u => s.size - (intOf u).toNat)
  case atStart => exact ⟨0, q0, rfl, rfl, by omega, hq0, rfl⟩
  case round =>
    obtain ⟨k, q, rfl, rfl, hk, hq, hrest⟩ := hrel
    by_cases hlt : k < s.size
    · have hlt' : decide ((k : Int) < (s.size : Int)) = true := by simp; omega
      have HS := hide (sumFrom_step q s k hlt)
      obtain ⟨b, hbt, hb256⟩ : ∃ b : Nat, (s[k]'hlt).toNat = b ∧ b < 256 := ⟨_, rfl, byte_lt _⟩
      rw [hbt] at HS
      have hq' := sb_lt hq hb256
      go_wp2_with (go_at_call 195; refine (withByte_any q b _ hq hb256 HT.out).mono ?_; rintro e w' ⟨rfl, rfl⟩)
      go_round
      case rel =>
        refine ⟨k + 1, sb q b, rfl, by go_num, by omega, hq', ?_⟩
        show _ = _
        rw [← hrest.out, HS.out]
      case measure => simp [intOf]; omega
    · have hlt' : decide ((k : Int) < (s.size : Int)) = false := by simp; omega
      have HF : Hid (sumB q0 s = q) := by show _ = _; rw [← hrest.out, sumFrom_end _ _ _ (by omega)]
      go_wp2
      go_ret
      rw [HF.out]
      exact ⟨rfl, rfl⟩
theorem clone_any (s : ByteArray) (w : World) (hs : s.size ≤ 1048576) :
    Calls Tryz.prog 219 #[.string s] w fun e w' => e = .returned (.string s) ∧ Below w.heap.size w w' := by
  by_cases h0 : s.size = 0
  · have e0 : s = ⟨#[]⟩ := ByteArray.ext (Array.eq_empty_of_size_eq_zero h0)
    subst e0
    go_enter Tryz.func219, Tryz.ntmps219
    go_wp2
    go_ret
    exact ⟨rfl, Below.refl _ _⟩
  · obtain ⟨i0, hi, hz0, hz1, hz2⟩ := info_parts Tryz.info5
    have hinfo : (Tryz.prog.info? 5).map (·.size) = some 1 := by rw [hi]; simp [hz1]
    obtain ⟨M, hM⟩ : ∃ M, M = madeCells (Value.int .u8 0).cells (((s.size : Nat) : Int).toNat * i0.size) := ⟨_, rfl⟩
    have hmk : ∀ W : World, (Instr.makeSlice 22 (.int .i64 (s.size : Int)) (.int .i64 (s.size : Int))).run Tryz.prog W = .ok (.slice (some ⟨W.heap.size, 0, none⟩) s.size s.size) (W.alloc (.cells M 5)) := fun W => by
      have h := run_make (P := Tryz.prog) W 22 5 i0 (.int .u8 0) Tryz.underlying22 hi hz0 .i64 .i64 (s.size : Int) (s.size : Int) (by omega) (by omega) (by rw [hz2]; omega) (by omega)
      rw [← hM] at h
      simpa using h
    have hMs : M.size = s.size := by rw [hM, size_madeCells, hz1]; simp
    clear hM
    have hcp := Lib.run_copy_row_string (P := Tryz.prog) (w.alloc (.cells M 5)) 22 9 3 5 w.heap.size 0 s.size s.size s M 5 Tryz.underlying22 hinfo (heap_alloc_new w _) (Nat.le_refl _) (by omega)
    obtain ⟨Y, hY⟩ : ∃ Y, Y = (M.toList.take 0 ++ Lib.byteCells s.data.toList ++ M.toList.drop (0 + s.size)).toArray := ⟨_, rfl⟩
    rw [← hY] at hcp
    have hYl : Y.toList = Lib.byteCells s.data.toList := by
      rw [hY, List.toList_toArray, List.take_zero, List.nil_append, List.drop_of_length_le (by rw [Array.length_toList]; omega), List.append_nil]
    have hYs : Y.size = s.size := by rw [← Array.length_toList, hYl, Lib.byteCells_length, ← Lib.size_eq]
    have hgY : ((w.alloc (.cells M 5)).setRow w.heap.size Y).heap[w.heap.size]? = some (.cells Y 5 (0, 0)) := setRow_heap _ _ M _ 5 (0, 0) (heap_alloc_new w _)
    have hne : s.data.toList ≠ [] := fun e => h0 (by rw [Lib.size_eq, e]; rfl)
    have hUS := Lib.run_unsafeString_row (P := Tryz.prog) ((w.alloc (.cells M 5)).setRow w.heap.size Y) 289 3 9 5 Tryz.underlying289 Tryz.cells5 w.heap.size Y.size (by unfold World.shape?; rw [hgY]) s.data.toList hne (by rw [← Lib.size_eq]; omega) (by rw [← Lib.size_eq]; omega)
      (fun j x hx => Lib.cells_of_row hgY Y.size j _ (by rw [List.take_of_length_le (by rw [Array.length_toList]; exact Nat.le_refl _), hYl]; simp [Lib.byteCells, hx]))
    rw [← Lib.size_eq] at hUS
    clear hY
    go_enter Tryz.func219, Tryz.ntmps219
    go_wp2
    go_ret
    have hb1 : Below w.heap.size w (w.alloc (.cells M 5)) := (Below.refl _ w).alloc (Nat.le_refl _) _
    have hb2 : Below w.heap.size (w.alloc (.cells M 5)) ((w.alloc (.cells M 5)).setRow w.heap.size Y) := ⟨rfl, rfl, rfl, by simp, fun k hk => setRow_other _ _ _ _ (by omega)⟩
    exact ⟨rfl, Lib.below_freeze (hb1.trans hb2) (p := ⟨w.heap.size, 0, none⟩) (Nat.le_refl _) _⟩
theorem ownText_any (s : ByteArray) (w : World) (hs : s.size ≤ 1048576) :
    Calls Tryz.prog 170 #[.string s] w fun e w' => e = .returned (.string s) ∧ Below w.heap.size w w' := by
  go_enter Tryz.func170, Tryz.ntmps170
  go_wp2_with (first | (go_at_call 219; refine (clone_any s _ hs).mono ?_; rintro e w' ⟨rfl, hb⟩) | go_in)
  go_ret
  exact ⟨rfl, hb⟩
theorem four_cells (w : World) (a b c d : UInt8) (t5 : TypeId) : (w.alloc (.cells #[.int .u8 a.toNat, .int .u8 b.toNat, .int .u8 c.toNat, .int .u8 d.toNat] t5)).ownsRow w.heap.size t5 1 (.slice (some ⟨w.heap.size, 0, none⟩) 4 4) 4 ([a, b, c, d].map bv) :=
  World.ownsRow_lit w #[.int .u8 a.toNat, .int .u8 b.toNat, .int .u8 c.toNat, .int .u8 d.toNat] 4 (Nat.le_refl _) (by decide) rfl
theorem byte_of_div (s k : Nat) : ∃ b : UInt8, UInt8.ofNat (s / k) = b ∧ ((s : Int) / k % 256 = (b.toNat : Int)) := ⟨_, rfl, by
  simp⟩
theorem inBytes_any (s : Nat) (w : World) (hs : s < 4294967296) :
    Calls Tryz.prog 128 #[.int .u32 s] w fun e w' => e = .returned (.string ⟨(four s).toArray⟩) ∧ Below w.heap.size w w' := by
  obtain ⟨b3, h3, e3⟩ := byte_of_div s 16777216
  obtain ⟨b2, h2, e2⟩ := byte_of_div s 65536
  obtain ⟨b1, h1, e1⟩ := byte_of_div s 256
  obtain ⟨b0, h0, e0⟩ := byte_of_div s 1
  have H4 : Hid (four s = [b3, b2, b1, b0]) := by show _ = _; rw [← h3, ← h2, ← h1, ← h0, Nat.div_one]; rfl
  have e3 : (s : Int) / 16777216 = (b3.toNat : Int) := by have := e3; omega
  have e2 : (s : Int) / 65536 % 256 = (b2.toNat : Int) := e2
  have e1 : (s : Int) / 256 % 256 = (b1.toNat : Int) := e1
  have e0 : (s : Int) % 256 = (b0.toNat : Int) := by have := e0; omega
  clear h3 h2 h1 h0
  have hcv := conv_own (P := Tryz.prog) 22 5 9 Tryz.underlying22 Tryz.underlying5 Tryz.underlying9 _ _ _ [b3, b2, b1, b0] (four_cells w b3 b2 b1 b0 5)
  go_enter Tryz.func128, Tryz.ntmps128
  go_wp2
  go_ret
  rw [H4.out]
  exact ⟨rfl, (Below.refl _ w).alloc (Nat.le_refl _) _⟩
theorem sumOf_any (s : ByteArray) (w : World) (hl : s.size ≤ 2097152) (hT : SumTab w) :
    Calls Tryz.prog 127 #[.string s] w fun e w' => e = .returned (.int .u32 (sumB 4294967295 s : Nat)) ∧ w' = w := by
  have HT := hide hT
  clear hT
  go_enter Tryz.func127, Tryz.ntmps127
  go_wp2_with (go_at_call 164; refine (sumMore_any 4294967295 s _ (by decide) hl HT.out).mono ?_; rintro e w' ⟨rfl, rfl⟩)
  go_ret
  exact ⟨rfl, rfl⟩
theorem sumB_lt (s : ByteArray) : sumB 4294967295 s < 4294967296 := sumL_lt _ (by decide)
theorem Wd.rv_canonF (s : ByteArray) (i : Nat) : ∀ f k, f + k = 5 → (∀ j, j < k → 128 ≤ Wd.bt s (i + j)) → ∀ n p, Wd.rvF s f (i + k) k (128 ^ k) (Wd.valF s i k) = some (n, p) →
    Wd.varF 5 n = Wd.subF s i (p - i) ∧ i < p ∧ p ≤ s.size := by
  intro f
  induction f with
  | zero => intro k _ _ n p h; simp [Wd.rvF] at h
  | succ f ih =>
    intro k hk hall n p h
    by_cases h1 : i + k < s.size
    · by_cases h2 : Wd.bt s (i + k) < 128
      · by_cases h3 : Wd.valF s i k + Wd.bt s (i + k) % 128 * 128 ^ k ≤ 1000000000 ∧ (0 < Wd.bt s (i + k) ∨ k = 0)
        · rw [Wd.rvF_last s f (i + k) k _ _ h1 h2 h3.1 h3.2, ← Wd.valF_snoc] at h
          simp only [Option.some.injEq, Prod.mk.injEq] at h
          obtain ⟨rfl, rfl⟩ := h
          rw [show i + k + 1 - i = k + 1 by omega]
          exact ⟨(Wd.canonF s k i 5 hall h2 (by omega)).2 h3.2, by omega, by omega⟩
        · rw [Wd.rvF_not s f _ k _ _ h2 h3] at h; simp at h
      · rw [Wd.rvF_more s f _ k _ _ h1 h2, ← Wd.valF_snoc, ← Nat.pow_succ] at h
        exact ih (k + 1) (by omega) (fun j hj => by
          by_cases e : j < k
          · exact hall j e
          · rw [show j = k by omega]; omega) n p h
    · rw [Wd.rvF_end s _ _ k _ _ h1] at h; simp at h
theorem Wd.rv_canon (s : ByteArray) (i n p : Nat) (h : Wd.rv s i = some (n, p)) : (s.extract i p).data.toList = Wd.varF 5 n ∧ i < p ∧ p ≤ s.size := by
  obtain ⟨h1, h2, h3⟩ := Wd.rv_canonF s i 5 0 rfl (fun j hj => absurd hj (by omega)) n p h
  refine ⟨?_, h2, h3⟩
  rw [h1, ← Wd.subF_extract s i (p - i) (by omega), show i + (p - i) = p by omega]
theorem Wd.rv_at_end (s : ByteArray) (i : Nat) (h : s.size ≤ i) : Wd.rv s i = none := Wd.rvF_end s 5 i 0 1 0 (by omega)
theorem Wd.varF_len : ∀ f n, (Wd.varF f n).length ≤ f
  | 0, _ => by simp [Wd.varF]
  | f + 1, n => by
    by_cases h : n < 128
    · rw [Wd.varF_low f n h]; simp
    · rw [Wd.varF_high f n h]; simp; exact Wd.varF_len f _
def frameB (t : ByteArray) : ByteArray := ⟨(Wd.varF 5 t.size).toArray⟩ ++ ⟨(four (sumB 4294967295 t)).toArray⟩ ++ t
theorem frameB_list (t : ByteArray) : (frameB t).data.toList = Wd.varF 5 t.size ++ four (sumB 4294967295 t) ++ t.data.toList := by
  unfold frameB
  simp
theorem frameB_size (t : ByteArray) : (frameB t).size = (Wd.varF 5 t.size).length + 4 + t.size := by
  unfold frameB
  rw [ByteArray.size_append, ByteArray.size_append]
  rfl
def frB (s : ByteArray) (i : Nat) : Option (Nat × Nat) :=
  match Wd.rv s i with
  | none => none
  | some (n, p) => if 1 ≤ n ∧ n ≤ 9000 ∧ p + 4 + n ≤ s.size ∧ s.extract p (p + 4) = ⟨(four (sumB 4294967295 (s.extract (p + 4) (p + 4 + n)))).toArray⟩ then some (p + 4, p + 4 + n) else none
theorem frB_num (s : ByteArray) (i : Nat) (h : Wd.rv s i = none) : frB s i = none := by unfold frB; rw [h]
theorem frB_no (s : ByteArray) (i n p : Nat) (h : Wd.rv s i = some (n, p)) (hc : ¬ (1 ≤ n ∧ n ≤ 9000 ∧ p + 4 + n ≤ s.size ∧ s.extract p (p + 4) = ⟨(four (sumB 4294967295 (s.extract (p + 4) (p + 4 + n)))).toArray⟩)) : frB s i = none := by
  unfold frB; rw [h]; exact if_neg hc
theorem frB_yes (s : ByteArray) (i n p : Nat) (h : Wd.rv s i = some (n, p)) (hc : 1 ≤ n ∧ n ≤ 9000 ∧ p + 4 + n ≤ s.size ∧ s.extract p (p + 4) = ⟨(four (sumB 4294967295 (s.extract (p + 4) (p + 4 + n)))).toArray⟩) : frB s i = some (p + 4, p + 4 + n) := by
  unfold frB; rw [h]; exact if_pos hc
theorem frB_bounds (s : ByteArray) (i : Nat) (x : Nat × Nat) (h : frB s i = some x) : i + 4 < x.1 ∧ x.1 < x.2 ∧ x.2 ≤ s.size := by
  cases hr : Wd.rv s i with
  | none => rw [frB_num s i hr] at h; simp at h
  | some q =>
    obtain ⟨n, p⟩ := q
    have hb := Wd.rv_bounds s i n p hr
    by_cases hc : 1 ≤ n ∧ n ≤ 9000 ∧ p + 4 + n ≤ s.size ∧ s.extract p (p + 4) = ⟨(four (sumB 4294967295 (s.extract (p + 4) (p + 4 + n)))).toArray⟩
    · rw [frB_yes s i n p hr hc] at h
      simp only [Option.some.injEq] at h
      subst h
      have := hc.1
      have := hc.2.2.1
      refine ⟨?_, ?_, ?_⟩ <;> dsimp only <;> omega
    · rw [frB_no s i n p hr hc] at h; simp at h
def frs (s : ByteArray) : Nat → Nat → List (Nat × Nat)
  | 0, _ => []
  | f + 1, i => match frB s i with
    | none => []
    | some x => x :: frs s f x.2
theorem frs_none (s : ByteArray) (f i : Nat) (h : frB s i = none) : frs s f i = [] := by
  cases f with
  | zero => rfl
  | succ f => unfold frs; rw [h]
theorem frs_some (s : ByteArray) (f i : Nat) (x : Nat × Nat) (h : frB s i = some x) : frs s (f + 1) i = x :: frs s f x.2 := by
  conv => lhs; unfold frs
  rw [h]
theorem frs_len (s : ByteArray) : ∀ f i, (frs s f i).length ≤ f
  | 0, _ => by simp [frs]
  | f + 1, i => by
    cases h : frB s i with
    | none => rw [frs_none s _ i h]; simp
    | some x => rw [frs_some s f i x h]; simp; exact frs_len s f x.2
theorem frs_same (s : ByteArray) : ∀ f g i, s.size < f + i → s.size < g + i → frs s f i = frs s g i
  | 0, g, i, hf, _ => by
    have : frB s i = none := frB_num s i (Wd.rv_at_end s i (by omega))
    rw [frs_none s _ i this, frs_none s _ i this]
  | f + 1, g, i, hf, hg => by
    cases h : frB s i with
    | none => rw [frs_none s _ i h, frs_none s _ i h]
    | some x =>
      have hb := frB_bounds s i x h
      cases g with
      | zero => omega
      | succ g => rw [frs_some s f i x h, frs_some s g i x h, frs_same s f g x.2 (by omega) (by omega)]
def unf (s : ByteArray) : List (Nat × Nat) := if s.size ≤ 20000 then frs s (s.size + 1) 0 else []
def endOf (l : List (Nat × Nat)) : Nat := match l.getLast? with
  | some x => x.2
  | none => 0
theorem endOf_snoc (l : List (Nat × Nat)) (x : Nat × Nat) : endOf (l ++ [x]) = x.2 := by simp [endOf]
def recs (s : ByteArray) (l : List (Nat × Nat)) : List (List UInt8) := l.map fun x => (s.extract x.1 x.2).data.toList
theorem recs_snoc (s : ByteArray) (l : List (Nat × Nat)) (x : Nat × Nat) : recs s (l ++ [x]) = recs s l ++ [(s.extract x.1 x.2).data.toList] := by simp [recs]
theorem recs_len (s : ByteArray) (l : List (Nat × Nat)) : (recs s l).length = l.length := by simp [recs]
theorem unf_len (s : ByteArray) : (unf s).length ≤ 20001 := by
  unfold unf
  split
  · have := frs_len s (s.size + 1) 0; omega
  · simp
theorem cut_three (s : ByteArray) (i p n : Nat) (h1 : i ≤ p) : (s.extract i (p + 4 + n)).data.toList = (s.extract i p).data.toList ++ (s.extract p (p + 4)).data.toList ++ (s.extract (p + 4) (p + 4 + n)).data.toList := by
  have e : ∀ a b c, a ≤ b → b ≤ c → (s.extract a c).data.toList = (s.extract a b).data.toList ++ (s.extract b c).data.toList := by
    intro a b c hab hbc
    simp only [ByteArray.data_extract, Array.toList_extract, List.extract_eq_take_drop]
    rw [show c - a = (b - a) + (c - b) by omega, List.take_add, List.drop_drop, show a + (b - a) = b by omega]
  rw [e i p (p + 4 + n) h1 (by omega), e p (p + 4) (p + 4 + n) (by omega) (by omega), List.append_assoc]
theorem frame_test (s : ByteArray) (i n p : Nat) (h : Wd.rv s i = some (n, p)) (hp : p + 4 + n ≤ s.size) :
    frameB (s.extract (p + 4) (p + 4 + n)) = s.extract i (p + 4 + n) ↔ s.extract p (p + 4) = ⟨(four (sumB 4294967295 (s.extract (p + 4) (p + 4 + n)))).toArray⟩ := by
  obtain ⟨hc, hi, _⟩ := Wd.rv_canon s i n p h
  have hz : (s.extract (p + 4) (p + 4 + n)).size = n := by rw [ByteArray.size_extract]; omega
  have ext : ∀ a b : ByteArray, a = b ↔ a.data.toList = b.data.toList := fun a b => ⟨fun e => by rw [e], fun e => ByteArray.ext (Array.toList_inj.1 e)⟩
  rw [ext, ext, frameB_list, hz, cut_three s i p n (by omega), hc]
  constructor
  · intro e
    exact (List.append_cancel_left (List.append_cancel_right e)).symm
  · intro e
    rw [e]
theorem implVar_yes (n : Nat) (w : World) (h1 : n ≤ 1000000000) :
    Calls Tryz.prog 83 #[.int .i64 n] w fun e w' => e = .returned (.tuple #[.string ⟨(Wd.varF 5 n).toArray⟩, .bool true]) ∧ Below w.heap.size w w' := by
  have h0 : decide ((n : Int) < 0) = false := by simp
  have h2 : decide (1000000000 < (n : Int)) = false := by simp; omega
  go_enter Tryz.func83, Tryz.ntmps83
  go_wp2
  go_loopw [0, 4] (fun t v wr => ∃ (f m : Nat) (acc : List UInt8), t = .int .i64 m ∧ m < 128 ^ (f + 1) ∧ m < 34359738368 ∧ acc.length + f = 4 ∧ wr.ownsRow w.heap.size 5 1 v acc.length (acc.map bv) ∧ Hid (acc ++ Wd.varF (f + 1) m = Wd.varF 5 n) ∧ Below w.heap.size w wr) (fun t _ _ => (intOf t).toNat)
  case atStart =>
    exact ⟨4, n, [], rfl, by omega, by omega, rfl, World.ownsRow_nil _ _ _ _, rfl, Below.refl _ _⟩
  case round =>
    obtain ⟨f, m, acc, rfl, hm, hm2, hl, hown, hacc, hb⟩ := hrel
    by_cases hlt : 128 ≤ m
    · obtain ⟨f, rfl⟩ : ∃ g, f = g + 1 := by
        cases f with
        | zero => simp at hm; omega
        | succ g => exact ⟨g, rfl⟩
      have hbs := hb.size
      have hfac : Hid (Wd.varF (f + 1 + 1) m = UInt8.ofNat (m % 128 + 128) :: Wd.varF (f + 1) (m / 128)) := Wd.varF_high _ _ (by omega)
      have hdiv := Wd.div_lt_pow _ _ hm
      obtain ⟨b, hbb, hbn⟩ : ∃ b : UInt8, Hid (b = UInt8.ofNat (m % 128 + 128)) ∧ Hid ((m : Int) % 128 + 128 = (b.toNat : Int)) := ⟨_, rfl, by simp only [Hid, UInt8.toNat_ofNat']; omega⟩
      go_wp2_with (at_builtin; refine app_bytes wr 22 5 Tryz.underlying22 Tryz.info5 w w.heap.size rfl _ _ rfl _ acc [b] rfl hown rfl (by simp [bv, hbn.out]) (by simp; omega) hb hbs ?_; intro v' w1 hown1 hb1 hs1)
      go_roundw
      case rel =>
        refine ⟨f, m / 128, acc ++ [b], by go_num, hdiv, by omega, by simp; omega, hown1, ?_, hb1⟩
        show _ = _
        rw [← hacc.out, hfac.out, ← hbb.out]; simp
      case measure => simp [intOf]; omega
    · have hbs := hb.size
      have hfac : Hid (Wd.varF (f + 1) m = [UInt8.ofNat m]) := Wd.varF_low _ _ (by omega)
      obtain ⟨b, hbb, hbn⟩ : ∃ b : UInt8, Hid (b = UInt8.ofNat m) ∧ Hid ((m : Int) = (b.toNat : Int)) := ⟨_, rfl, by simp only [Hid, UInt8.toNat_ofNat']; omega⟩
      go_wp2_with (at_builtin; refine app_bytes wr 22 5 Tryz.underlying22 Tryz.info5 w w.heap.size rfl _ _ rfl _ acc [b] rfl hown rfl (by simp [bv, hbn.out]) (by simp; omega) hb hbs ?_; intro v' w1 hown1 hb1 hs1; have hcv := conv_own 22 5 9 Tryz.underlying22 Tryz.underlying5 Tryz.underlying9 w1 _ _ _ hown1)
      go_ret2
      rw [← hacc.out, hfac.out, ← hbb.out]
      exact ⟨rfl, hb1⟩
theorem implRead_out (s : ByteArray) (i : Int) (w : World) (hs : s.size ≤ maxLen) (h : i < 0 ∨ (s.size : Int) < i) :
    Calls Tryz.prog 209 #[.string s, .int .i64 i] w fun e w' => e = .returned (rvAns none) ∧ w' = w := by
  unfold maxLen at hs
  rcases h with h | h
  · go_enter Tryz.func209, Tryz.ntmps209
    go_wp2
    go_ret3
    exact ⟨rfl, rfl⟩
  · have h' : ¬ i < 0 := by omega
    go_enter Tryz.func209, Tryz.ntmps209
    go_wp2
    go_ret3
    exact ⟨rfl, rfl⟩
theorem implRead_in (s : ByteArray) (i : Nat) (w : World) (hs : s.size ≤ maxLen) (h : i ≤ s.size) :
    Calls Tryz.prog 209 #[.string s, .int .i64 i] w fun e w' => e = .returned (rvAns (Wd.rv s i)) ∧ w' = w := by
  unfold maxLen at hs
  have h0 : decide ((i : Int) < 0) = false := by simp
  have h1 : decide ((s.size : Int) < (i : Int)) = false := by simp; omega
  go_enter Tryz.func209, Tryz.ntmps209
  go_wp2
  go_loop [7, 8, 9] (fun n q p => ∃ k f Q m P : Nat, n = .int .i64 m ∧ q = .int .i64 Q ∧ p = .int .i64 P ∧ P ≤ s.size ∧ Hid (Wd.rv s i = Wd.rvF s f P k Q m) ∧ Hid (P = i + k) ∧ ((k = 0 ∧ f = 5 ∧ Q = 1 ∧ m = 0) ∨ (k = 1 ∧ f = 4 ∧ Q = 128 ∧ m < 128) ∨ (k = 2 ∧ f = 3 ∧ Q = 16384 ∧ m < 16384) ∨ (k = 3 ∧ f = 2 ∧ Q = 2097152 ∧ m < 2097152) ∨ (k = 4 ∧ f = 1 ∧ Q = 268435456 ∧ m < 268435456) ∨ (k = 5 ∧ f = 0 ∧ Q = 34359738368 ∧ m < 34359738368))) (fun _ _ p => s.size - (intOf p).toNat)
  case atStart => exact ⟨0, 5, 1, 0, i, rfl, rfl, rfl, h, rfl, rfl, .inl ⟨rfl, rfl, rfl, rfl⟩⟩
  case round =>
    obtain ⟨k, f, Q, m, P, rfl, rfl, rfl, hP, hrv, hPk, hcase⟩ := hrel
    by_cases hlt : P < s.size
    · obtain ⟨b, hB, hbt, hb256⟩ : ∃ b : Nat, Hid (Wd.bt s P = b) ∧ (s[P]'hlt).toNat = b ∧ b < 256 := ⟨_, rfl, Wd.bt_eq s P hlt, Wd.bt_lt s P⟩
      by_cases hb : b < 128
      · by_cases hz : 0 < b
        · have hz' : decide (0 < (b : Int)) = true := by simp; omega
          rcases hcase with ⟨rfl, rfl, rfl, rfl⟩ | ⟨rfl, rfl, rfl, hm⟩ | ⟨rfl, rfl, rfl, hm⟩ | ⟨rfl, rfl, rfl, hm⟩ | ⟨rfl, rfl, rfl, hm⟩ | ⟨rfl, rfl, rfl, hm⟩
          case inr.inr.inr.inr.inr =>
            have hfin : Hid (Wd.rv s i = none) := hrv.out.trans rfl
            go_wp2
            go_ret3
            rw [hfin.out]
            exact ⟨rfl, rfl⟩
          case inr.inr.inr.inr.inl =>
            by_cases hn : m + b % 128 * 268435456 ≤ 1000000000
            · have hfin := hide (hrv.out.trans (Wd.rvF_lastB hB.out hlt hb hn (.inl hz)))
              go_wp2
              go_ret3
              rw [hfin.out]
              exact ⟨ret3 (by omega) (by omega), rfl⟩
            · have hfin := hide (hrv.out.trans (Wd.rvF_notB hB.out hb (fun h => hn h.1)))
              go_wp2
              go_ret3
              rw [hfin.out]
              exact ⟨rfl, rfl⟩
          all_goals
            have hfin := hide (hrv.out.trans (Wd.rvF_lastB hB.out hlt hb (by omega) (.inl hz)))
            go_wp2
            go_ret3
            rw [hfin.out]
            exact ⟨ret3 (by omega) (by omega), rfl⟩
        · have hz' : decide (0 < (b : Int)) = false := by simp; omega
          rcases hcase with ⟨rfl, rfl, rfl, rfl⟩ | ⟨rfl, rfl, rfl, hm⟩ | ⟨rfl, rfl, rfl, hm⟩ | ⟨rfl, rfl, rfl, hm⟩ | ⟨rfl, rfl, rfl, hm⟩ | ⟨rfl, rfl, rfl, hm⟩
          case inr.inr.inr.inr.inr =>
            have hfin : Hid (Wd.rv s i = none) := hrv.out.trans rfl
            go_wp2
            go_ret3
            rw [hfin.out]
            exact ⟨rfl, rfl⟩
          case inl =>
            have hfin := hide (hrv.out.trans (Wd.rvF_lastB hB.out hlt hb (by omega) (.inr rfl)))
            have hpi : ((P : Int) == (i : Int)) = true := by have := hPk.out; simp; omega
            go_wp2
            go_ret3
            rw [hfin.out]
            exact ⟨ret3 (by omega) (by omega), rfl⟩
          all_goals
            have hfin := hide (hrv.out.trans (Wd.rvF_notB hB.out hb (fun h => by have := h.2; omega)))
            have hpi : ((P : Int) == (i : Int)) = false := by have := hPk.out; simp; omega
            go_wp2
            go_ret3
            rw [hfin.out]
            exact ⟨rfl, rfl⟩
      · rcases hcase with ⟨rfl, rfl, rfl, rfl⟩ | ⟨rfl, rfl, rfl, hm⟩ | ⟨rfl, rfl, rfl, hm⟩ | ⟨rfl, rfl, rfl, hm⟩ | ⟨rfl, rfl, rfl, hm⟩ | ⟨rfl, rfl, rfl, hm⟩
        case inr.inr.inr.inr.inr =>
          have hfin : Hid (Wd.rv s i = none) := hrv.out.trans rfl
          go_wp2
          go_ret3
          rw [hfin.out]
          exact ⟨rfl, rfl⟩
        all_goals
          have hmore := hide (hrv.out.trans (Wd.rvF_moreB hB.out hlt hb))
          go_wp2
          go_round
          case rel =>
            refine ⟨_, _, _, _, P + 1, ?_, ?_, by go_num, by omega, hmore, by have := hPk.out; show _ = _; omega, ?_⟩
            · go_num
            · go_num
            · simp; try omega
          case measure => simp [intOf]; omega
    · have hfin : Hid (Wd.rv s i = none) := hrv.out.trans (Wd.rvF_end _ _ _ _ _ _ hlt)
      go_wp2
      go_ret3
      rw [hfin.out]
      exact ⟨rfl, rfl⟩
theorem implRead_any (s : ByteArray) (i : Int) (w : World) (hs : s.size ≤ 1048576) :
    Calls Tryz.prog 209 #[.string s, .int .i64 i] w fun e w' => e = .returned (rvAns (Wd.rvI s i)) ∧ w' = w := by
  by_cases h : i < 0 ∨ (s.size : Int) < i
  · rw [show Wd.rvI s i = none from if_pos h]
    exact implRead_out s i w (by unfold maxLen; omega) h
  · rw [show Wd.rvI s i = Wd.rv s i.toNat from if_neg h]
    obtain ⟨k, rfl⟩ := Int.eq_ofNat_of_zero_le (show 0 ≤ i by omega)
    exact implRead_in s k w (by unfold maxLen; omega) (by omega)
theorem implRead_some (s : ByteArray) (i : Int) (w : World) (a b : Nat) (hs : s.size ≤ 1048576) (h : Wd.rvI s i = some (a, b)) :
    Calls Tryz.prog 209 #[.string s, .int .i64 i] w fun e w' => e = .returned (.tuple #[.int .i64 a, .int .i64 b, .bool true]) ∧ w' = w := by
  have := implRead_any s i w hs; rw [h] at this; exact this
theorem implRead_none (s : ByteArray) (i : Int) (w : World) (hs : s.size ≤ 1048576) (h : Wd.rvI s i = none) :
    Calls Tryz.prog 209 #[.string s, .int .i64 i] w fun e w' => e = .returned (.tuple #[.int .i64 0, .int .i64 0, .bool false]) ∧ w' = w := by
  have := implRead_any s i w hs; rw [h] at this; exact this
theorem cut_at (s : ByteArray) (a b : Nat) (ai bi : Int) (R : ByteArray) (ha : ai = a) (hb : bi = b) (h1 : a ≤ b) (h2 : b ≤ s.size) (hR : s.extract a b = R) :
    ∀ W : World, (Instr.slice 9 (.string s) (some (.int .i64 ai)) (some (.int .i64 bi)) none).run Tryz.prog W = .ok (.string R) W := by
  intro W
  subst ha hb hR
  have := run_slice_string (P := Tryz.prog) W 9 s .i64 .i64 (a : Int) (b : Int) Tryz.underlying9 (by omega) (by omega) (by omega)
  rw [this, Int.toNat_natCast, Int.toNat_natCast]
theorem txt_eq {a b : ByteArray} (h : a = b) : (a.toList == b.toList) = true := by rw [h]; exact beq_self_eq_true _
theorem txt_ne {a b : ByteArray} (h : a ≠ b) : (a.toList == b.toList) = false := by
  rw [beq_eq_false_iff_ne, ByteArray.toList_eq, ByteArray.toList_eq]
  intro e
  exact h (ByteArray.ext (Array.toList_inj.1 e))
theorem lenOk_yes (n : Nat) (w : World) (h1 : 1 ≤ n) (h2 : n ≤ 9000) :
    Calls Tryz.prog 126 #[.int .i64 n] w fun e w' => e = .returned (.bool true) ∧ w' = w := by
  have h1' : decide ((1 : Int) ≤ (n : Int)) = true := by simp; omega
  have h2' : decide ((n : Int) ≤ 9000) = true := by simp; omega
  go_enter Tryz.func126, Tryz.ntmps126
  go_wp2
  go_ret
  exact ⟨rfl, rfl⟩
theorem lenOk_no (n : Nat) (w : World) (h : n < 1 ∨ 9000 < n) :
    Calls Tryz.prog 126 #[.int .i64 n] w fun e w' => e = .returned (.bool false) ∧ w' = w := by
  rcases h with h | h
  · have h1' : decide ((1 : Int) ≤ (n : Int)) = false := by simp; omega
    go_enter Tryz.func126, Tryz.ntmps126
    go_wp2
    go_ret
    exact ⟨rfl, rfl⟩
  · have h1' : decide ((1 : Int) ≤ (n : Int)) = true := by simp; omega
    have h2' : decide ((n : Int) ≤ 9000) = false := by simp; omega
    go_enter Tryz.func126, Tryz.ntmps126
    go_wp2
    go_ret
    exact ⟨rfl, rfl⟩
theorem frame_yes (t : ByteArray) (w : World) (h1 : 1 ≤ t.size) (h2 : t.size ≤ 9000) (hT : SumTab w) :
    Calls Tryz.prog 84 #[.string t] w fun e w' => e = .returned (.tuple #[.string (frameB t), .bool true]) ∧ Below w.heap.size w w' := by
  have HT := hide hT
  have HE : Hid (frameB t = ⟨(Wd.varF 5 t.size).toArray⟩ ++ ⟨(four (sumB 4294967295 t)).toArray⟩ ++ t) := rfl
  have hlt := sumB_lt t
  have h4 : (four (sumB 4294967295 t)).length = 4 := rfl
  have hv := Wd.varF_len 5 t.size
  clear hT
  go_enter Tryz.func84, Tryz.ntmps84
  go_wp2_with (first | (go_at_call 126; refine (lenOk_yes t.size _ h1 h2).mono ?_; rintro e w0 ⟨rfl, rfl⟩) | (go_at_call 83; refine (implVar_yes t.size _ (by omega)).mono ?_; rintro e w1 ⟨rfl, b1⟩) | (go_at_call 127; refine (sumOf_any t _ (by omega) (sumTab_later b1 HT.out)).mono ?_; rintro e w2 ⟨rfl, rfl⟩) | (go_at_call 128; refine (inBytes_any _ _ hlt).mono ?_; rintro e w3 ⟨rfl, b3⟩))
  go_ret2
  rw [HE.out]
  exact ⟨rfl, b1.trans (b3.mono b1.size)⟩
theorem frame_no (t : ByteArray) (w : World) (h : t.size < 1 ∨ 9000 < t.size) :
    Calls Tryz.prog 84 #[.string t] w fun e w' => e = .returned (.tuple #[.string ⟨#[]⟩, .bool false]) ∧ w' = w := by
  go_enter Tryz.func84, Tryz.ntmps84
  go_wp2_with (first | (go_at_call 126; refine (lenOk_no t.size _ h).mono ?_; rintro e w0 ⟨rfl, rfl⟩))
  go_ret2
  exact ⟨rfl, rfl⟩
theorem rvI_nat (s : ByteArray) (i : Nat) (h : i ≤ s.size) : Wd.rvI s (i : Int) = Wd.rv s i := by
  unfold Wd.rvI
  rw [if_neg (by omega), Int.toNat_natCast]
theorem frameAt_some (s : ByteArray) (i : Nat) (x : Nat × Nat) (w : World) (hs : s.size ≤ 20000) (hi : i ≤ s.size) (h : frB s i = some x) (hT : SumTab w) :
    Calls Tryz.prog 183 #[.string s, .int .i64 i] w fun e w' => e = .returned (.tuple #[.string (s.extract x.1 x.2), .int .i64 (x.2 : Int), .bool true]) ∧ Below w.heap.size w w' := by
  have HT := hide hT
  cases hr : Wd.rv s i with
  | none => rw [frB_num s i hr] at h; simp at h
  | some q =>
    obtain ⟨n, p⟩ := q
    have hb := Wd.rv_bounds s i n p hr
    by_cases hc : 1 ≤ n ∧ n ≤ 9000 ∧ p + 4 + n ≤ s.size ∧ s.extract p (p + 4) = ⟨(four (sumB 4294967295 (s.extract (p + 4) (p + 4 + n)))).toArray⟩
    · rw [frB_yes s i n p hr hc] at h
      simp only [Option.some.injEq] at h
      subst h
      obtain ⟨c1, c2, c3, c4⟩ := hc
      obtain ⟨R, hR⟩ : ∃ R, s.extract (p + 4) (p + 4 + n) = R := ⟨_, rfl⟩
      obtain ⟨T, hTx⟩ : ∃ T, s.extract p (p + 4) = T := ⟨_, rfl⟩
      have hRz : R.size ≤ 20000 := by rw [← hR, ByteArray.size_extract]; omega
      rw [hTx, hR] at c4
      have hcut1 := cut_at s (p + 4) (p + 4 + n) ((p : Int) + 4) ((p : Int) + 4 + n) R (by omega) (by omega) (by omega) c3 hR
      have hcut2 := cut_at s p (p + 4) (p : Int) ((p : Int) + 4) T rfl (by omega) (by omega) (by omega) hTx
      have hlt := sumB_lt R
      have heq : (four (sumB 4294967295 R) == T.toList) = true := by rw [c4, ByteArray.toList_eq]; exact beq_self_eq_true _
      have hread := hide (fun W => implRead_some s (i : Int) W n p (by omega) (by rw [rvI_nat s i hi]; exact hr))
      have HR := hide hR
      clear hT hr c4 hTx hR
      have hle : decide ((s.size : Int) - (p : Int) - 4 < (n : Int)) = false := by simp; omega
      go_enter Tryz.func183, Tryz.ntmps183
      go_wp2_with (first | (go_at_call 209; refine (hread.out _).mono ?_; rintro e w0 ⟨rfl, rfl⟩) | (go_at_call 126; refine (lenOk_yes n _ c1 c2).mono ?_; rintro e w1 ⟨rfl, rfl⟩))
      go_region_held3 (fun _ => True) (trivial) ((first | (go_at_call 127; refine (sumOf_any R _ (by omega) (by first | exact HT.out | exact sumTab_later ((Below.refl _ _).drew) HT.out)).mono ?_; rintro e w' ⟨rfl, rfl⟩) | (go_at_call 128; refine (inBytes_any _ _ hlt).mono ?_; rintro e w' ⟨rfl, b3⟩)))
      go_wp2
      go_ret3
      rw [HR.out]
      exact ⟨by simp, (Below.refl _ _).drew.trans b3⟩
    · rw [frB_no s i n p hr hc] at h; simp at h
theorem frameAt_none (s : ByteArray) (i : Nat) (w : World) (hs : s.size ≤ 20000) (hi : i ≤ s.size) (h : frB s i = none) (hT : SumTab w) :
    Calls Tryz.prog 183 #[.string s, .int .i64 i] w fun e w' => e = .returned (.tuple #[.string ⟨#[]⟩, .int .i64 0, .bool false]) ∧ Below w.heap.size w w' := by
  have HT := hide hT
  clear hT
  cases hr : Wd.rv s i with
  | none =>
    have hread := hide (fun W => implRead_none s (i : Int) W (by omega) (by rw [rvI_nat s i hi]; exact hr))
    clear hr h
    go_enter Tryz.func183, Tryz.ntmps183
    go_wp2_with (first | (go_at_call 209; refine (hread.out _).mono ?_; rintro e w0 ⟨rfl, rfl⟩))
    go_ret3
    exact ⟨rfl, Below.refl _ _⟩
  | some q =>
    obtain ⟨n, p⟩ := q
    have hb := Wd.rv_bounds s i n p hr
    have hread := hide (fun W => implRead_some s (i : Int) W n p (by omega) (by rw [rvI_nat s i hi]; exact hr))
    by_cases c12 : 1 ≤ n ∧ n ≤ 9000
    · by_cases c3 : p + 4 + n ≤ s.size
      · have c4 : ¬ s.extract p (p + 4) = ⟨(four (sumB 4294967295 (s.extract (p + 4) (p + 4 + n)))).toArray⟩ := fun c4 => by
          rw [frB_yes s i n p hr ⟨c12.1, c12.2, c3, c4⟩] at h; simp at h
        obtain ⟨c1, c2⟩ := c12
        obtain ⟨R, hR⟩ : ∃ R, s.extract (p + 4) (p + 4 + n) = R := ⟨_, rfl⟩
        obtain ⟨T, hTx⟩ : ∃ T, s.extract p (p + 4) = T := ⟨_, rfl⟩
        have hRz : R.size ≤ 20000 := by rw [← hR, ByteArray.size_extract]; omega
        rw [hTx, hR] at c4
        have hcut1 := cut_at s (p + 4) (p + 4 + n) ((p : Int) + 4) ((p : Int) + 4 + n) R (by omega) (by omega) (by omega) c3 hR
        have hcut2 := cut_at s p (p + 4) (p : Int) ((p : Int) + 4) T rfl (by omega) (by omega) (by omega) hTx
        have hlt := sumB_lt R
        have heq : (four (sumB 4294967295 R) == T.toList) = false := by
          rw [beq_eq_false_iff_ne, ByteArray.toList_eq]
          intro e
          exact c4 (ByteArray.ext (Array.toList_inj.1 e.symm))
        clear hr c4 hTx hR h
        have hle : decide ((s.size : Int) - (p : Int) - 4 < (n : Int)) = false := by simp; omega
        go_enter Tryz.func183, Tryz.ntmps183
        go_wp2_with (first | (go_at_call 209; refine (hread.out _).mono ?_; rintro e w0 ⟨rfl, rfl⟩) | (go_at_call 126; refine (lenOk_yes n _ c1 c2).mono ?_; rintro e w1 ⟨rfl, rfl⟩))
        go_region_held3 (fun _ => True) (trivial) ((first | (go_at_call 127; refine (sumOf_any R _ (by omega) (by first | exact HT.out | exact sumTab_later ((Below.refl _ _).drew) HT.out)).mono ?_; rintro e w' ⟨rfl, rfl⟩) | (go_at_call 128; refine (inBytes_any _ _ hlt).mono ?_; rintro e w' ⟨rfl, b3⟩)))
        go_wp2
        go_ret3
        exact ⟨rfl, (Below.refl _ _).drew.trans b3⟩
      · obtain ⟨c1, c2⟩ := c12
        have hle : decide ((s.size : Int) - (p : Int) - 4 < (n : Int)) = true := by simp; omega
        clear hr h
        go_enter Tryz.func183, Tryz.ntmps183
        go_wp2_with (first | (go_at_call 209; refine (hread.out _).mono ?_; rintro e w0 ⟨rfl, rfl⟩) | (go_at_call 126; refine (lenOk_yes n _ c1 c2).mono ?_; rintro e w1 ⟨rfl, rfl⟩))
        go_ret3
        exact ⟨rfl, Below.refl _ _⟩
    · have hno : n < 1 ∨ 9000 < n := by omega
      clear hr h
      go_enter Tryz.func183, Tryz.ntmps183
      go_wp2_with (first | (go_at_call 209; refine (hread.out _).mono ?_; rintro e w0 ⟨rfl, rfl⟩) | (go_at_call 126; refine (lenOk_no n _ hno).mono ?_; rintro e w1 ⟨rfl, rfl⟩))
      go_ret3
      exact ⟨rfl, Below.refl _ _⟩
theorem l01Var_any (n : Nat) (w : World) (h1 : n < 34359738368) :
    Calls Tryz.prog 87 #[.int .i64 n] w fun e w' => e = .returned (.string ⟨(Wd.varF 5 n).toArray⟩) ∧ Below w.heap.size w w' := by
  go_enter Tryz.func87, Tryz.ntmps87
  go_wp2
  go_loopw [0, 3] (fun t v wr => ∃ (f m : Nat) (acc : List UInt8), t = .int .i64 m ∧ m < 128 ^ (f + 1) ∧ m < 34359738368 ∧ acc.length + f = 4 ∧ wr.ownsRow w.heap.size 5 1 v acc.length (acc.map bv) ∧ Hid (acc ++ Wd.varF (f + 1) m = Wd.varF 5 n) ∧ Below w.heap.size w wr) (fun t _ _ => (intOf t).toNat)
  case atStart =>
    refine ⟨4, n, [], rfl, by omega, h1, rfl, ?_, rfl, (Below.refl _ _).alloc (Nat.le_refl _) _⟩
    exact World.ownsRow_lit w #[] 0 (Nat.le_refl _) (by unfold maxLen; omega) (by simp)
  case round =>
    obtain ⟨f, m, acc, rfl, hm, hm2, hl, hown, hacc, hb⟩ := hrel
    by_cases hlt : 127 < m
    · obtain ⟨f, rfl⟩ : ∃ g, f = g + 1 := by
        cases f with
        | zero => simp at hm; omega
        | succ g => exact ⟨g, rfl⟩
      have hbs := hb.size
      have hfac : Hid (Wd.varF (f + 1 + 1) m = UInt8.ofNat (m % 128 + 128) :: Wd.varF (f + 1) (m / 128)) := Wd.varF_high _ _ (by omega)
      have hdiv := Wd.div_lt_pow _ _ hm
      obtain ⟨b, hbb, hbn⟩ : ∃ b : UInt8, Hid (b = UInt8.ofNat (m % 128 + 128)) ∧ Hid ((m : Int) % 128 + 128 = (b.toNat : Int)) := ⟨_, rfl, by simp only [Hid, UInt8.toNat_ofNat']; omega⟩
      go_wp2_with (at_builtin; refine app_bytes wr 22 5 Tryz.underlying22 Tryz.info5 w w.heap.size rfl _ _ rfl _ acc [b] rfl hown rfl (by simp [bv, hbn.out]) (by simp; omega) hb hbs ?_; intro v' w1 hown1 hb1 hs1)
      go_roundw
      case rel =>
        refine ⟨f, m / 128, acc ++ [b], by go_num, hdiv, by omega, by simp; omega, hown1, ?_, hb1⟩
        show _ = _
        rw [← hacc.out, hfac.out, ← hbb.out]; simp
      case measure => simp [intOf]; omega
    · have hbs := hb.size
      have hfac : Hid (Wd.varF (f + 1) m = [UInt8.ofNat m]) := Wd.varF_low _ _ (by omega)
      obtain ⟨b, hbb, hbn⟩ : ∃ b : UInt8, Hid (b = UInt8.ofNat m) ∧ Hid ((m : Int) = (b.toNat : Int)) := ⟨_, rfl, by simp only [Hid, UInt8.toNat_ofNat']; omega⟩
      go_wp2_with (at_builtin; refine app_bytes wr 22 5 Tryz.underlying22 Tryz.info5 w w.heap.size rfl _ _ rfl _ acc [b] rfl hown rfl (by simp [bv, hbn.out]) (by simp; omega) hb hbs ?_; intro v' w1 hown1 hb1 hs1; have hcv := conv_own 22 5 9 Tryz.underlying22 Tryz.underlying5 Tryz.underlying9 w1 _ _ _ hown1)
      go_ret
      rw [← hacc.out, hfac.out, ← hbb.out]
      exact ⟨rfl, hb1⟩
theorem l01Var_int (n : Int) (w : World) (h0 : 0 ≤ n) (h1 : n < 34359738368) :
    Calls Tryz.prog 87 #[.int .i64 n] w fun e w' => e = .returned (.string ⟨(Wd.varF 5 n.toNat).toArray⟩) ∧ Below w.heap.size w w' := by
  obtain ⟨m, rfl⟩ := Int.eq_ofNat_of_zero_le h0
  exact l01Var_any m w (by omega)
theorem cut_run (s : ByteArray) (i P : Nat) (h1 : i ≤ P + 1) (h2 : P < s.size) : ∀ W : World, (Instr.slice 9 (.string s) (some (.int .i64 (i : Int))) (some (.int .i64 ((P : Int) + 1))) none).run Tryz.prog W = .ok (.string (s.extract i (P + 1))) W := by
  intro W
  have := run_slice_string (P := Tryz.prog) W 9 s .i64 .i64 (i : Int) ((P : Int) + 1) Tryz.underlying9 (by omega) (by omega) (by omega)
  rw [this, Int.toNat_natCast, show ((P : Int) + 1).toNat = P + 1 from by omega]
theorem canon_test (s : ByteArray) (i P k m b Q : Nat) (hPk : P = i + k) (hm : m = Wd.valF s i k) (hall : ∀ j, j < k → 128 ≤ Wd.bt s (i + j)) (hB : Wd.bt s P = b) (hb : b < 128) (hlt : P < s.size) (hk : k < 5) (hQ : Q = 128 ^ k) :
    ∀ N, N = m + b % 128 * Q → (Wd.varF 5 N == (s.extract i (P + 1)).toList) = decide (0 < b ∨ k = 0) := by
  intro N hN
  subst hPk hm hB hQ
  have e1 : N = Wd.valF s i (k + 1) := by rw [hN, Wd.valF_snoc]
  have e2 : (s.extract i (i + k + 1)).toList = Wd.subF s i (k + 1) := by
    rw [show i + k + 1 = i + (k + 1) from by omega, ByteArray.toList_eq, Wd.subF_extract s i (k + 1) (by omega)]
  rw [e1, e2, Bool.eq_iff_iff, beq_iff_eq, decide_eq_true_iff]
  exact Wd.canonF s k i 5 hall hb (by omega)
theorem val_more (s : ByteArray) (i P k m b : Nat) (hPk : P = i + k) (hm : m = Wd.valF s i k) (hB : Wd.bt s P = b) : m + b % 128 * 128 ^ k = Wd.valF s i (k + 1) := by
  subst hPk hm hB; rw [Wd.valF_snoc]
theorem all_more (s : ByteArray) (i P k b : Nat) (hPk : P = i + k) (hall : ∀ j, j < k → 128 ≤ Wd.bt s (i + j)) (hB : Wd.bt s P = b) (hb : 128 ≤ b) : ∀ j, j < k + 1 → 128 ≤ Wd.bt s (i + j) := by
  intro j hj
  by_cases h : j < k
  · exact hall j h
  · have : j = k := by omega
    subst this hPk; omega
theorem specRead_out (s : ByteArray) (i : Int) (w : World) (hs : s.size ≤ 1048576) (h : i < 0 ∨ (s.size : Int) < i) :
    Calls Tryz.prog 147 #[.string s, .int .i64 i] w fun e w' => e = .returned (rvAns none) ∧ w' = w := by
  rcases h with h | h
  · have h' : decide (0 ≤ i) = false := by simp; omega
    go_enter Tryz.func147, Tryz.ntmps147
    go_wp2
    go_ret3
    exact ⟨rfl, rfl⟩
  · have h' : 0 ≤ i := by omega
    have h2 : decide (i ≤ (s.size : Int)) = false := by simp; omega
    go_enter Tryz.func147, Tryz.ntmps147
    go_wp2
    go_ret3
    exact ⟨rfl, rfl⟩
theorem specRead_in (s : ByteArray) (i : Nat) (w : World) (hs : s.size ≤ 1048576) (h : i ≤ s.size) :
    Calls Tryz.prog 147 #[.string s, .int .i64 i] w fun e w' => e = .returned (rvAns (Wd.rv s i)) ∧ Below w.heap.size w w' := by
  have h0 : decide ((0 : Int) ≤ (i : Int)) = true := by simp
  have h1 : decide ((i : Int) ≤ (s.size : Int)) = true := by simp; omega
  go_enter Tryz.func147, Tryz.ntmps147
  go_wp2
  go_loop [7, 8, 9] (fun n q p => ∃ k f Q m P : Nat, n = .int .i64 m ∧ q = .int .i64 Q ∧ p = .int .i64 P ∧ P ≤ s.size ∧ Hid (Wd.rv s i = Wd.rvF s f P k Q m) ∧ Hid (P = i + k) ∧ Hid (m = Wd.valF s i k) ∧ Hid (∀ j, j < k → 128 ≤ Wd.bt s (i + j)) ∧ ((k = 0 ∧ f = 5 ∧ Q = 1 ∧ m = 0) ∨ (k = 1 ∧ f = 4 ∧ Q = 128 ∧ m < 128) ∨ (k = 2 ∧ f = 3 ∧ Q = 16384 ∧ m < 16384) ∨ (k = 3 ∧ f = 2 ∧ Q = 2097152 ∧ m < 2097152) ∨ (k = 4 ∧ f = 1 ∧ Q = 268435456 ∧ m < 268435456) ∨ (k = 5 ∧ f = 0 ∧ Q = 34359738368 ∧ m < 34359738368))) (fun _ _ p => s.size - (intOf p).toNat)
  case atStart => exact ⟨0, 5, 1, 0, i, rfl, rfl, rfl, h, rfl, rfl, rfl, fun j hj => absurd hj (by omega), .inl ⟨rfl, rfl, rfl, rfl⟩⟩
  case round =>
    obtain ⟨k, f, Q, m, P, rfl, rfl, rfl, hP, hrv, hPk, hval, hall, hcase⟩ := hrel
    by_cases hlt : P < s.size
    · obtain ⟨b, hB, hbt, hb256⟩ : ∃ b : Nat, Hid (Wd.bt s P = b) ∧ (s[P]'hlt).toNat = b ∧ b < 256 := ⟨_, rfl, Wd.bt_eq s P hlt, Wd.bt_lt s P⟩
      by_cases hb : b < 128
      · rcases hcase with ⟨rfl, rfl, rfl, rfl⟩ | ⟨rfl, rfl, rfl, hm⟩ | ⟨rfl, rfl, rfl, hm⟩ | ⟨rfl, rfl, rfl, hm⟩ | ⟨rfl, rfl, rfl, hm⟩ | ⟨rfl, rfl, rfl, hm⟩
        case inr.inr.inr.inr.inr =>
          have hfin : Hid (Wd.rv s i = none) := hrv.out.trans rfl
          have hP5 : decide ((P : Int) < (i : Int) + 5) = false := by have := hPk.out; simp; omega
          go_wp2
          go_ret3
          rw [hfin.out]
          exact ⟨rfl, Below.refl _ _⟩
        case inr.inr.inr.inr.inl =>
          have hP5 : decide ((P : Int) < (i : Int) + 5) = true := by have := hPk.out; simp; omega
          by_cases hn : m + b % 128 * 268435456 ≤ 1000000000
          · have hn' : decide (1000000000 < (m : Int) + (b : Int) % 128 * 268435456) = false := by simp; omega
            have hc := hide (canon_test s i P _ m b 268435456 hPk.out hval.out hall.out hB.out hb hlt (by omega) rfl)
            have hsl := cut_run s i P (by have := hPk.out; omega) hlt
            have hwr : IntKind.i64.wrap ((P : Int) + 1) = (P : Int) + 1 := by rw [IntKind.wrap_i64]; omega
            go_wp2
            go_region_held3 (fun _ => True) (trivial) ((go_at_call 87; refine (l01Var_int _ _ (by omega) (by omega)).mono ?_; rintro e w1 ⟨rfl, hbw⟩))
            go_wp2
            · have ht := ‹(!Wd.varF 5 _ == (s.extract i (P + 1)).toList) = true›
              rw [hc.out _ (by omega)] at ht
              have hz : ¬ (0 < b ∨ 4 = 0) := by simpa using ht
              have hfin := hide (hrv.out.trans (Wd.rvF_notB hB.out hb (fun h => hz h.2)))
              go_ret3
              rw [hfin.out]
              exact ⟨rfl, (Below.refl _ _).drew.trans hbw⟩
            · have ht := ‹(!Wd.varF 5 _ == (s.extract i (P + 1)).toList) = false›
              rw [hc.out _ (by omega)] at ht
              have hz : 0 < b ∨ 4 = 0 := by simpa using ht
              have hfin := hide (hrv.out.trans (Wd.rvF_lastB hB.out hlt hb hn hz))
              go_ret3
              rw [hfin.out]
              exact ⟨ret3 (by omega) (by omega), (Below.refl _ _).drew.trans hbw⟩
          · have hn' : decide (1000000000 < (m : Int) + (b : Int) % 128 * 268435456) = true := by simp; omega
            have hfin := hide (hrv.out.trans (Wd.rvF_notB hB.out hb (fun h => hn h.1)))
            go_wp2
            go_quiet (fail)
            go_wp2
            go_ret3
            rw [hfin.out]
            exact ⟨rfl, below_drewN (Below.refl _ _) _⟩
        case inl =>
          have hP5 : decide ((P : Int) < (i : Int) + 5) = true := by have := hPk.out; simp; omega
          have hn' : decide (1000000000 < (b : Int) % 128) = false := by simp; omega
          have hc := hide (canon_test s i P _ 0 b 1 hPk.out hval.out hall.out hB.out hb hlt (by omega) rfl)
          have hsl := cut_run s i P (by have := hPk.out; omega) hlt
          have hwr : IntKind.i64.wrap ((P : Int) + 1) = (P : Int) + 1 := by rw [IntKind.wrap_i64]; omega
          go_wp2
          go_region_held3 (fun _ => True) (trivial) ((go_at_call 87; refine (l01Var_int _ _ (by omega) (by omega)).mono ?_; rintro e w1 ⟨rfl, hbw⟩))
          go_wp2
          · have ht := ‹(!Wd.varF 5 _ == (s.extract i (P + 1)).toList) = true›
            rw [hc.out _ (by omega)] at ht
            exact absurd ht (by simp)
          · have hfin := hide (hrv.out.trans (Wd.rvF_lastB hB.out hlt hb (by omega) (.inr rfl)))
            go_ret3
            rw [hfin.out]
            exact ⟨ret3 (by omega) (by omega), (Below.refl _ _).drew.trans hbw⟩
        case inr.inl =>
          have hP5 : decide ((P : Int) < (i : Int) + 5) = true := by have := hPk.out; simp; omega
          have hn' : decide (1000000000 < (m : Int) + (b : Int) % 128 * 128) = false := by simp; omega
          have hc := hide (canon_test s i P _ m b 128 hPk.out hval.out hall.out hB.out hb hlt (by omega) rfl)
          have hsl := cut_run s i P (by have := hPk.out; omega) hlt
          have hwr : IntKind.i64.wrap ((P : Int) + 1) = (P : Int) + 1 := by rw [IntKind.wrap_i64]; omega
          go_wp2
          go_region_held3 (fun _ => True) (trivial) ((go_at_call 87; refine (l01Var_int _ _ (by omega) (by omega)).mono ?_; rintro e w1 ⟨rfl, hbw⟩))
          go_wp2
          · have ht := ‹(!Wd.varF 5 _ == (s.extract i (P + 1)).toList) = true›
            rw [hc.out _ (by omega)] at ht
            have hz : ¬ (0 < b ∨ 1 = 0) := by simpa using ht
            have hfin := hide (hrv.out.trans (Wd.rvF_notB hB.out hb (fun h => hz h.2)))
            go_ret3
            rw [hfin.out]
            exact ⟨rfl, (Below.refl _ _).drew.trans hbw⟩
          · have ht := ‹(!Wd.varF 5 _ == (s.extract i (P + 1)).toList) = false›
            rw [hc.out _ (by omega)] at ht
            have hz : 0 < b ∨ 1 = 0 := by simpa using ht
            have hfin := hide (hrv.out.trans (Wd.rvF_lastB hB.out hlt hb (by omega) hz))
            go_ret3
            rw [hfin.out]
            exact ⟨ret3 (by omega) (by omega), (Below.refl _ _).drew.trans hbw⟩
        case inr.inr.inl =>
          have hP5 : decide ((P : Int) < (i : Int) + 5) = true := by have := hPk.out; simp; omega
          have hn' : decide (1000000000 < (m : Int) + (b : Int) % 128 * 16384) = false := by simp; omega
          have hc := hide (canon_test s i P _ m b 16384 hPk.out hval.out hall.out hB.out hb hlt (by omega) rfl)
          have hsl := cut_run s i P (by have := hPk.out; omega) hlt
          have hwr : IntKind.i64.wrap ((P : Int) + 1) = (P : Int) + 1 := by rw [IntKind.wrap_i64]; omega
          go_wp2
          go_region_held3 (fun _ => True) (trivial) ((go_at_call 87; refine (l01Var_int _ _ (by omega) (by omega)).mono ?_; rintro e w1 ⟨rfl, hbw⟩))
          go_wp2
          · have ht := ‹(!Wd.varF 5 _ == (s.extract i (P + 1)).toList) = true›
            rw [hc.out _ (by omega)] at ht
            have hz : ¬ (0 < b ∨ 2 = 0) := by simpa using ht
            have hfin := hide (hrv.out.trans (Wd.rvF_notB hB.out hb (fun h => hz h.2)))
            go_ret3
            rw [hfin.out]
            exact ⟨rfl, (Below.refl _ _).drew.trans hbw⟩
          · have ht := ‹(!Wd.varF 5 _ == (s.extract i (P + 1)).toList) = false›
            rw [hc.out _ (by omega)] at ht
            have hz : 0 < b ∨ 2 = 0 := by simpa using ht
            have hfin := hide (hrv.out.trans (Wd.rvF_lastB hB.out hlt hb (by omega) hz))
            go_ret3
            rw [hfin.out]
            exact ⟨ret3 (by omega) (by omega), (Below.refl _ _).drew.trans hbw⟩
        case inr.inr.inr.inl =>
          have hP5 : decide ((P : Int) < (i : Int) + 5) = true := by have := hPk.out; simp; omega
          have hn' : decide (1000000000 < (m : Int) + (b : Int) % 128 * 2097152) = false := by simp; omega
          have hc := hide (canon_test s i P _ m b 2097152 hPk.out hval.out hall.out hB.out hb hlt (by omega) rfl)
          have hsl := cut_run s i P (by have := hPk.out; omega) hlt
          have hwr : IntKind.i64.wrap ((P : Int) + 1) = (P : Int) + 1 := by rw [IntKind.wrap_i64]; omega
          go_wp2
          go_region_held3 (fun _ => True) (trivial) ((go_at_call 87; refine (l01Var_int _ _ (by omega) (by omega)).mono ?_; rintro e w1 ⟨rfl, hbw⟩))
          go_wp2
          · have ht := ‹(!Wd.varF 5 _ == (s.extract i (P + 1)).toList) = true›
            rw [hc.out _ (by omega)] at ht
            have hz : ¬ (0 < b ∨ 3 = 0) := by simpa using ht
            have hfin := hide (hrv.out.trans (Wd.rvF_notB hB.out hb (fun h => hz h.2)))
            go_ret3
            rw [hfin.out]
            exact ⟨rfl, (Below.refl _ _).drew.trans hbw⟩
          · have ht := ‹(!Wd.varF 5 _ == (s.extract i (P + 1)).toList) = false›
            rw [hc.out _ (by omega)] at ht
            have hz : 0 < b ∨ 3 = 0 := by simpa using ht
            have hfin := hide (hrv.out.trans (Wd.rvF_lastB hB.out hlt hb (by omega) hz))
            go_ret3
            rw [hfin.out]
            exact ⟨ret3 (by omega) (by omega), (Below.refl _ _).drew.trans hbw⟩
      · rcases hcase with ⟨rfl, rfl, rfl, rfl⟩ | ⟨rfl, rfl, rfl, hm⟩ | ⟨rfl, rfl, rfl, hm⟩ | ⟨rfl, rfl, rfl, hm⟩ | ⟨rfl, rfl, rfl, hm⟩ | ⟨rfl, rfl, rfl, hm⟩
        case inr.inr.inr.inr.inr =>
          have hfin : Hid (Wd.rv s i = none) := hrv.out.trans rfl
          have hP5 : decide ((P : Int) < (i : Int) + 5) = false := by have := hPk.out; simp; omega
          go_wp2
          go_ret3
          rw [hfin.out]
          exact ⟨rfl, Below.refl _ _⟩
        all_goals
          have hP5 : decide ((P : Int) < (i : Int) + 5) = true := by have := hPk.out; simp; omega
          have hmore := hide (hrv.out.trans (Wd.rvF_moreB hB.out hlt hb))
          have hval' := hide (val_more s i P _ _ b hPk.out hval.out hB.out)
          have hall' := hide (all_more s i P _ b hPk.out hall.out hB.out (by omega))
          go_wp2
          go_round
          case rel =>
            refine ⟨_, _, _, _, P + 1, ?_, ?_, by go_num, by omega, hmore, by have := hPk.out; show _ = _; omega, hval', hall', ?_⟩
            · go_num
            · go_num
            · simp; try omega
          case measure => simp [intOf]; omega
    · have hfin : Hid (Wd.rv s i = none) := hrv.out.trans (Wd.rvF_end _ _ _ _ _ _ hlt)
      go_wp2
      go_ret3
      rw [hfin.out]
      exact ⟨rfl, Below.refl _ _⟩
theorem specRead_any (s : ByteArray) (i : Int) (w : World) (hs : s.size ≤ 1048576) :
    Calls Tryz.prog 147 #[.string s, .int .i64 i] w fun e w' => e = .returned (rvAns (Wd.rvI s i)) ∧ Below w.heap.size w w' := by
  by_cases h : i < 0 ∨ (s.size : Int) < i
  · rw [show Wd.rvI s i = none from if_pos h]
    exact (specRead_out s i w hs h).mono fun e w' ⟨he, hw⟩ => ⟨he, hw ▸ Below.refl _ _⟩
  · rw [show Wd.rvI s i = Wd.rv s i.toNat from if_neg h]
    obtain ⟨k, rfl⟩ := Int.eq_ofNat_of_zero_le (show 0 ≤ i by omega)
    exact specRead_in s k w hs (by omega)
theorem specRead_some (s : ByteArray) (i : Int) (w : World) (a b : Nat) (hs : s.size ≤ 1048576) (h : Wd.rvI s i = some (a, b)) :
    Calls Tryz.prog 147 #[.string s, .int .i64 i] w fun e w' => e = .returned (.tuple #[.int .i64 a, .int .i64 b, .bool true]) ∧ Below w.heap.size w w' := by
  have := specRead_any s i w hs; rw [h] at this; exact this
theorem specRead_none (s : ByteArray) (i : Int) (w : World) (hs : s.size ≤ 1048576) (h : Wd.rvI s i = none) :
    Calls Tryz.prog 147 #[.string s, .int .i64 i] w fun e w' => e = .returned (.tuple #[.int .i64 0, .int .i64 0, .bool false]) ∧ Below w.heap.size w w' := by
  have := specRead_any s i w hs; rw [h] at this; exact this
theorem l01In_yes (x a b : Int) (w : World) (h1 : a ≤ x) (h2 : x ≤ b) :
    Calls Tryz.prog 43 #[.int .i64 x, .int .i64 a, .int .i64 b] w fun e w' => e = .returned (.bool true) ∧ w' = w := by
  have h1' : decide (a ≤ x) = true := by simp; omega
  have h2' : decide (x ≤ b) = true := by simp; omega
  go_enter Tryz.func43, Tryz.ntmps43
  go_wp2
  go_ret
  exact ⟨rfl, rfl⟩
theorem l01In_no (x a b : Int) (w : World) (h : x < a ∨ b < x) :
    Calls Tryz.prog 43 #[.int .i64 x, .int .i64 a, .int .i64 b] w fun e w' => e = .returned (.bool false) ∧ w' = w := by
  by_cases h1 : a ≤ x
  · have h1' : decide (a ≤ x) = true := by simp; omega
    have h2' : decide (x ≤ b) = false := by simp; omega
    go_enter Tryz.func43, Tryz.ntmps43
    go_wp2
    go_ret
    exact ⟨rfl, rfl⟩
  · have h1' : decide (a ≤ x) = false := by simp; omega
    go_enter Tryz.func43, Tryz.ntmps43
    go_wp2
    go_ret
    exact ⟨rfl, rfl⟩
theorem figure_any (x : Int) (w : World) (h0 : 0 ≤ x) (h1 : x < 16) :
    Calls Tryz.prog 135 #[.int .i64 x] w fun e w' => e = .returned (.int .u8 (Wd.figI x)) ∧ w' = w := by
  by_cases h : x < 10
  · rw [Wd.figI_low x h]
    go_enter Tryz.func135, Tryz.ntmps135
    go_wp2
    go_ret
    exact ⟨rfl, rfl⟩
  · rw [Wd.figI_high x h]
    go_enter Tryz.func135, Tryz.ntmps135
    go_wp2
    go_ret
    refine ⟨?_, rfl⟩
    show Ending.returned (.int .u8 (97 + x - 10)) = _
    rw [show 97 + x - 10 = 87 + x from by omega]
theorem dec_zero (w : World) : Calls Tryz.prog 88 #[.int .i64 0] w fun e w' => e = .returned (.string ⟨(Wd.decS 0).toArray⟩) ∧ w' = w := by
  go_enter Tryz.func88, Tryz.ntmps88
  go_wp2
  go_ret
  exact ⟨rfl, rfl⟩
theorem conv_one (W : World) (d : Nat) (hd : d < 16) :
    (convert 22 9 (.slice (some ⟨W.heap.size, 0, none⟩) 1 1)).run Tryz.prog (W.alloc (.cells #[.int .u8 (Wd.figI (d : Int))] 5)) = .ok (.string ⟨#[Wd.figB d]⟩) (W.alloc (.cells #[.int .u8 (Wd.figI (d : Int))] 5)) := by
  refine run_convert_bytes_back (P := Tryz.prog) (W.alloc (.cells #[.int .u8 (Wd.figI (d : Int))] 5)) 22 9 5 ⟨W.heap.size, 0, none⟩ 1 [Wd.figB d] Tryz.underlying22 Tryz.underlying5 Tryz.underlying9 ?_
  intro j hj
  exact cells_new W #[.int .u8 (Wd.figI (d : Int))] 5 j _ (by
    have : j = 0 := by simpa using hj
    subst this
    simp [Wd.figB_val d hd])
theorem dec_pos (n : Nat) (w : World) (h0 : 0 < n) (h1 : n ≤ 9223372036854775807) :
    Calls Tryz.prog 88 #[.int .i64 n] w fun e w' => e = .returned (.string ⟨(Wd.decA 20 n []).toArray⟩) ∧ Below w.heap.size w w' := by
  have hz : ((n : Int) == 0) = false := by simp; omega
  have hneg : decide ((n : Int) < 0) = false := by simp
  go_enter Tryz.func88, Tryz.ntmps88
  go_wp2
  go_loopw [0, 4] (fun t v wr => ∃ (f m : Nat) (acc : List UInt8), t = .int .i64 m ∧ v = .string ⟨acc.toArray⟩ ∧ m < 10 ^ f ∧ m ≤ 9223372036854775807 ∧ acc.length + f = 20 ∧ Hid (Wd.decA f m acc = Wd.decA 20 n []) ∧ Below w.heap.size w wr) (fun t _ _ => (intOf t).toNat)
  case atStart => exact ⟨20, n, [], rfl, rfl, by omega, h1, rfl, rfl, Below.refl _ _⟩
  case round =>
    obtain ⟨f, m, acc, rfl, rfl, hm, hm2, hl, hacc, hb⟩ := hrel
    have hbs := hb.size
    by_cases hlt : 0 < m
    · obtain ⟨f, rfl⟩ : ∃ g, f = g + 1 := by
        cases f with
        | zero => simp at hm; omega
        | succ g => exact ⟨g, rfl⟩
      have hne : ((m : Int) != 0) = true := by simp; omega
      obtain ⟨d, hd, hd10, hdi⟩ : ∃ d : Nat, Hid (m % 10 = d) ∧ d < 10 ∧ (m : Int) % 10 = (d : Int) := ⟨_, rfl, by omega, by omega⟩
      have hfac := hide (Wd.decA_step f m acc (by omega))
      have hdiv : m / 10 < 10 ^ f := Nat.div_lt_of_lt_mul (by rw [Nat.mul_comm, ← Nat.pow_succ]; exact hm)
      have hcv := conv_one wr d (by omega)
      go_wp2_with (go_at_call 135; refine (figure_any _ _ (by omega) (by omega)).mono ?_; rintro e w1 ⟨rfl, rfl⟩)
      go_roundw
      case rel =>
        refine ⟨f, m / 10, Wd.figB d :: acc, by go_num, congrArg Value.string (cat_list [Wd.figB d] acc), hdiv, by omega, by simp; omega, ?_, hb.alloc hbs _⟩
        show _ = _
        rw [← hacc.out, hfac.out, hd.out]
      case measure => simp [intOf]; omega
    · have hm0 : m = 0 := by omega
      subst hm0
      have hfin := hide ((Wd.decA_zero f acc).symm.trans hacc.out)
      go_wp2
      go_ret
      rw [← hfin.out]
      exact ⟨rfl, hb⟩
theorem dec_neg (n : Nat) (w : World) (h0 : 0 < n) (h1 : n ≤ 9223372036854775808) :
    Calls Tryz.prog 88 #[.int .i64 (-(n : Int))] w fun e w' => e = .returned (.string ⟨(45 :: Wd.decA 20 n []).toArray⟩) ∧ Below w.heap.size w w' := by
  have hz : (-(n : Int) == 0) = false := by simp; omega
  have hneg : decide (-(n : Int) < 0) = true := by simp; omega
  have H1 := hide h1
  clear h1
  go_enter Tryz.func88, Tryz.ntmps88
  go_wp2
  go_loopw [0, 4] (fun t v wr => ∃ (f m : Nat) (acc : List UInt8), t = .int .i64 (-(m : Int)) ∧ v = .string ⟨acc.toArray⟩ ∧ m < 10 ^ f ∧ Hid (m ≤ 9223372036854775808) ∧ acc.length + f = 20 ∧ Hid (Wd.decA f m acc = Wd.decA 20 n []) ∧ Below w.heap.size w wr) (fun t _ _ => (- intOf t).toNat)
  case atStart => exact ⟨20, n, [], rfl, rfl, by have := H1.out; omega, H1, rfl, rfl, Below.refl _ _⟩
  case round =>
    obtain ⟨f, m, acc, rfl, rfl, hm, HM2, hl, hacc, hb⟩ := hrel
    have hbs := hb.size
    by_cases hlt : 0 < m
    · obtain ⟨f, rfl⟩ : ∃ g, f = g + 1 := by
        cases f with
        | zero => simp at hm; omega
        | succ g => exact ⟨g, rfl⟩
      have hne : (-(m : Int) != 0) = true := by simp; omega
      obtain ⟨d, hd, hd10, hdi⟩ : ∃ d : Nat, Hid (m % 10 = d) ∧ d < 10 ∧ (-(m : Int)).tmod 10 = -(d : Int) := ⟨_, rfl, by omega, by rw [Int.neg_tmod, Int.tmod_eq_emod_of_nonneg (by omega)]; omega⟩
      obtain ⟨q, hq, hqi⟩ : ∃ q : Nat, Hid (m / 10 = q) ∧ (-(m : Int)).tdiv 10 = -(q : Int) := ⟨_, rfl, by rw [Int.neg_tdiv, Int.tdiv_eq_ediv_of_nonneg (by omega)]; omega⟩
      have hq2 : q ≤ 922337203685477580 := by have := HM2.out; have := hq.out; omega
      have hqm : q < m := by have := hq.out; omega
      have hfac := hide (Wd.decA_step f m acc (by omega))
      have hdiv : q < 10 ^ f := by rw [← hq.out]; exact Nat.div_lt_of_lt_mul (by rw [Nat.mul_comm, ← Nat.pow_succ]; exact hm)
      have hcv := conv_one wr d (by omega)
      by_cases hd0 : 0 < d
      · have hdn : decide (-(d : Int) < 0) = true := by simp; omega
        go_wp2_with (go_at_call 135; refine (figure_any _ _ (by omega) (by omega)).mono ?_; rintro e w1 ⟨rfl, rfl⟩)
        go_roundw
        case rel =>
          refine ⟨f, q, Wd.figB d :: acc, by go_num, congrArg Value.string (cat_list [Wd.figB d] acc), hdiv, by show q ≤ 9223372036854775808; omega, by simp; omega, ?_, hb.alloc hbs _⟩
          show _ = _
          rw [← hacc.out, hfac.out, hd.out, hq.out]
        case measure => simp [intOf]; omega
      · have hd1 : d = 0 := by omega
        subst hd1
        rw [show ((0 : Nat) : Int) = 0 from rfl] at hcv hdi
        go_wp2_with (go_at_call 135; refine (figure_any _ _ (by omega) (by omega)).mono ?_; rintro e w1 ⟨rfl, rfl⟩)
        go_roundw
        case rel =>
          refine ⟨f, q, Wd.figB 0 :: acc, by go_num, congrArg Value.string (cat_list [Wd.figB 0] acc), hdiv, by show q ≤ 9223372036854775808; omega, by simp; omega, ?_, hb.alloc hbs _⟩
          show _ = _
          rw [← hacc.out, hfac.out, hd.out, hq.out]
        case measure => simp [intOf]; omega
    · have hm0 : m = 0 := by omega
      subst hm0
      have hfin := hide ((Wd.decA_zero f acc).symm.trans hacc.out)
      go_wp2
      go_ret
      rw [← hfin.out]
      exact ⟨congrArg (fun x => Ending.returned (Value.string x)) (cat_list [45] acc), hb⟩
theorem decimal_any (n : Int) (w : World) (h0 : -9223372036854775808 ≤ n) (h1 : n ≤ 9223372036854775807) :
    Calls Tryz.prog 88 #[.int .i64 n] w fun e w' => e = .returned (.string ⟨(Wd.decS n).toArray⟩) ∧ Below w.heap.size w w' := by
  by_cases hz : n = 0
  · subst hz
    exact (dec_zero w).mono fun e w' ⟨he, hw⟩ => ⟨he, hw ▸ Below.refl _ _⟩
  · by_cases hn : n < 0
    · obtain ⟨m, hm⟩ := Int.eq_ofNat_of_zero_le (show 0 ≤ -n by omega)
      have e : n = -(m : Int) := by omega
      subst e
      have es : Wd.decS (-(m : Int)) = 45 :: Wd.decA 20 m [] := by unfold Wd.decS; rw [if_neg hz, if_pos hn, Int.natAbs_neg, Int.natAbs_natCast]
      rw [es]
      exact dec_neg m w (by omega) (by omega)
    · obtain ⟨m, rfl⟩ := Int.eq_ofNat_of_zero_le (show 0 ≤ n by omega)
      have es : Wd.decS (m : Int) = Wd.decA 20 m [] := by unfold Wd.decS; rw [if_neg hz, if_neg hn, Int.natAbs_natCast]
      rw [es]
      exact dec_pos m w (by omega) (by omega)
theorem specMore_any (q0 : Nat) (s : ByteArray) (w : World) (hq0 : q0 < 4294967296) (hl : s.size ≤ 2097152) :
    Calls Tryz.prog 151 #[.int .u32 q0, .string s] w fun e w' => e = .returned (.int .u32 (sumB q0 s : Nat)) ∧ w' = w := by
  go_enter Tryz.func151, Tryz.ntmps151
  go_wp2
  go_loop [0, 5] (fun t u => ∃ (k q : Nat), t = .int .u32 q ∧ u = .int .i64 k ∧ k ≤ s.size ∧ q < 4294967296 ∧ Hid (sumFrom q s k = sumB q0 s)) (fun _ u => s.size - (intOf u).toNat)
  case atStart => exact ⟨0, q0, rfl, rfl, by omega, hq0, rfl⟩
  case round =>
    obtain ⟨k, q, rfl, rfl, hk, hq, hrest⟩ := hrel
    by_cases hlt : k < s.size
    · have hlt' : decide ((k : Int) < (s.size : Int)) = true := by simp; omega
      have HS := hide (sumFrom_step q s k hlt)
      obtain ⟨b, hbt, hb256⟩ : ∃ b : Nat, (s[k]'hlt).toNat = b ∧ b < 256 := ⟨_, rfl, byte_lt _⟩
      rw [hbt] at HS
      have hx0 := u32_xor_nat q b hq (by omega)
      have hx1 := xor_lt32 hq (show b < 4294967296 by omega)
      have HX : Hid (sb q b = hvN 8 (q ^^^ b)) := rfl
      have hq' := sb_lt hq hb256
      generalize q ^^^ b = x at hx0 hx1 HX
      go_wp2
      go_loop [0, 6] (fun t u => ∃ (j y : Nat), t = .int .u32 y ∧ u = .int .i64 j ∧ j ≤ 8 ∧ y < 4294967296 ∧ Hid (hvN (8 - j) y = hvN 8 x)) (fun _ u => 8 - (intOf u).toNat)
      case atStart => exact ⟨0, x, rfl, rfl, by omega, hx1, rfl⟩
      case round =>
        obtain ⟨j, y, rfl, rfl, hj, hy, HY⟩ := hrel
        by_cases hj8 : j < 8
        · have hj8' : decide ((j : Int) < 8) = true := by simp; omega
          have HN : Hid (hvN (8 - (j + 1)) (hv y) = hvN 8 x) := by
            show _ = _
            rw [← HY.out, show 8 - j = (8 - (j + 1)) + 1 by omega]; rfl
          have hy' := hv_lt hy
          by_cases hodd : y % 2 = 1
          · have ho : decide ((y : Int) % 2 = 1) = true := by simp; omega
            have ho2 : ((y : Int) % 2 == 1) = true := by simp; omega
            have hz := u32_xor_nat (y / 2) 3558460437 (by omega) (by decide)
            have hv1 : y / 2 ^^^ 3558460437 = hv y := by unfold hv; rw [if_pos hodd]
            rw [hv1, show ((y / 2 : Nat) : Int) = (y : Int) / 2 by omega] at hz
            have hz : bits .xor .u32 ((y : Int) / 2) 3558460437 = (hv y : Int) := hz
            clear hv1
            generalize hv y = z at HN hy' hz
            go_wp2
            go_round
            case rel => exact ⟨j + 1, z, rfl, by go_num, by omega, hy', HN⟩
            case measure => simp [intOf]; omega
          · have ho : decide ((y : Int) % 2 = 1) = false := by simp; omega
            have ho2 : ((y : Int) % 2 == 1) = false := by simp; omega
            have hv1 : hv y = y / 2 := by unfold hv; rw [if_neg hodd]
            rw [hv1] at HN hy'
            clear hv1
            go_wp2
            go_round
            case rel => exact ⟨j + 1, y / 2, by go_num, by go_num, by omega, hy', HN⟩
            case measure => simp [intOf]; omega
        · have hj8' : decide ((j : Int) < 8) = false := by simp; omega
          have HN : Hid (y = sb q b) := by
            show _ = _
            rw [HX.out, ← HY.out, show 8 - j = 0 by omega]; rfl
          go_wp2
          go_round
          case rel =>
            refine ⟨k + 1, sb q b, by rw [HN.out], by go_num, by omega, hq', ?_⟩
            show _ = _
            rw [← hrest.out, HS.out]
          case measure => simp [intOf]; omega
    · have hlt' : decide ((k : Int) < (s.size : Int)) = false := by simp; omega
      have HF : Hid (sumB q0 s = q) := by show _ = _; rw [← hrest.out, sumFrom_end _ _ _ (by omega)]
      go_wp2
      go_ret
      rw [HF.out]
      exact ⟨rfl, rfl⟩
theorem specFour_any (s : Nat) (w : World) (hs : s < 4294967296) :
    Calls Tryz.prog 111 #[.int .u32 s] w fun e w' => e = .returned (.string ⟨(four s).toArray⟩) ∧ Below w.heap.size w w' := by
  obtain ⟨b3, h3, e3⟩ := byte_of_div s 16777216
  obtain ⟨b2, h2, e2⟩ := byte_of_div s 65536
  obtain ⟨b1, h1, e1⟩ := byte_of_div s 256
  obtain ⟨b0, h0, e0⟩ := byte_of_div s 1
  have H4 : Hid (four s = [b3, b2, b1, b0]) := by show _ = _; rw [← h3, ← h2, ← h1, ← h0, Nat.div_one]; rfl
  have e3 : (s : Int) / 16777216 = (b3.toNat : Int) := by have := e3; omega
  have e2 : (s : Int) / 65536 % 256 = (b2.toNat : Int) := e2
  have e1 : (s : Int) / 256 % 256 = (b1.toNat : Int) := e1
  have e0 : (s : Int) % 256 = (b0.toNat : Int) := by have := e0; omega
  clear h3 h2 h1 h0
  have hcv := conv_own (P := Tryz.prog) 22 5 9 Tryz.underlying22 Tryz.underlying5 Tryz.underlying9 _ _ _ [b3, b2, b1, b0] (four_cells w b3 b2 b1 b0 5)
  go_enter Tryz.func111, Tryz.ntmps111
  go_wp2
  go_ret
  rw [H4.out]
  exact ⟨rfl, (Below.refl _ w).alloc (Nat.le_refl _) _⟩
theorem specOf_any (s : ByteArray) (w : World) (hl : s.size ≤ 2097152) :
    Calls Tryz.prog 112 #[.string s] w fun e w' => e = .returned (.int .u32 (sumB 4294967295 s : Nat)) ∧ w' = w := by
  go_enter Tryz.func112, Tryz.ntmps112
  go_wp2_with (go_at_call 151; refine (specMore_any 4294967295 s _ (by decide) hl).mono ?_; rintro e w' ⟨rfl, rfl⟩)
  go_ret
  exact ⟨rfl, rfl⟩
theorem specFrame_yes (t : ByteArray) (w : World) (h1 : 1 ≤ t.size) (h2 : t.size ≤ 9000) :
    Calls Tryz.prog 67 #[.string t] w fun e w' => e = .returned (.tuple #[.string (frameB t), .bool true]) ∧ Below w.heap.size w w' := by
  have HE : Hid (frameB t = ⟨(Wd.varF 5 t.size).toArray⟩ ++ ⟨(four (sumB 4294967295 t)).toArray⟩ ++ t) := rfl
  have hlt := sumB_lt t
  have h4 : (four (sumB 4294967295 t)).length = 4 := rfl
  have hv := Wd.varF_len 5 t.size
  go_enter Tryz.func67, Tryz.ntmps67
  go_wp2_with (first | (go_at_call 43; refine (l01In_yes _ _ _ _ (by omega) (by omega)).mono ?_; rintro e w0 ⟨rfl, rfl⟩) | (go_at_call 87; refine (l01Var_any t.size _ (by omega)).mono ?_; rintro e w1 ⟨rfl, b1⟩) | (go_at_call 112; refine (specOf_any t _ (by omega)).mono ?_; rintro e w2 ⟨rfl, rfl⟩) | (go_at_call 111; refine (specFour_any _ _ hlt).mono ?_; rintro e w3 ⟨rfl, b3⟩))
  go_ret2
  rw [HE.out]
  exact ⟨rfl, b1.trans (b3.mono b1.size)⟩
theorem specFrame_no (t : ByteArray) (w : World) (h : t.size < 1 ∨ 9000 < t.size) :
    Calls Tryz.prog 67 #[.string t] w fun e w' => e = .returned (.tuple #[.string ⟨#[]⟩, .bool false]) ∧ w' = w := by
  go_enter Tryz.func67, Tryz.ntmps67
  go_wp2_with (first | (go_at_call 43; refine (l01In_no _ _ _ _ (by omega)).mono ?_; rintro e w0 ⟨rfl, rfl⟩))
  go_ret2
  exact ⟨rfl, rfl⟩
theorem Tryz.info9 : (Tryz.prog.info? 9).map (fun i => (i.zero, i.size, i.bytes)) = some (some (.string ⟨#[]⟩), 1, 16) := by kernel_rfl
theorem app_str {ops : Array Oper} {rest : List Oper} {o : Oper} {a : Act} {Q : Exit → Act → World → Prop} {x : ByteArray} (wr : World) (w : World) (B : Nat) (hgd : o.guard = none) (s y : Operand)
    (ho : o.op = .call { callee := .builtin .append, args := #[s, y], argTypes := #[156, 156] }) (v : Value) (l : List (List UInt8)) (hs : a.eval s = v)
    (hown : wr.ownsRow B 9 1 v l.length (l.map sv)) (hx : a.eval y = .slice (some ⟨wr.heap.size, 0, none⟩) 1 1)
    (hlen : l.length ≤ 1000000) (hbel : Below B w wr) (hbase : B ≤ wr.heap.size)
    (h : ∀ v' w', w'.ownsRow B 9 1 v' (l ++ [x.data.toList]).length ((l ++ [x.data.toList]).map sv) → Below B w w' → wr.heap.size ≤ w'.heap.size → wpList Tryz.prog ops Q rest (a.put o.dst v') w') :
    wpList Tryz.prog ops Q (o :: rest) a (wr.alloc (.cells #[.string x] 9)) := by
  obtain ⟨i0, hi, hz0, hz1, hz2⟩ := info_parts Tryz.info9
  have hsz : wr.heap.size ≤ (wr.alloc (.cells #[.string x] 9)).heap.size := by simp
  refine wpList_append_own _ hgd s y 156 ho B 9 i0 (.string ⟨#[]⟩) 1 16 Tryz.underlying156 hi hz0 hz1 hz2 rfl (by decide) v l.length (l.map sv) hs (hown.alloc _) ⟨wr.heap.size, 0, none⟩ 1 1 [.string x] hx rfl
    (fun j u hj => cells_new wr #[.string x] 9 j u hj) (by intro u hu; simp at hu; subst hu; rfl) (by unfold maxLen; omega) (by omega) (by omega) ?_
  intro v' w' hown' hgrow _
  have hlt := hown.lt
  have hb1 : Below B w (wr.alloc (.cells #[.string x] 9)) := hbel.alloc hbase _
  refine h v' w' ?_ (hb1.grown hgrow (by omega) (fun k hk => (hlt k hk).1)) (Nat.le_trans hsz hgrow.size)
  have e : (l ++ [x.data.toList]).map sv = l.map sv ++ [.string x] := by
    rw [List.map_append]
    cases x
    simp [sv]
  rw [e, List.length_append]
  exact hown'
def FramesLeft (s : ByteArray) (w : World) (e : Ending) (w' : World) : Prop :=
  ∃ v, e = .returned (.tuple #[v, .int .i64 (endOf (unf s) : Nat)]) ∧ w'.ownsRow w.heap.size 9 1 v (recs s (unf s)).length ((recs s (unf s)).map sv) ∧ Below w.heap.size w w'
theorem unf_long (s : ByteArray) (h : 20000 < s.size) : unf s = [] := by unfold unf; rw [if_neg (by omega)]
theorem unf_in (s : ByteArray) (h : s.size ≤ 20000) : unf s = frs s (s.size + 1) 0 := by unfold unf; rw [if_pos h]
theorem specUnframe_long (s : ByteArray) (w : World) (hs : s.size ≤ 1048576) (h : 20000 < s.size) : Calls Tryz.prog 102 #[.string s] w (FramesLeft s w) := by
  have h' : decide (20000 < (s.size : Int)) = true := by simp; omega
  have hu := hide (unf_long s h)
  go_enter Tryz.func102, Tryz.ntmps102
  go_wp2
  go_ret2
  refine ⟨_, by rw [hu.out]; rfl, ?_, (Below.refl _ _).alloc (Nat.le_refl _) _⟩
  rw [hu.out]
  exact World.ownsRow_lit w #[] 0 (Nat.le_refl _) (by unfold maxLen; omega) (by simp)
theorem frames_done {s : ByteArray} {pre : List (Nat × Nat)} {f i : Nat} (hs : s.size ≤ 20000) (h : frs s (s.size + 1) 0 = pre ++ frs s f i) (hn : frB s i = none) : unf s = pre := by
  rw [unf_in s hs, h, frs_none s f i hn, List.append_nil]
theorem frames_left {s : ByteArray} {w wr : World} {v : Value} {pre : List (Nat × Nat)} {i : Int} (hu : unf s = pre) (hi : i = (endOf pre : Nat)) (hown : wr.ownsRow w.heap.size 9 1 v (recs s pre).length ((recs s pre).map sv)) (hb : Below w.heap.size w wr) :
    FramesLeft s w (.returned (.tuple #[v, .int .i64 i])) wr := by
  subst hi hu
  exact ⟨v, rfl, hown, hb⟩
theorem specUnframe_in (s : ByteArray) (w : World) (hs : s.size ≤ 20000) : Calls Tryz.prog 102 #[.string s] w (FramesLeft s w) := by
  have h' : decide (20000 < (s.size : Int)) = false := by simp; omega
  go_enter Tryz.func102, Tryz.ntmps102
  go_wp2
  go_loopw [4, 5] (fun o a wr => ∃ (pre : List (Nat × Nat)) (f i : Nat), a = .int .i64 i ∧ i ≤ s.size ∧ Hid ((i : Int) = (endOf pre : Nat)) ∧ Hid (frs s (s.size + 1) 0 = pre ++ frs s f i) ∧ s.size < f + i ∧ (recs s pre).length ≤ 20001 ∧ wr.ownsRow w.heap.size 9 1 o (recs s pre).length ((recs s pre).map sv) ∧ Below w.heap.size w wr) (fun _ a _ => s.size - (intOf a).toNat)
  case atStart =>
    exact ⟨[], s.size + 1, 0, rfl, Nat.zero_le _, rfl, rfl, by omega, by simp [recs], World.ownsRow_lit w #[] 0 (Nat.le_refl _) (by unfold maxLen; omega) (by simp), (Below.refl _ _).alloc (Nat.le_refl _) _⟩
  case round =>
    obtain ⟨pre, f, i, rfl, hi, hend, hall, hfuel, hpl, hown, hb⟩ := hrel
    have hbs := hb.size
    by_cases hlt : i < s.size
    · cases hr : Wd.rv s i with
      | none =>
        have hdone := hide (frames_done hs hall.out (frB_num s i hr))
        have hread := hide (fun W => specRead_none s (i : Int) W (by omega) (by unfold Wd.rvI; rw [if_neg (by omega), Int.toNat_natCast]; exact hr))
        clear hr
        go_wp2_with (first | (go_at_call 147; refine (hread.out _).mono ?_; rintro e w1 ⟨rfl, b1⟩))
        go_ret2
        exact frames_left hdone.out hend.out (ownsRow_below hown b1) (hb.trans (b1.mono hbs))
      | some q =>
        obtain ⟨n, p⟩ := q
        have hbd := Wd.rv_bounds s i n p hr
        have hread := hide (fun W => specRead_some s (i : Int) W n p (by omega) (by unfold Wd.rvI; rw [if_neg (by omega), Int.toNat_natCast]; exact hr))
        by_cases c3 : p + 4 + n ≤ s.size
        · have hle : decide ((s.size : Int) - (p : Int) - 4 < (n : Int)) = false := by simp; omega
          obtain ⟨R, hR⟩ : ∃ R, s.extract (p + 4) (p + 4 + n) = R := ⟨_, rfl⟩
          obtain ⟨T, hTx⟩ : ∃ T, s.extract i (p + 4 + n) = T := ⟨_, rfl⟩
          have hRz : R.size = n := by rw [← hR, ByteArray.size_extract]; omega
          have hcut1 := cut_at s (p + 4) (p + 4 + n) ((p : Int) + 4) ((p : Int) + 4 + n) R (by omega) (by omega) (by omega) c3 hR
          have hcut2 := cut_at s i (p + 4 + n) (i : Int) ((p : Int) + 4 + n) T rfl (by omega) (by omega) c3 hTx
          have htest := frame_test s i n p hr c3
          rw [hR, hTx] at htest
          by_cases c12 : 1 ≤ n ∧ n ≤ 9000
          · have hF := hide (fun W => specFrame_yes R W (by omega) (by omega))
            by_cases c4 : frameB R = T
            · have hfr := frB_yes s i n p hr ⟨c12.1, c12.2, c3, by rw [hR]; exact htest.1 c4⟩
              have hsame := txt_eq c4
              cases f with
              | zero => omega
              | succ f =>
                have hall' := hide (show frs s (s.size + 1) 0 = (pre ++ [(p + 4, p + 4 + n)]) ++ frs s f (p + 4 + n) by rw [hall.out, frs_some s f i _ hfr, List.append_assoc]; rfl)
                have hrec := hide (recs_snoc s pre (p + 4, p + 4 + n))
                have HR := hide hR
                have hlen' : (pre ++ [(p + 4, p + 4 + n)]).length ≤ s.size + 1 := by
                  have e := congrArg List.length hall'.out
                  rw [List.length_append] at e
                  have := frs_len s (s.size + 1) 0
                  omega
                clear hr htest c4 hR hTx hfr
                go_wp2_with (first | (go_at_call 147; refine (hread.out _).mono ?_; rintro e w1 ⟨rfl, b1⟩) | (go_at_call 67; refine (hF.out _).mono ?_; rintro e w2 ⟨rfl, b2⟩; have bb := hb.trans (b1.mono hbs)) | (at_builtin; refine app_str _ w w.heap.size rfl _ _ rfl _ (recs s pre) rfl (ownsRow_below (ownsRow_below hown b1) b2) rfl (by omega) (bb.trans (b2.mono bb.size)) (Nat.le_trans bb.size b2.size) ?_; intro v' w4 hown4 hb4 hs4))
                go_roundw
                case rel =>
                  refine ⟨pre ++ [(p + 4, p + 4 + n)], f, p + 4 + n, by go_num, c3, ?_, hall', by omega, by rw [recs_len]; omega, ?_, hb4⟩
                  · rw [endOf_snoc]; rfl
                  · rw [hrec.out, HR.out]; exact hown4
                case measure => simp [intOf]; omega
            · have hfr := frB_no s i n p hr (fun hc => c4 (htest.2 (by have := hc.2.2.2; rw [hR] at this; exact this)))
              have hdone := hide (frames_done hs hall.out hfr)
              have hsame := txt_ne c4
              clear hr htest c4 hR hTx hfr
              go_wp2_with (first | (go_at_call 147; refine (hread.out _).mono ?_; rintro e w1 ⟨rfl, b1⟩) | (go_at_call 67; refine (hF.out _).mono ?_; rintro e w2 ⟨rfl, b2⟩; have bb := hb.trans (b1.mono hbs)))
              go_ret2
              exact frames_left hdone.out hend.out (ownsRow_below (ownsRow_below hown b1) b2) (bb.trans (b2.mono bb.size))
          · have hfr := frB_no s i n p hr (fun hc => c12 ⟨hc.1, hc.2.1⟩)
            have hdone := hide (frames_done hs hall.out hfr)
            have hF := hide (fun W => specFrame_no R W (by omega))
            clear hr htest hR hTx hfr
            go_wp2_with (first | (go_at_call 147; refine (hread.out _).mono ?_; rintro e w1 ⟨rfl, b1⟩) | (go_at_call 67; refine (hF.out _).mono ?_; rintro e w2 ⟨rfl, rfl⟩))
            go_ret2
            exact frames_left hdone.out hend.out (ownsRow_below hown b1) (hb.trans (b1.mono hbs))
        · have hle : decide ((s.size : Int) - (p : Int) - 4 < (n : Int)) = true := by simp; omega
          have hdone := hide (frames_done hs hall.out (frB_no s i n p hr (fun hc => c3 hc.2.2.1)))
          clear hr
          go_wp2_with (first | (go_at_call 147; refine (hread.out _).mono ?_; rintro e w1 ⟨rfl, b1⟩))
          go_ret2
          exact frames_left hdone.out hend.out (ownsRow_below hown b1) (hb.trans (b1.mono hbs))
    · have hdone := hide (frames_done hs hall.out (frB_num s i (Wd.rv_at_end s i (by omega))))
      go_wp2
      go_ret2
      exact frames_left hdone.out hend.out hown hb
theorem specUnframe_any (s : ByteArray) (w : World) (hs : s.size ≤ 1048576) : Calls Tryz.prog 102 #[.string s] w (FramesLeft s w) := by
  by_cases h : s.size ≤ 20000
  · exact specUnframe_in s w h
  · exact specUnframe_long s w hs (by omega)
theorem bt_list (L : List UInt8) (p : Nat) (h : p < L.length) : Wd.bt ⟨L.toArray⟩ p = L[p].toNat := by
  unfold Wd.bt
  rw [dif_pos (show p < (⟨L.toArray⟩ : ByteArray).size from h)]
  rfl
theorem bt_here (L : List UInt8) (p : Nat) (b : UInt8) (h : L[p]? = some b) : Wd.bt ⟨L.toArray⟩ p = b.toNat := by
  obtain ⟨hp, e⟩ := List.getElem?_eq_some_iff.1 h
  rw [bt_list L p hp, e]
theorem rvF_varF (s : ByteArray) : ∀ f n p k q acc, n < 128 ^ (f + 1) → acc + n * q ≤ 1000000000 → (0 < n ∨ k = 0) →
    (∀ j b, (Wd.varF (f + 1) n)[j]? = some b → p + j < s.size ∧ Wd.bt s (p + j) = b.toNat) → Wd.rvF s (f + 1) p k q acc = some (acc + n * q, p + (Wd.varF (f + 1) n).length)
  | f, n, p, k, q, acc, hn, hb, hk, hs => by
    by_cases h : n < 128
    · rw [Wd.varF_low f n h] at hs ⊢
      have h0 := hs 0 (UInt8.ofNat n) rfl
      have hbt : Wd.bt s p = n := by have := h0.2; simpa [Nat.mod_eq_of_lt (show n < 256 by omega)] using this
      have := Wd.rvF_lastB (f := f) (q := q) (n := acc) (k := k) hbt h0.1 h (by rw [Nat.mod_eq_of_lt h]; exact hb) hk
      rw [this, Nat.mod_eq_of_lt h]
      rfl
    · rw [Wd.varF_high f n h] at hs ⊢
      have h0 := hs 0 (UInt8.ofNat (n % 128 + 128)) rfl
      have hbt : Wd.bt s p = n % 128 + 128 := by have := h0.2; simpa [Nat.mod_eq_of_lt (show n % 128 + 128 < 256 by omega)] using this
      rw [Wd.rvF_moreB (f := f) (q := q) (n := acc) (k := k) hbt h0.1 (by omega)]
      cases f with
      | zero => simp at hn; omega
      | succ f =>
        have e : acc + n * q = acc + (n % 128 + 128) % 128 * q + n / 128 * (q * 128) := by
          have e1 : (n % 128 + 128) % 128 = n % 128 := by omega
          have e2 : n * q = (n % 128 + 128 * (n / 128)) * q := by rw [Nat.mod_add_div]
          rw [e1, e2, Nat.add_mul, Nat.add_assoc, Nat.mul_comm q 128, ← Nat.mul_assoc, Nat.mul_comm 128 (n / 128)]
        have ih := rvF_varF s f (n / 128) (p + 1) (k + 1) (q * 128) (acc + (n % 128 + 128) % 128 * q) (Wd.div_lt_pow _ _ hn) (by rw [← e]; exact hb) (.inl (by omega))
          (fun j b hj => by
            have := hs (j + 1) b (by simpa using hj)
            rw [show p + 1 + j = p + (j + 1) by omega]
            exact this)
        rw [ih, ← e, List.length_cons]
        congr 2
        omega
theorem rvI_at (a b : List UInt8) (n : Nat) (hn : n ≤ 1000000000) (i : Int) (hi : i = (a.length : Int)) : Wd.rvI ⟨(a ++ Wd.varF 5 n ++ b).toArray⟩ i = some (n, a.length + (Wd.varF 5 n).length) := by
  subst hi
  unfold Wd.rvI
  have hsz : (⟨(a ++ Wd.varF 5 n ++ b).toArray⟩ : ByteArray).size = a.length + (Wd.varF 5 n).length + b.length := by
    show (a ++ Wd.varF 5 n ++ b).length = _
    rw [List.length_append, List.length_append]
  rw [if_neg (by rw [hsz]; omega), Int.toNat_natCast]
  unfold Wd.rv
  have := rvF_varF ⟨(a ++ Wd.varF 5 n ++ b).toArray⟩ 4 n a.length 0 1 0 (by omega) (by omega) (.inr rfl) (fun j x hj => by
    have hj' : j < (Wd.varF 5 n).length := (List.getElem?_eq_some_iff.1 hj).1
    refine ⟨by rw [hsz]; omega, bt_here _ _ _ ?_⟩
    rw [List.append_assoc, List.getElem?_append_right (by omega), Nat.add_sub_cancel_left, List.getElem?_append_left hj', hj])
  rw [this]
  simp
theorem Wd.varF_length : ∀ f n, (Wd.varF f n).length ≤ f
  | 0, _ => by simp [Wd.varF]
  | f + 1, n => by
    have := Wd.varF_length f (n / 128)
    by_cases h : n < 128
    · rw [Wd.varF_low f n h]; simp
    · rw [Wd.varF_high f n h]; simp; omega
def OwnsB (w : World) (B : Nat) (te : TypeId) (v : Value) (l : List UInt8) : Prop :=
  ∃ (g cap : Nat) (cur : Array Value) (fz : Nat × Nat), v = .slice (some ⟨g, 0, none⟩) l.length cap ∧ B ≤ g ∧ w.heap[g]? = some (.cells cur te fz) ∧ (fz = (0, 0) ∨ cur.size ≤ fz.1) ∧ l.length ≤ cap ∧ cap ≤ maxLen ∧ cur.size = cap ∧ cur.toList.take l.length = l.map bv
theorem ownsB_lt {w : World} {B : Nat} {te : TypeId} {v : Value} {l : List UInt8} (h : OwnsB w B te v l) : ∀ g, v.ownBlock = some g → B ≤ g ∧ g < w.heap.size := by
  obtain ⟨g, cap, cur, fz, rfl, hB, hC, _⟩ := h
  intro g' h
  obtain rfl : g = g' := by simpa [Value.ownBlock] using h
  exact ⟨hB, (Array.getElem?_eq_some_iff.1 hC).1⟩
theorem ownsB_le {w : World} {B B' : Nat} {te : TypeId} {v : Value} {l : List UInt8} (h : OwnsB w B te v l) (hb : B' ≤ B) : OwnsB w B' te v l := by
  obtain ⟨g, cap, cur, fz, h1, hB, h2⟩ := h
  exact ⟨g, cap, cur, fz, h1, Nat.le_trans hb hB, h2⟩
theorem ownsB_keep {w w' : World} {B : Nat} {te : TypeId} {v : Value} {l : List UInt8} (h : OwnsB w B te v l) (hk : ∀ g, v.ownBlock = some g → w'.heap[g]? = w.heap[g]?) : OwnsB w' B te v l := by
  obtain ⟨g, cap, cur, fz, rfl, hB, hC, h2⟩ := h
  exact ⟨g, cap, cur, fz, rfl, hB, (hk g rfl).trans hC, h2⟩
theorem ownsB_below {w w' : World} {B : Nat} {te : TypeId} {v : Value} {l : List UInt8} (h : OwnsB w B te v l) (hb : Below w.heap.size w w') : OwnsB w' B te v l :=
  ownsB_keep h (fun g hg => hb.block g (ownsB_lt h g hg).2)
theorem ownsB_cells {w : World} {B : Nat} {te : TypeId} {g n cap : Nat} {l : List UInt8} (h : OwnsB w B te (.slice (some ⟨g, 0, none⟩) n cap) l) : ∀ j u, (l.map bv)[j]? = some u → w.cell? ((⟨g, 0, none⟩ : Addr).add j) = some u := by
  obtain ⟨g', cap', cur, fz, e, _, hC, _, _, _, _, ht⟩ := h
  obtain ⟨rfl, -, -⟩ : g = g' ∧ n = l.length ∧ cap = cap' := by simpa using e
  intro j u hu
  have hadd : (⟨g, 0, none⟩ : Addr).add j = ⟨g, j, none⟩ := by cases j <;> simp [Addr.add]
  rw [hadd, cell_of_row w g j cur te fz hC]
  rw [← ht, List.getElem?_take] at hu
  split at hu
  · simpa using hu
  · cases hu
section
variable {P : Program}
theorem conv_made (w : World) (src dst e : TypeId) (s : ByteArray) (hs : P.underlying src = some .string) (hd : P.underlying dst = some (.slice e)) (he : P.underlying e = some (.int .u8)) (hz : s.size ≤ maxLen) :
    ∃ (W : World) (C : Nat), (convert src dst (.string s)).run P w = .ok (.slice (some ⟨w.heap.size, 0, none⟩) s.size C) W ∧ Below w.heap.size w W ∧ W.heap.size = w.heap.size + 1 ∧ OwnsB W w.heap.size e (.slice (some ⟨w.heap.size, 0, none⟩) s.size C) s.data.toList := by
  refine ⟨_, _, Lib.run_convert_string_bytes w src dst e s hs hd he, ⟨rfl, rfl, rfl, by rw [Lib.bytesWorld_size]; omega, fun k hk => Lib.bytesWorld_at_old w e _ k hk⟩, Lib.bytesWorld_size _ _ _, ?_⟩
  have hl : s.data.toList.length = s.size := Array.length_toList
  have hge := grownCap_ge w s.size 0 e
  have hsz : (Lib.bytesCells w e s).size = grownCap w s.size 0 e := by
    have h0 : s.data.size = s.size := rfl
    simp only [Lib.bytesCells, Array.size_append, Array.size_map, Array.size_replicate]
    omega
  refine ⟨w.heap.size, grownCap w s.size 0 e, Lib.bytesCells w e s, _, by rw [hl], Nat.le_refl _, Lib.bytesWorld_at_new w e s, .inr (Nat.le_refl _), by omega, grownCap_le_maxLen w _ _ e hz, hsz, ?_⟩
  rw [hl]
  have h0 : s.size = (s.data.map fun b => Value.int .u8 (b.toNat : Int)).toList.length := by simp
  simp only [Lib.bytesCells, Array.toList_append]
  conv => lhs; rw [h0]
  rw [List.take_left]
  simp [bv]
theorem store_behind (g o : Nat) (t : TypeId) (fz : Nat × Nat) : ∀ (vs : List Value) (i : Nat) (cur : Array Value) (w : World), w.heap[g]? = some (.cells cur t fz) → (fz = (0, 0) ∨ cur.size ≤ fz.1) → o + i + vs.length ≤ cur.size → (∀ v ∈ vs, v.oneCell' = true) →
    (storeCells ⟨g, o, none⟩ vs i).run P w = .ok () (w.setRow g (cur.toList.take (o + i) ++ vs ++ cur.toList.drop (o + i + vs.length)).toArray)
  | [], i, cur, w, hg, _, _, _ => by
    simp only [storeCells, List.append_nil, List.length_nil, Nat.add_zero, List.take_append_drop, Array.toArray_toList]
    rw [setRow_self w g cur t fz hg]
    rfl
  | v :: rest, i, cur, w, hg, hfz, hl, h1 => by
    have hlt : o + i < cur.size := by simp at hl; omega
    have ha : (⟨g, o, none⟩ : Addr).add i = ⟨g, o + i, none⟩ := by cases i <;> simp [Addr.add]
    have hf : w.frozen? ⟨g, o + i, none⟩ = false := by
      simp only [World.frozen?, hg]
      rcases hfz with rfl | hfz
      · simp
      · obtain ⟨lo, hi⟩ := fz
        have : ¬ lo ≤ o + i := by simp only at hfz; omega
        simp [this]
    have hc : w.cell? ⟨g, o + i, none⟩ = some cur[o + i] := by rw [cell_of_row w g _ cur t fz hg, Array.getElem?_eq_getElem hlt]
    have h2 : (store ((⟨g, o, none⟩ : Addr).add i) v).run P w = .ok () (w.setRow g (cur.setIfInBounds (o + i) v)) := by
      rw [ha, run_store P w _ v _ (h1 v (by simp)), hc]
      simp [hf, setCell_eq_setRow w g (o + i) cur t fz v hg]
    have h3 := store_behind g o t fz rest (i + 1) (cur.setIfInBounds (o + i) v) _ (setRow_heap w g cur (cur.setIfInBounds (o + i) v) t fz hg) (by simpa using hfz) (by simp at hl ⊢; omega) (fun x hx => h1 x (by simp [hx]))
    simp only [storeCells, Sem.run_bind, h2, Result.andThen_ok, h3, setRow_setRow]
    congr 3
    simpa [Array.toList_setIfInBounds, Nat.add_assoc] using list_seg_step cur.toList (o + i) v rest (by simp at hl ⊢; omega)
theorem append_made (w : World) (B : Nat) (t ty e : TypeId) (ht : P.underlying t = some (.slice e)) (hinfo : (P.info? e).map (fun i => (i.zero, i.size, i.bytes)) = some (some (.int .u8 0), 1, 1))
    (v : Value) (l news : List UInt8) (hown : OwnsB w B e v l) (a : Addr) (c : Nat) (hnews : ∀ j u, (news.map bv)[j]? = some u → w.cell? (a.add j) = some u) (hlen : l.length + news.length ≤ 70368744177664) (hbase : B ≤ w.heap.size) :
    ∃ v' w', (Builtin.append_ #[t, t] ty #[v, .slice (some a) news.length c]).run P w = .ok v' w' ∧ OwnsB w' B e v' (l ++ news) ∧ w.grownBy w' v.ownBlock := by
  obtain ⟨i0, hi, hz0, hz1, hz2⟩ := info_parts hinfo
  obtain ⟨g, cap, cur, fz, rfl, hB, hC, hfz, hnc, hcm, hcs, htk⟩ := hown
  have hl1 : (news.map bv).length = news.length * i0.size := by rw [hz1]; simp
  have hmx : l.length + news.length ≤ maxLen := by unfold maxLen; omega
  by_cases hroom : l.length + news.length ≤ cap
  · have hf := run_firstCells_some (P := P) w i0.size news.length a news.length c (news.map bv) hl1 hnews
    have hst := store_behind (P := P) g l.length e fz (news.map bv) 0 cur w hC hfz (by simp; omega) (bv_one news)
    simp only [Nat.add_zero] at hst
    obtain ⟨X, hX⟩ : ∃ X, X = (cur.toList.take l.length ++ news.map bv ++ cur.toList.drop (l.length + (news.map bv).length)).toArray := ⟨_, rfl⟩
    rw [← hX] at hst
    have hXs : X.size = cur.size := by rw [hX]; simp; omega
    refine ⟨.slice (some ⟨g, 0, none⟩) (l.length + news.length) cap, w.setRow g X, ?_, ⟨g, cap, X, fz, by rw [List.length_append], hB, setRow_heap w g cur X e fz hC, ?_, by rw [List.length_append]; exact hroom, hcm, ?_, ?_⟩, ⟨rfl, rfl, rfl, by simp, fun k _ hk => setRow_other w g k _ (fun e => hk (by simp [Value.ownBlock, e]))⟩⟩
    · simp [Builtin.append_, run_underlying ht, sizeOf, typeInfo, hi, hz1, Builtin.lenOf, hroom, hz1 ▸ hf, Addr.add_lit, hst]
    · rcases hfz with h | h
      · exact .inl h
      · exact .inr (by omega)
    · omega
    · rw [hX, htk, List.map_append, show (l ++ news).length = (l.map bv ++ news.map bv).length from by simp]
      exact List.take_left
  · have hr := run_append_grow (P := P) w t ty e i0 (.int .u8 0) ht hi hz0 ⟨g, 0, none⟩ l.length cap (l.map bv) (by rw [hz1]; simp) (ownsB_cells ⟨g, cap, cur, fz, rfl, hB, hC, hfz, hnc, hcm, hcs, htk⟩) a news.length c (news.map bv) hl1 hnews (by omega) (by unfold maxLen at hmx; omega) (by rw [hz2]; exact growslice_fits (by omega) (by omega))
    have hge := grownCap_ge w (l.length + news.length) cap e
    refine ⟨_, _, hr, ⟨w.heap.size, _, _, (0, 0), by rw [List.length_append], hbase, heap_alloc_new w.drew _, .inl rfl, by rw [List.length_append]; exact hge, grownCap_le_maxLen w _ _ e hmx, ?_, ?_⟩, ⟨rfl, rfl, rfl, by simp, fun k hk _ => Go.heap_alloc_old w.drew _ hk⟩⟩
    · have hz : (Value.int IntKind.u8 0).cells.size = 1 := rfl
      simp only [Array.size_append, List.size_toArray, size_zeroCells, hz, List.length_map]
      omega
    · simp only [Array.toList_append]
      rw [List.map_append, show (l ++ news).length = (l.map bv ++ news.map bv).length from by simp]
      exact List.take_left
theorem conv_backB (w : World) (ts tx te : TypeId) (B : Nat) (v : Value) (l : List UInt8) (hts : P.underlying ts = some (.slice te)) (hte : P.underlying te = some (.int .u8)) (htx : P.underlying tx = some .string) (hown : OwnsB w B te v l) :
    (convert ts tx v).run P w = .ok (.string ⟨l.toArray⟩) w := by
  obtain ⟨g, cap, cur, fz, rfl, hB, hC, hfz, hnc, hcm, hcs, htk⟩ := hown
  refine run_convert_bytes_back w ts tx te ⟨g, 0, none⟩ cap l hts hte htx ?_
  intro j hj
  refine ownsB_cells ⟨g, cap, cur, fz, rfl, hB, hC, hfz, hnc, hcm, hcs, htk⟩ j _ ?_
  simp [bv, hj]
theorem step_append_made {ops : Array Oper} {o : Oper} {a : Act} {K : Act → World → Prop} {Q : Exit → Act → World → Prop} {E : Prop} (W : World) (t e : TypeId) (ht : P.underlying t = some (.slice e)) (hinfo : (P.info? e).map (fun i => (i.zero, i.size, i.bytes)) = some (some (.int .u8 0), 1, 1))
    (B : Nat) (hgd : o.guard = none) (s x : Operand) (ho : o.op = .call { callee := .builtin .append, args := #[s, x], argTypes := #[t, t] }) (v : Value) (l news : List UInt8) (hs : a.eval s = v) (hown : OwnsB W B e v l)
    (ad : Addr) (c : Nat) (hx : a.eval x = .slice (some ad) news.length c) (hnews : ∀ j u, (news.map bv)[j]? = some u → W.cell? (ad.add j) = some u) (hlen : l.length + news.length ≤ 70368744177664) (hbase : B ≤ W.heap.size)
    (h : ∀ v' w', OwnsB w' B e v' (l ++ news) → W.grownBy w' v.ownBlock → K (a.put o.dst v') w') :
    if Region.wanted o (yielded ops a.tmps) = true then Oper.wp P o a W K Q else E := by
  have hw : Region.wanted o (yielded ops a.tmps) = true := by simp [Region.wanted, hgd]
  rw [if_pos hw]
  obtain ⟨v', w', hr, h1, h2⟩ := append_made (P := P) W B t o.type e ht hinfo v l news hown ad c hnews hlen hbase
  unfold Oper.wp execOp
  simp only [ho, resolve, invoke, builtin, Sem.run_bind, Sem.run_pure, Result.andThen_ok, List.map_toArray, List.map_cons, List.map_nil, hs, hx, hr]
  exact h v' w' h1 h2
end
theorem cut_len (s : ByteArray) (p n : Nat) (h : p + n ≤ s.size) : ∀ W : World, (Instr.slice 9 (.string s) (some (.int .i64 (p : Int))) (some (.int .i64 ((p : Int) + (n : Int)))) none).run Tryz.prog W = .ok (.string (s.extract p (p + n))) W := by
  intro W
  have := run_slice_string (P := Tryz.prog) W 9 s .i64 .i64 (p : Int) ((p : Int) + (n : Int)) Tryz.underlying9 (by omega) (by omega) (by omega)
  rw [this, Int.toNat_natCast, show ((p : Int) + (n : Int)).toNat = p + n from by omega]
theorem implRShort_none (s : ByteArray) (i : Int) (w : World) (hs : s.size ≤ 1048576) (h : Wd.rvI s i = none) :
    Calls Tryz.prog 265 #[.string s, .int .i64 i] w fun e w' => e = .returned (.tuple #[.string ⟨#[]⟩, .int .i64 0, .bool false]) ∧ Below w.heap.size w w' := by
  have H := hide h
  clear h
  go_enter Tryz.func265, Tryz.ntmps265
  go_wp2_with (go_at_call 209; refine (implRead_none s i _ hs H.out).mono ?_; rintro e w1 ⟨rfl, rfl⟩)
  go_ret3
  exact ⟨rfl, Below.refl _ _⟩
theorem implRShort_no (s : ByteArray) (i : Int) (w : World) (n p : Nat) (hs : s.size ≤ 1048576) (h : Wd.rvI s i = some (n, p)) (hno : 20000 < n ∨ s.size < p + n) :
    Calls Tryz.prog 265 #[.string s, .int .i64 i] w fun e w' => e = .returned (.tuple #[.string ⟨#[]⟩, .int .i64 0, .bool false]) ∧ Below w.heap.size w w' := by
  have hbd := Wd.rvI_bounds s i n p h
  have H := hide h
  clear h
  by_cases hn : 20000 < n
  · have hn' : decide (20000 < (n : Int)) = true := by simp; omega
    go_enter Tryz.func265, Tryz.ntmps265
    go_wp2_with (go_at_call 209; refine (implRead_some s i _ n p hs H.out).mono ?_; rintro e w1 ⟨rfl, rfl⟩)
    go_ret3
    exact ⟨rfl, Below.refl _ _⟩
  · have hn' : decide (20000 < (n : Int)) = false := by simp; omega
    have hn2 : decide ((s.size : Int) - (p : Int) < (n : Int)) = true := by simp; omega
    go_enter Tryz.func265, Tryz.ntmps265
    go_wp2_with (go_at_call 209; refine (implRead_some s i _ n p hs H.out).mono ?_; rintro e w1 ⟨rfl, rfl⟩)
    go_ret3
    exact ⟨rfl, Below.refl _ _⟩
theorem implRShort_yes (s : ByteArray) (i : Int) (w : World) (n p : Nat) (hs : s.size ≤ 1048576) (h : Wd.rvI s i = some (n, p)) (hn : n ≤ 20000) (hp : p + n ≤ s.size) :
    Calls Tryz.prog 265 #[.string s, .int .i64 i] w fun e w' => e = .returned (.tuple #[.string (s.extract p (p + n)), .int .i64 ((p : Int) + (n : Int)), .bool true]) ∧ Below w.heap.size w w' := by
  have hsl := cut_len s p n hp
  have H := hide h
  clear h
  have hn' : decide (20000 < (n : Int)) = false := by simp; omega
  have hn2 : decide ((s.size : Int) - (p : Int) < (n : Int)) = false := by simp; omega
  go_enter Tryz.func265, Tryz.ntmps265
  go_wp2_with (first | (go_at_call 209; refine (implRead_some s i _ n p hs H.out).mono ?_; rintro e w1 ⟨rfl, rfl⟩) | (go_at_call 170; refine (ownText_any _ _ (by simp only [ByteArray.size_extract]; omega)).mono ?_; rintro e w2 ⟨rfl, hb2⟩))
  go_ret3
  exact ⟨rfl, hb2⟩
end Go.Proofs.YtmmchemgegmhhaaGreatDoor
