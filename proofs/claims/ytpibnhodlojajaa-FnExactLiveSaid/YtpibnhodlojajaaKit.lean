/- Small laws over any program: a slice of bytes that the call itself has made is appended to, byte by byte, and turned into a text. -/
import Derived.WalkKit
import Derived.WalkSpells
import Derived.WalkLawsBesides
import Derived.Outline
import Derived.Laws.IdiomStrings
import Derived.Deep.AppendLies
import Derived.Deep.RegionHeld3
import Derived.BigQuiet
import Derived.WalkSmall
namespace Go.Proofs.Ytpibnhodlojajaa
open Go.RowKit

theorem hide {p : Prop} (h : p) : Hid p := h

/-- A byte as a value in memory. -/
def bv (b : UInt8) : Value := .int .u8 (b.toNat : Int)

theorem bv_one (l : List UInt8) : ∀ u ∈ l.map bv, u.oneCell' = true := by
  intro u hu
  obtain ⟨b, _, rfl⟩ := List.mem_map.1 hu
  rfl

theorem cells_new (w : World) (C : Array Value) (t : TypeId) : ∀ j u, C.toList[j]? = some u → (w.alloc (.cells C t)).cell? ((⟨w.heap.size, 0, none⟩ : Addr).add j) = some u := by
  intro j u h
  simp only [Array.getElem?_toList] at h
  have e : ((⟨w.heap.size, 0, none⟩ : Addr).add j) = ⟨w.heap.size, j, none⟩ := by cases j <;> simp [Addr.add]
  rw [e]
  exact (World.cell?_alloc_mark w C t (0, 0) j).trans h

theorem size_alloc_drew (w : World) (o : Obj) : w.heap.size ≤ (w.alloc o).drew.heap.size := by simp

theorem grownBy_trans {a b c : World} {r : Option Nat} (h : a.grownBy b r) (k : b.grownBy c r) : a.grownBy c r :=
  ⟨k.os.trans h.os, k.tape.trans h.tape, k.output.trans h.output, Nat.le_trans h.size k.size, fun i hi hr => (k.block i (Nat.lt_of_lt_of_le hi h.size) hr).trans (h.block i hi hr)⟩
theorem grownBy_below {a b : World} (r : Option Nat) (h : Below a.heap.size a b) : a.grownBy b r := ⟨h.os, h.tape, h.output, h.size, fun k hk _ => h.block k hk⟩
theorem grownBy_store {a b : World} {g : Nat} (h : a.grownBy b (some g)) (j : Nat) (u : Value) : a.grownBy (b.setCell ⟨g, j, none⟩ u) (some g) :=
  ⟨h.os, h.tape, h.output, by have := h.size; simpa [World.setCell] using this, fun k hk hne => (Below.heap_setCell _ _ _ _ (by intro e; exact hne (by rw [e]))).trans (h.block k hk hne)⟩

theorem ownsRow_below {w w' : World} {B : Nat} {e : TypeId} {size : Nat} {v : Value} {n : Nat} {xs : List Value} (h : w.ownsRow B e size v n xs) (hb : Below w.heap.size w w') : w'.ownsRow B e size v n xs :=
  h.kept (grownBy_below none hb) (by cases hv : v.ownBlock with | none => exact .inl rfl | some k => exact .inr (by simp))

theorem ownsRow_drewN {w : World} {B : Nat} {e : TypeId} {size : Nat} {v : Value} {n : Nat} {xs : List Value} (h : w.ownsRow B e size v n xs) (q : Nat) : (w.drewN q).ownsRow B e size v n xs := h

theorem ownsRow_mono {w : World} {B B' : Nat} {e : TypeId} {size : Nat} {v : Value} {n : Nat} {xs : List Value} (h : w.ownsRow B e size v n xs) (hB : B' ≤ B) : w.ownsRow B' e size v n xs := by
  refine ⟨h.1, ?_⟩
  rcases h.2 with h | ⟨g, cap, cur, hv, hb, r⟩
  · exact .inl h
  · exact .inr ⟨g, cap, cur, hv, by omega, r⟩

theorem drewN_below (w : World) (q : Nat) : Below w.heap.size w (w.drewN q) := below_drewN (Below.refl _ _) q

theorem cat_list (a b : List UInt8) : (⟨a.toArray⟩ : ByteArray) ++ ⟨b.toArray⟩ = ⟨(a ++ b).toArray⟩ := by
  apply ByteArray.ext
  simp

/-- A text as a value in memory. -/
def sv (l : List UInt8) : Value := .string ⟨l.toArray⟩

theorem slice_form {w : World} {B : Nat} {e : TypeId} {size : Nat} {v : Value} {n : Nat} {xs : List Value} (h : w.ownsRow B e size v n xs) : ∃ a c, v = .slice a n c := by
  rcases h.2 with ⟨rfl, rfl⟩ | ⟨g, cap, cur, rfl, _⟩
  · exact ⟨none, 0, rfl⟩
  · exact ⟨_, cap, rfl⟩

section
variable {P : Program}

/-- The text of a slice that owns the bytes l. -/
theorem conv_own (ts te tx : TypeId) (hts : P.underlying ts = some (.slice te)) (hte : P.underlying te = some (.int .u8)) (htx : P.underlying tx = some .string)
    (w : World) (base : Nat) (v : Value) (l : List UInt8) (h : w.ownsRow base te 1 v l.length (l.map bv)) :
    (convert ts tx v).run P w = .ok (.string ⟨l.toArray⟩) w := by
  rcases h.2 with ⟨hv, hn⟩ | ⟨g, cap, cur, hv, hg, hh, hn, hm, hs, ht⟩
  · have hl := List.eq_nil_of_length_eq_zero hn
    subst hv hl
    rw [run_convert_bytes_string w ts tx te none 0 0 hts hte htx]
    rfl
  · subst hv
    refine run_convert_bytes_back w ts tx te ⟨g, 0, none⟩ cap l hts hte htx ?_
    intro j hj
    have := h.cells (g := g) rfl j (bv l[j]) (by simp [hj])
    exact this

/-- A slice of bytes of the call's own, with the bytes 'news' put behind it. -/
theorem app_bytes {ops : Array Oper} {rest : List Oper} {o : Oper} {a : Act} {Q : Exit → Act → World → Prop} {C : Array Value} (wr : World) (ts te : TypeId) (hts : P.underlying ts = some (.slice te))
    (hinfo : (P.info? te).map (fun i => (i.zero, i.size, i.bytes)) = some (some (.int .u8 0), 1, 1)) (w : World) (B : Nat) (hgd : o.guard = none) (s x : Operand)
    (ho : o.op = .call { callee := .builtin .append, args := #[s, x], argTypes := #[ts, ts] }) (v : Value) (l news : List UInt8) (hs : a.eval s = v)
    (hown : wr.ownsRow B te 1 v l.length (l.map bv)) (hx : a.eval x = .slice (some ⟨wr.heap.size, 0, none⟩) news.length news.length) (hC : C.toList = news.map bv)
    (hlen : l.length + news.length ≤ 70368744177664) (hbel : Below B w wr) (hbase : B ≤ wr.heap.size)
    (h : ∀ v' w', w'.ownsRow B te 1 v' (l ++ news).length ((l ++ news).map bv) → Below B w w' → wr.heap.size ≤ w'.heap.size → wpList P ops Q rest (a.put o.dst v') w') :
    wpList P ops Q (o :: rest) a (wr.alloc (.cells C te)) := by
  obtain ⟨i0, hi, hz0, hz1, hz2⟩ := info_parts hinfo
  have hsz : wr.heap.size ≤ (wr.alloc (.cells C te)).heap.size := by simp
  refine wpList_append_own _ hgd s x ts ho B te i0 (.int .u8 0) 1 1 hts hi hz0 hz1 hz2 rfl (by decide) v l.length (l.map bv) hs (hown.alloc _) ⟨wr.heap.size, 0, none⟩ news.length news.length (news.map bv) hx (by simp)
    (fun j u hj => cells_new wr C te j u (by rw [hC]; exact hj)) (bv_one news) (by unfold maxLen; omega) (by omega) (by omega) ?_
  intro v' w' hown' hgrow _
  have hlt := hown.lt
  have hb1 : Below B w (wr.alloc (.cells C te)) := hbel.alloc hbase _
  refine h v' w' ?_ (hb1.grown hgrow (by omega) (fun k hk => (hlt k hk).1)) (Nat.le_trans hsz hgrow.size)
  rw [List.length_append, List.map_append]
  exact hown'

/-- The same at a step of a region that draws its order: the new bytes lie in a block k of their own. -/
theorem step_app_bytes {ops : Array Oper} {o : Oper} {a : Act} {K : Act → World → Prop} {Q : Exit → Act → World → Prop} {E : Prop} (W : World) (ts te : TypeId) (hts : P.underlying ts = some (.slice te))
    (hinfo : (P.info? te).map (fun i => (i.zero, i.size, i.bytes)) = some (some (.int .u8 0), 1, 1)) (w : World) (B : Nat) (hgd : o.guard = none) (s x : Operand)
    (ho : o.op = .call { callee := .builtin .append, args := #[s, x], argTypes := #[ts, ts] }) (v : Value) (l news : List UInt8) (hs : a.eval s = v)
    (hown : W.ownsRow B te 1 v l.length (l.map bv)) (k : Nat) (hx : a.eval x = .slice (some ⟨k, 0, none⟩) news.length news.length) (C : Array Value) (hblk : W.heap[k]? = some (.cells C te (0, 0))) (hC : C.toList = news.map bv)
    (hne : 0 < news.length) (hlen : l.length + news.length ≤ 70368744177664) (hbel : Below B w W) (hbase : B ≤ W.heap.size)
    (h : ∀ v' w', w'.ownsRow B te 1 v' (l ++ news).length ((l ++ news).map bv) → Below B w w' → W.heap.size ≤ w'.heap.size → K (a.put o.dst v') w') :
    if Region.wanted o (yielded ops a.tmps) = true then Oper.wp P o a W K Q else E := by
  obtain ⟨i0, hi, hz0, hz1, hz2⟩ := info_parts hinfo
  refine step_append_lies W hgd s x ts ho B te i0 (.int .u8 0) 1 1 hts hi hz0 hz1 hz2 rfl (by decide) v l.length (l.map bv) hs hown ⟨k, 0, none⟩ news.length news.length (news.map bv) hx (by simp)
    (fun j u hj => World.news_of_block hblk j u (by rw [hC]; exact hj)) (bv_one news) hne (by unfold maxLen; omega) (by omega) hbase W.heap.size rfl ?_
  intro g cap w' hown' hgrow _ _
  have hlt := hown.lt
  refine h _ w' ?_ (hbel.grown hgrow hbase (fun k hk => (hlt k hk).1)) hgrow.size
  rw [List.length_append, List.map_append]
  exact hown'
end
end Go.Proofs.Ytpibnhodlojajaa
