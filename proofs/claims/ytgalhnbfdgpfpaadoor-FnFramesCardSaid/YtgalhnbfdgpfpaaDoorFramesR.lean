/- Plain facts for the law on frames: three records, their frames, the places behind them. -/
import Derived.Test.YtgalhnbfdgpfpaaDoorFrameQ
import Derived.Test.YtgalhnbfdgpfpaaDoorUnframeI
import Derived.Test.YtgalhnbfdgpfpaaDoorSameTexts
import Derived.Test.YtgalhnbfdgpfpaaDoorDrawHx
import Derived.Test.YtgalhnbfdgpfpaaDoorDrawPl
import Derived.Test.YtgalhnbfdgpfpaaDoorTurnQ
namespace Go.Proofs.YtgalhnbfdgpfpaaDoor
open Go.RowKit

theorem framesL_mono (ts : List (List UInt8)) : ∀ j, (framesL (ts.take j)).length ≤ (framesL ts).length := by
  induction ts with
  | nil => intro j; simp [framesL]
  | cons t ts ih =>
    intro j
    cases j with
    | zero => simp [framesL]
    | succ j =>
      have := ih j
      simp only [List.take_succ_cons, framesL, List.length_append]
      omega

/-- All come back from the whole file. -/
theorem unf_whole (ts : List (List UInt8)) (ht : ∀ t ∈ ts, 1 ≤ t.length ∧ t.length ≤ 9000) (hs : (framesL ts).length ≤ 20000) :
    recs (file (framesL ts)) (unf (file (framesL ts))) = ts ∧ endOf (unf (file (framesL ts))) = (framesL ts).length := by
  obtain ⟨m, h0, h1, h2, h3, h4⟩ := unf_cut ts (framesL ts).length ht (Nat.le_refl _) hs
  rw [List.take_length] at h1 h2
  have hm : m = ts.length := by
    rcases h4 with h4 | h4
    · exact h4
    · have := framesL_mono ts (m + 1); omega
  subst hm
  rw [List.take_length] at h1 h2
  exact ⟨h1, h2⟩

/-- The places behind the first k frames, 0 first. -/
def endsL (ts : List (List UInt8)) (k : Nat) : List Nat := (List.range (k + 1)).map fun j => (framesL (ts.take j)).length
theorem endsL_len (ts : List (List UInt8)) (k : Nat) : (endsL ts k).length = k + 1 := by simp [endsL]
theorem endsL_succ (ts : List (List UInt8)) (k : Nat) : endsL ts (k + 1) = endsL ts k ++ [(framesL (ts.take (k + 1))).length] := by
  unfold endsL
  rw [List.range_succ (n := k + 1), List.map_append]
  rfl
theorem endsL_get (ts : List (List UInt8)) (k j : Nat) (h : j ≤ k) : (endsL ts k)[j]? = some (framesL (ts.take j)).length := by
  unfold endsL
  rw [List.getElem?_map, List.getElem?_range (by omega)]
  rfl

theorem file_cat (ts : List (List UInt8)) (k : Nat) (t : List UInt8) (h : ts[k]? = some t) : file (framesL (ts.take k)) ++ frameB (file t) = file (framesL (ts.take (k + 1))) := by
  rw [frameL_of, List.take_add_one, h]
  show _ = file (framesL (ts.take k ++ [t]))
  rw [framesL_snoc]
  exact cat_list _ _

theorem int_cell {w : World} {B g n cap : Nat} {L : List Nat} (h : w.ownsRow B 3 1 (.slice (some ⟨g, 0, none⟩) n cap) n (L.map iv)) (j : Nat) (hj : j < n) (x : Nat) (hx : L[j]? = some x) :
    w.cell? ⟨g, j, none⟩ = some (.int .i64 (x : Int)) := by
  rw [h.cellAt j (by omega), List.getElem?_map, hx]; rfl

theorem ownsRow_take {w : World} {B g n cap : Nat} {e : TypeId} {xs : List Value} (h : w.ownsRow B e 1 (.slice (some ⟨g, 0, none⟩) n cap) n xs) (m : Nat) (hm : m ≤ n) : w.ownsRow B e 1 (.slice (some ⟨g, 0, none⟩) m cap) m (xs.take m) := by
  obtain ⟨hl, h2⟩ := h
  refine ⟨by rw [List.length_take]; omega, ?_⟩
  rcases h2 with ⟨h', _⟩ | ⟨g', cap', cur, hv, hb, hh, hn, hm', hs, ht⟩
  · cases h'
  · cases hv
    refine .inr ⟨g, cap, cur, rfl, hb, hh, by omega, hm', hs, ?_⟩
    rw [← ht, List.take_take]
    congr 1
    omega

theorem cut_to (s : ByteArray) (b : Nat) (bi : Int) (R : ByteArray) (hb : bi = b) (h2 : b ≤ s.size) (hR : s.extract 0 b = R) :
    ∀ W : World, (Instr.slice 9 (.string s) none (some (.int .i64 bi)) none).run Tryd.prog W = .ok (.string R) W := by
  intro W
  subst hb hR
  rw [run_slice_string_to_if W 9 s .i64 (b : Int) Tryd.underlying9, if_pos (by omega), Int.toNat_natCast]

theorem rem_nat (z n : Nat) : (z : Int) % ((n : Int) + 1) = ((z % (n + 1) : Nat) : Int) := by simp

theorem drawHex_text (w : World) (ao : Option Addr) (len cap : Nat) (hlen : len ≤ 1048576) (hcode : Code w ao len) :
    Calls Tryd.prog 12 #[.slice ao len cap] w fun e w' => ∃ T : ByteArray, e = .returned (.string T) ∧ T.size ≤ 20001 ∧ Below w.heap.size w w' :=
  (drawHex_any w ao len cap hlen hcode).mono fun _ _ ⟨l, he, hl, hb⟩ => ⟨⟨l.toArray⟩, he, hl, hb⟩

/-- The three records. -/
def recs3 (T : ByteArray) : List (List UInt8) := [T.data.toList, [116, 119, 111], [116, 104, 114, 101, 101, 32, 97, 110, 100, 32, 109, 111, 114, 101]]

theorem recs3_ok (T : ByteArray) (h1 : 1 ≤ T.size) (h2 : T.size ≤ 900) : (∀ t ∈ recs3 T, 1 ≤ t.length ∧ t.length ≤ 9000) ∧ (framesL (recs3 T)).length ≤ 20000 := by
  have hz : T.data.toList.length = T.size := Array.length_toList
  constructor
  · intro t ht
    simp only [recs3, List.mem_cons, List.not_mem_nil, or_false] at ht
    rcases ht with rfl | rfl | rfl
    · omega
    · simp
    · simp
  · have h := Wd.varF_len 5 T.size
    have e0 := frameL_len T.data.toList
    have e1 := frameL_len [116, 119, 111]
    have e2 := frameL_len [116, 104, 114, 101, 101, 32, 97, 110, 100, 32, 109, 111, 114, 101]
    have v1 := Wd.varF_len 5 [(116 : UInt8), 119, 111].length
    have v2 := Wd.varF_len 5 [(116 : UInt8), 104, 114, 101, 101, 32, 97, 110, 100, 32, 109, 111, 114, 101].length
    rw [hz] at e0
    simp only [recs3, framesL, List.length_append, List.length_nil]
    rw [e0, e1, e2]
    simp only [List.length_cons, List.length_nil] at v1 v2 ⊢
    omega

theorem recs3_row {w : World} (T : ByteArray) : (w.alloc (.cells #[.string T, .string ⟨#[116, 119, 111]⟩, .string ⟨#[116, 104, 114, 101, 101, 32, 97, 110, 100, 32, 109, 111, 114, 101]⟩] 9)).ownsRow w.heap.size 9 1 (.slice (some ⟨w.heap.size, 0, none⟩) 3 3) 3 ((recs3 T).map sv) := by
  have := World.ownsRow_lit (e := 9) (size := 1) w #[.string T, .string ⟨#[116, 119, 111]⟩, .string ⟨#[116, 104, 114, 101, 101, 32, 97, 110, 100, 32, 109, 111, 114, 101]⟩] 3 (Nat.le_refl _) (by decide) rfl
  cases T
  exact this

end Go.Proofs.YtgalhnbfdgpfpaaDoor
