/- Names of commands: what the program makes of a text, and of a name. -/
import Derived.Test.YteidjnmfjkpolaaDoorNmP
import Derived.Test.YteidjnmfjkpolaaDoorCutAt
import Derived.Deep.RegionHeld3
import Derived.Laws.CopyOwn
namespace Go.Proofs.YteidjnmfjkpolaaDoor
open Go.RowKit

theorem Tryd.infoNm : (Tryd.prog.info? 31).map (·.size) = some 9 := by kernel_rfl
theorem Tryd.infoBy : (Tryd.prog.info? 5).map (·.size) = some 1 := by kernel_rfl
theorem setRow_new (w : World) (g : Nat) (old cs : Array Value) (t : TypeId) (hg : w.heap[g]? = some (.cells old t (0, 0))) : (w.setRow g cs).heap[g]? = some (.cells cs t (0, 0)) := setRow_heap w g old cs t (0, 0) hg

theorem wpList_copy_str {P : Program} {w : World} {ops : Array Oper} {rest : List Oper} {o : Oper} {a : Act} {Q : Exit → Act → World → Prop} (hgd : o.guard = none) (d s : Operand) (dT sT : TypeId)
    (ho : o.op = .call { callee := .builtin .copy, args := #[d, s], argTypes := #[dT, sT] }) (elem : TypeId) (hu : P.underlying dT = some (.slice elem)) (hsz : (P.info? elem).map (·.size) = some 1)
    (g dLen dCap : Nat) (str : ByteArray) (hd : a.eval d = .slice (some ⟨g, 0, none⟩) dLen dCap) (hs : a.eval s = .string str)
    (cur : Array Value) (t : TypeId) (hg : w.heap[g]? = some (.cells cur t (0, 0))) (n : Nat) (hn : Nat.min str.size dLen = n) (hfit : dLen ≤ cur.size)
    (h : wpList P ops Q rest (a.put o.dst (goInt n)) (w.setRow g (((str.data.toList.take n).map b8) ++ cur.toList.drop ((str.data.toList.take n).map b8).length).toArray)) : wpList P ops Q (o :: rest) a w := by
  refine wpList_plain hgd fun K hK => ?_
  have hrun := run_copy_str (P := P) w dT sT o.type elem g dLen dCap str cur t n hn hu hsz hg hfit
  unfold Oper.wp
  simp [execOp, ho, resolve, invoke, builtin, hd, hs, hrun, Result.andThen]
  simp at h
  exact hK _ _ h

set_option maxRecDepth 100000 in
set_option maxHeartbeats 1000000 in
theorem named_any (s : ByteArray) (w : World) : Calls Tryd.prog 29 #[.string s] w fun e w' => e = .returned (.agg (nmC s)) ∧ Below w.heap.size w w' := by
  obtain ⟨n, hn⟩ : ∃ n, Nat.min s.size 9 = n := ⟨_, rfl⟩
  have hrow := nmC_row s n hn
  obtain ⟨Z, hZ⟩ : ∃ Z : Obj, Z = .cells #[.int .u8 0, .int .u8 0, .int .u8 0, .int .u8 0, .int .u8 0, .int .u8 0, .int .u8 0, .int .u8 0, .int .u8 0] 31 := ⟨_, rfl⟩
  have hg0 : ((w.alloc Z).alloc Z).heap[w.heap.size]? = some Z := heap_alloc2_old w Z Z
  have hg1 : ((w.alloc Z).alloc Z).heap[w.heap.size + 1]? = some Z := heap_alloc2_new w Z Z
  have hB : Below w.heap.size w ((w.alloc Z).alloc Z) := ((Below.refl _ _).alloc (Nat.le_refl _) _).alloc (by show w.heap.size ≤ (w.heap.push _).size; simp) _
  obtain ⟨W, hW⟩ : ∃ W, W = (w.alloc Z).alloc Z := ⟨_, rfl⟩
  rw [← hW] at hg0 hg1 hB
  rw [hZ] at hg0 hg1
  have hcp := run_copy_str (P := Tryd.prog) W 47 9 3 5 (w.heap.size + 1) 9 9 s _ 31 n hn Tryd.underlying47 Tryd.infoBy hg1 (by decide)
  rw [show (#[Value.int .u8 0, .int .u8 0, .int .u8 0, .int .u8 0, .int .u8 0, .int .u8 0, .int .u8 0, .int .u8 0, .int .u8 0] : Array Value).toList = List.replicate 9 (Value.int .u8 0) from rfl, hrow] at hcp
  have hB1 := below_setRow hB (g := w.heap.size + 1) (by omega) (nmC s)
  have h0 := (setRow_other W (w.heap.size + 1) w.heap.size (nmC s) (by omega)).trans hg0
  have h1 := setRow_new W (w.heap.size + 1) _ (nmC s) _ hg1
  have hB2 := below_setRow hB1 (g := w.heap.size) (Nat.le_refl _) (nmC s)
  have h2 := setRow_new (W.setRow (w.heap.size + 1) (nmC s)) w.heap.size _ (nmC s) _ h0
  have hsz := nmC_size s
  have hone := nmC_one s
  have H := hide (And.intro h0 (And.intro h1 (And.intro h2 (And.intro hB2 (And.intro hsz hone)))))
  subst hZ hW
  clear hn hrow hg0 hg1 hB hB1 hB2 h0 h1 h2 hsz hone
  go_enter Tryd.func29, Tryd.ntmps29
  go_wp2_with (first | refine wpList_load_row rfl 31 _ rfl (w.heap.size + 1) rfl 31 _ (0, 0) _ H.out.2.1 Tryd.underlying31 rfl (Tryd.infoNm.trans (by rw [nmC_size])) ?_ | refine wpList_store_row rfl 31 _ _ rfl w.heap.size _ rfl rfl 31 _ H.out.1 (Tryd.infoNm.trans (by rw [nmC_size])) (by rw [nmC_size]; rfl) (nmC_one s) ?_)
  exact bodyPost_ret (v := .agg (nmC s)) (results_cell_row rfl _ _ w.heap.size 31 _ (0, 0) _ rfl H.out.2.2.1 Tryd.underlying31 rfl (Tryd.infoNm.trans (by rw [nmC_size]))) rfl ⟨rfl, H.out.2.2.2.1⟩
end Go.Proofs.YteidjnmfjkpolaaDoor
