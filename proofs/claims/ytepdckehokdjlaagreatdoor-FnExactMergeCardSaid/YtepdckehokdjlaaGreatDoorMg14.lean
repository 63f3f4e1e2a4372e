import Derived.RangeFuncBox
import Derived.OwnWalkIn
import Derived.Test.YtepdckehokdjlaaGreatDoorMg12
import Derived.Test.YtepdckehokdjlaaGreatDoorMg13
import Derived.Test.YtepdckehokdjlaaGreatDoorMg11
namespace Go.Proofs.YtepdckehokdjlaaGreatDoor
open Go.RowKit Go.Shelf
attribute [local go_sem] Oper.semAt_some
def RisP (s:ByteArray) (l:List (Nat × Nat)):Prop:=(∀ rest,ris s (l ++ rest) (-1) 0=(batchesOf s l ++ (ris s rest (lastOf (batchesOf s l)) (endOf l)).1,(ris s rest (lastOf (batchesOf s l)) (endOf l)).2))∧∀ y ∈ l,rdOk (s.extract y.1 y.2)=true
theorem risP_nil (s:ByteArray):RisP s []:=⟨fun rest => by simp [batchesOf,lastOf,endOf],fun y hy => absurd hy List.not_mem_nil⟩
theorem risP_snoc {s:ByteArray} {l:List (Nat × Nat)} {x:Nat × Nat} (h:RisP s l) (h1:rdOk (s.extract x.1 x.2)=true) (h2:lastOf (batchesOf s l) < rdSeq (s.extract x.1 x.2)):RisP s (l ++ [x]):=by
 refine ⟨fun rest => ?_,fun y hy => ?_⟩
 ·
  rw [List.append_assoc,List.singleton_append,h.1 (x :: rest),ris_more h1 h2,batchesOf_snoc,lastOf_snoc,endOf_snoc]
  simp
 ·
  rcases List.mem_append.1 hy with hy | hy
  · exact h.2 y hy
  ·
   obtain rfl:y=x:=by simpa using hy
   exact h1
theorem risP_all {s:ByteArray} {l:List (Nat × Nat)} (h:RisP s l):ris s l (-1) 0=(batchesOf s l,endOf l):=by
 have:=h.1 []
 rw [List.append_nil] at this
 rw [this]
 simp [ris]
theorem risP_stop {s:ByteArray} {l rest:List (Nat × Nat)} {x:Nat × Nat} (h:RisP s l) (hn:¬ (rdOk (s.extract x.1 x.2)=true∧lastOf (batchesOf s l) < rdSeq (s.extract x.1 x.2))):ris s (l ++ [x] ++ rest) (-1) 0=(batchesOf s l,endOf l):=by
 rw [List.append_assoc,List.singleton_append,h.1 (x :: rest),ris_no hn]
 simp
theorem rowChange_own' {W W':World} {row:Option Nat} {B:Nat} {x:Value} {fs:List ChangeD} (h:RowChange W B x fs) (hg:W.grownBy W' row) (hrow:∀ r,row=some r→∃ o:Obj,W.heap[r]? = some o∧o.isCells=false):RowChange W' B x fs:=by
 refine rowChange_grown h hg (fun g e e2 => ?_)
 obtain ⟨C,hC⟩:=change_block h e
 obtain ⟨o,ho,hc⟩:=hrow g e2.symm
 rw [hC] at ho
 cases ho
 cases hc
theorem buildB_own {W W':World} {row:Option Nat} {B:Nat} {v:Value} {bs:List BatchD} (h:BuildB W B v bs) (hg:W.grownBy W' row) (hrow:∀ r,row=some r→∃ o:Obj,W.heap[r]? = some o∧o.isCells=false):BuildB W' B v bs:=by
 obtain ⟨vs,h1,h2,h3,h4⟩:=h
 refine ⟨vs,h1,h2.kept hg ?_,fun j x b hx hb => rowChange_own' (h3 j x b hx hb) hg hrow,h4⟩
 cases e:v.ownBlock with
 | none => exact .inl rfl
 | some g =>
  refine .inr (fun e2 => ?_)
  obtain ⟨C,hC⟩:=owns_block h2 e
  obtain ⟨o,ho,hc⟩:=hrow g e2.symm
  rw [hC] at ho
  cases ho
  cases hc
theorem appIn_batch {F:Fence} {n:Nat} {ops:Array Oper} {rest:List Oper} {o:Oper} {a:Act} {Q:Exit→Act→World→Prop} (W0 W:World) (B:Nat) (hgd:o.guard=none) (s y:Operand)
  (ho:o.op=.call { callee:=.builtin .append,args:=#[s,y],argTypes:=#[80,80] }) (v x:Value) (bs:List BatchD) (b:BatchD) (hs:a.eval s=v)
  (hbuild:BuildB W0 B v bs) (hBs:B≤W0.heap.size) (hb:Below W0.heap.size W0 W) (hx:RowChange W W0.heap.size x b.chs) (k:Nat) (hy:a.eval y=.slice (some ⟨k,0,none⟩) 1 1) (hblk:W.heap[k]? = some (.cells #[.int .i64 b.seq,x] 87 (0,0)))
  (hlen:bs.length≤1048576)
  (h:∀ g cap w',BuildB w' B (.slice (some ⟨g,0,none⟩) (bs.length+1) cap) (bs ++ [b])→Below B W w'→W.grownBy w' v.ownBlock→wpListIn F n Tryz.prog ops Q rest (a.put o.dst (.slice (some ⟨g,0,none⟩) (bs.length+1) cap)) w') :
  wpListIn F n Tryz.prog ops Q (o :: rest) a W:=by
 obtain ⟨i0,hi,hz0,hz1,hz2⟩:=info_parts Tryz.infoBatch
 obtain ⟨vs,h1,h2,h3,h4⟩:=hbuild
 have hown:=ownsRow_below h2 hb
 refine wpListIn_append_own W hgd s y 80 ho B 87 i0 (.agg #[.int .i64 0,.slice none 0 0]) 2 32 Tryz.underlying80 hi hz0 hz1 hz2 rfl (by decide) v bs.length (cellsBatch bs vs) hs hown ⟨k,0,none⟩ 1 1 [.int .i64 b.seq,x] hy rfl
  (fun j u hj => World.news_of_block hblk j u hj) (two_one hx _) (by unfold maxLen;omega) (by omega) (Nat.le_trans hBs hb.size) ?_
 intro v' w' hown' hgrow _
 obtain ⟨g,cap,rfl⟩:=ownsRow_succ hown'
 exact h g cap w' (buildB_after hBs hb h1 h2 h3 h4 hx (by rw [List.length_append];exact hown') hgrow) ((Below.refl B W).grown hgrow (Nat.le_trans hBs hb.size) (fun k hk => (hown.lt k hk).1)) hgrow
theorem buildB_far {w w':World} {B:Nat} {v:Value} {bs:List BatchD} {r:Option Nat} (h:BuildB w B v bs) (hg:w.grownBy w' r) (hr:∀ g,r=some g→∃ C t,w.heap[g]? = some (.cells C t (0,0))∧t ≠ 87∧t ≠ 145):BuildB w' B v bs:=by
 obtain ⟨vs,k1,k2,k3,k4⟩:=h
 refine ⟨vs,k1,k2.kept hg ?_,fun j x b hx hb => rowChange_grown (k3 j x b hx hb) hg (fun k hk e => ?_),k4⟩
 ·
  cases hv:v.ownBlock with
  | none => exact .inl rfl
  | some g =>
   refine .inr (fun e => ?_)
   obtain ⟨C,hC⟩:=owns_block k2 hv
   obtain ⟨C',t,h1,h2,-⟩:=hr g e.symm
   rw [hC] at h1
   cases h1
   exact h2 rfl
 ·
  obtain ⟨C,hC⟩:=change_block (k3 j x b hx hb) hk
  obtain ⟨C',t,h1,-,h3⟩:=hr k e.symm
  rw [hC] at h1
  cases h1
  exact h3 rfl
theorem rowNat_own' {W W':World} {row:Option Nat} {B:Nat} {v:Value} {l:List Nat} (h:RowNat W B v l) (hg:W.grownBy W' row) (hrow:∀ r,row=some r→∃ o:Obj,W.heap[r]? = some o∧o.isCells=false):RowNat W' B v l:=by
 refine World.ownsRow.kept h hg ?_
 cases e:v.ownBlock with
 | none => exact .inl rfl
 | some g =>
  refine .inr (fun e2 => ?_)
  obtain ⟨C,hC⟩:=owns_block h e
  obtain ⟨o,ho,hc⟩:=hrow g e2.symm
  rw [hC] at ho
  cases ho
  cases hc
theorem appIn_nat {F:Fence} {n:Nat} {ops:Array Oper} {rest:List Oper} {o:Oper} {a:Act} {Q:Exit→Act→World→Prop} (W:World) (B:Nat) (hgd:o.guard=none) (s y:Operand)
  (ho:o.op=.call { callee:=.builtin .append,args:=#[s,y],argTypes:=#[73,73] }) (v:Value) (l:List Nat) (x:Nat) (hs:a.eval s=v)
  (hown:RowNat W B v l) (hBs:B≤W.heap.size) (hy:a.eval y=.slice (some ⟨W.heap.size,0,none⟩) 1 1) (hlen:l.length≤1048576)
  (h:∀ g cap w',RowNat w' B (.slice (some ⟨g,0,none⟩) (l.length+1) cap) (l ++ [x])→(W.alloc (.cells #[.int .i64 (x:Int)] 3)).grownBy w' v.ownBlock→wpListIn F n Tryz.prog ops Q rest (a.put o.dst (.slice (some ⟨g,0,none⟩) (l.length+1) cap)) w') :
  wpListIn F n Tryz.prog ops Q (o :: rest) a (W.alloc (.cells #[.int .i64 (x:Int)] 3)):=by
 obtain ⟨i0,hi,hz0,hz1,hz2⟩:=info_parts Tryz.info3
 refine wpListIn_append_own _ hgd s y 73 ho B 3 i0 (.int .i64 0) 1 8 Tryz.underlying73 hi hz0 hz1 hz2 rfl (by decide) v l.length (l.map iv) hs (World.ownsRow.alloc hown _) ⟨W.heap.size,0,none⟩ 1 1 [iv x] hy rfl
  (fun j u hj => cells_new W #[.int .i64 (x:Int)] 3 j u hj) (by intro u hu;simp at hu;subst hu;rfl) (by unfold maxLen;omega) (by omega) (by simp;omega) ?_
 intro v' w' hown' hgrow _
 obtain ⟨g,cap,rfl⟩:=ownsRow_succ hown'
 refine h g cap w' ?_ hgrow
 show w'.ownsRow _ _ _ _ _ _
 rw [List.length_append,List.map_append]
 exact hown'
def SegC (W:World) (g:Nat) (n f:Int) (v p:Value) (e:Nat):Prop:=W.heap[g]? = some (.cells #[.int .i64 n,.int .i64 f,v,p,.int .i64 (e:Int),.bool true,.bool false] 158 (0,0))
theorem SegC.cells {W:World} {g:Nat} {n f:Int} {v p:Value} {e:Nat} (h:SegC W g n f v p e):W.cell? ⟨g,0,none⟩=some (.int .i64 n)∧W.cell? ⟨g,1,none⟩=some (.int .i64 f)∧W.cell? ⟨g,2,none⟩=some v∧W.cell? ⟨g,3,none⟩=some p∧W.cell? ⟨g,4,none⟩=some (.int .i64 (e:Int))∧W.cell? ⟨g,5,none⟩=some (.bool true) :=
 ⟨(cell_of_row W g 0 _ _ (0,0) h).trans rfl,(cell_of_row W g 1 _ _ (0,0) h).trans rfl,(cell_of_row W g 2 _ _ (0,0) h).trans rfl,(cell_of_row W g 3 _ _ (0,0) h).trans rfl,(cell_of_row W g 4 _ _ (0,0) h).trans rfl,(cell_of_row W g 5 _ _ (0,0) h).trans rfl⟩
theorem SegC.lt {W:World} {g:Nat} {n f:Int} {v p:Value} {e:Nat} (h:SegC W g n f v p e):g < W.heap.size:=heap_lt h
theorem SegC.kept {W W':World} {r:Option Nat} {g:Nat} {n f:Int} {v p:Value} {e:Nat} (h:SegC W g n f v p e) (hg:W.grownBy W' r) (hr:some g ≠ r):SegC W' g n f v p e:=(hg.block g h.lt hr).trans h
theorem SegC.alloc {W:World} {g:Nat} {n f:Int} {v p:Value} {e:Nat} (h:SegC W g n f v p e) (o:Obj):SegC (W.alloc o) g n f v p e:=h.kept (World.grownBy_alloc W o none) (by simp)
theorem SegC.other {W:World} {g k:Nat} {n f:Int} {v p:Value} {e:Nat} (h:SegC W g n f v p e) (hk:g ≠ k) (j:Nat) (u:Value):SegC (W.setCell ⟨k,j,none⟩ u) g n f v p e:=(Below.heap_setCell _ _ _ _ hk).trans h
theorem SegC.not_row {W:World} {g:Nat} {n f:Int} {v p:Value} {e:Nat} (h:SegC W g n f v p e) {t:TypeId} (ht:t ≠ 158) {base size k:Nat} {u:Value} {xs:List Value} (hr:W.ownsRow base t size u k xs):some g ≠ u.ownBlock:=by
 intro e'
 obtain ⟨C,hC⟩:=owns_block hr e'.symm
 rw [show W.heap[g]? = _ from h] at hC
 simp at hC
 exact ht hC.2.symm
theorem SegC.set2 {W:World} {g:Nat} {n f:Int} {v p:Value} {e:Nat} (h:SegC W g n f v p e) (v':Value):SegC (W.setCell ⟨g,2,none⟩ v') g n f v' p e:=(heap_setCell_same _ _ _ _ _ _ h).trans rfl
theorem SegC.set3 {W:World} {g:Nat} {n f:Int} {v p:Value} {e:Nat} (h:SegC W g n f v p e) (p':Value):SegC (W.setCell ⟨g,3,none⟩ p') g n f v p' e:=(heap_setCell_same _ _ _ _ _ _ h).trans rfl
theorem SegC.set4 {W:World} {g:Nat} {n f:Int} {v p:Value} {e:Nat} (h:SegC W g n f v p e) (e':Nat):SegC (W.setCell ⟨g,4,none⟩ (.int .i64 (e':Int))) g n f v p e':=(heap_setCell_same _ _ _ _ _ _ h).trans rfl
theorem SegC.frozen {W:World} {g:Nat} {n f:Int} {v p:Value} {e:Nat} (h:SegC W g n f v p e) (j:Nat):W.frozen? ⟨g,j,none⟩=false:=frozen_of_row W g j _ _ h
theorem boxed_otherJ {W:World} {B k:Nat} {t:TypeId} {v:Value} (h:Boxed W B t v) (hk:B ≠ k) (j:Nat) (u:Value):Boxed (W.setCell ⟨k,j,none⟩ u) B t v:=(Below.heap_setCell _ _ _ _ hk).trans h
theorem SegC.store (W:World) (g j:Nat) (u:Value):W.grownBy (W.setCell ⟨g,j,none⟩ u) (some g):=grownBy_store (World.grownBy.refl W (some g)) j u
structure RSt (W:World) (b:Nat) (n f:Int) (h e:Nat) (v p:Value) (bs:List BatchD) (pl:List Nat) (lq:Int):Prop where
 seg:SegC W (b+1) n f v p e
 bu:BuildB W (b+4) v bs
 pn:RowNat W (b+4) p pl
 hd:Boxed W b 3 (.int .i64 (h:Int))
 la:Boxed W (b+1+1) 3 (.int .i64 lq)
theorem RSt.own {W W':World} {b:Nat} {n f:Int} {h e:Nat} {v p:Value} {bs:List BatchD} {pl:List Nat} {lq:Int} {row:Option Nat} (H:RSt W b n f h e v p bs pl lq) (hg:W.grownBy W' row) (hrow:∀ r,row=some r→∃ o:Obj,W.heap[r]? = some o∧o.isCells=false):RSt W' b n f h e v p bs pl lq:=by
 have cl:∀ {g:Nat} {C:Array Value} {t:TypeId},W.heap[g]? = some (.cells C t (0,0))→some g ≠ row:=fun hC e' => by
  obtain ⟨o,ho,hc⟩:=hrow _ e'.symm
  rw [hC] at ho
  cases ho
  cases hc
 exact ⟨H.seg.kept hg (cl H.seg),buildB_own H.bu hg hrow,rowNat_own' H.pn hg hrow,H.hd.kept hg (cl H.hd),H.la.kept hg (cl H.la)⟩
theorem RSt.below {W W':World} {b:Nat} {n f:Int} {h e:Nat} {v p:Value} {bs:List BatchD} {pl:List Nat} {lq:Int} (H:RSt W b n f h e v p bs pl lq) (hb:Below W.heap.size W W'):RSt W' b n f h e v p bs pl lq :=
 H.own (grownBy_below none hb) (fun r e => by cases e)
theorem RSt.app1 {W w2:World} {b:Nat} {n f:Int} {h e:Nat} {v p v2:Value} {bs bs2:List BatchD} {pl:List Nat} {lq:Int} (H:RSt W b n f h e v p bs pl lq) (hg:W.grownBy w2 v.ownBlock) (hbu:BuildB w2 (b+4) v2 bs2) :
  SegC w2 (b+1) n f v p e∧RSt (w2.setCell ⟨b+1,2,none⟩ v2) b n f h e v2 p bs2 pl lq:=by
 obtain ⟨vs,-,hown,-,-⟩:=H.bu
 have s2:=H.seg.kept hg (H.seg.not_row (by decide) hown)
 have far:∀ g,v.ownBlock=some g→∃ C t,W.heap[g]? = some (.cells C t (0,0))∧t ≠ 3:=fun g hg' => by
  obtain ⟨C,hC⟩:=owns_block hown hg'
  exact ⟨C,_,hC,by decide⟩
 have far2:∀ (t':TypeId),t' ≠ 158→∀ g,some (b+1)=some g→∃ C t,w2.heap[g]? = some (.cells C t (0,0))∧t ≠ t':=fun t' ht g hg' => by
  cases hg'
  exact ⟨_,_,s2,ht.symm⟩
 refine ⟨s2,s2.set2 v2,buildB_far hbu (SegC.store _ _ _ _) (fun g hg' => by cases hg';exact ⟨_,_,s2,by decide,by decide⟩),rowNat_far (rowNat_far H.pn hg far) (SegC.store _ _ _ _) (far2 3 (by decide)),?_,?_⟩
 · exact boxed_otherJ (H.hd.kept hg (H.hd.not_row (by decide) hown)) (by omega) 2 v2
 · exact boxed_otherJ (H.la.kept hg (H.la.not_row (by decide) hown)) (by omega) 2 v2
theorem RSt.app2 {W w2:World} {b:Nat} {n f:Int} {h e:Nat} {v p p2:Value} {bs:List BatchD} {pl pl2:List Nat} {lq:Int} (H:RSt W b n f h e v p bs pl lq) (hg:W.grownBy w2 p.ownBlock) (hpn:RowNat w2 (b+4) p2 pl2) :
  SegC w2 (b+1) n f v p e∧RSt (w2.setCell ⟨b+1,3,none⟩ p2) b n f h e v p2 bs pl2 lq:=by
 have s2:=H.seg.kept hg (H.seg.not_row (by decide) H.pn)
 have hne:∀ k,k < b+4→some k ≠ p.ownBlock:=fun k hk e => by have:=(World.ownsRow.lt H.pn k e.symm).1;omega
 have far:∀ g,p.ownBlock=some g→∃ C t,W.heap[g]? = some (.cells C t (0,0))∧t ≠ 87∧t ≠ 145:=fun g hg' => by
  obtain ⟨C,hC⟩:=owns_block H.pn hg'
  exact ⟨C,_,hC,by decide,by decide⟩
 refine ⟨s2,s2.set3 p2,buildB_far (buildB_far H.bu hg far) (SegC.store _ _ _ _) (fun g hg' => by cases hg';exact ⟨_,_,s2,by decide,by decide⟩),rowNat_far hpn (SegC.store _ _ _ _) (fun g hg' => by cases hg';exact ⟨_,_,s2,by decide⟩),?_,?_⟩
 · exact boxed_otherJ (H.hd.kept hg (hne b (by omega))) (by omega) 3 p2
 · exact boxed_otherJ (H.la.kept hg (hne (b+1+1) (by omega))) (by omega) 3 p2
theorem RSt.fin {W:World} {b:Nat} {n f:Int} {h e:Nat} {v p:Value} {bs:List BatchD} {pl:List Nat} {lq:Int} (H:RSt W b n f h e v p bs pl lq) (e':Nat) (q:Int) :
  RSt ((W.setCell ⟨b+1,4,none⟩ (.int .i64 (e':Int))).setCell ⟨b+1+1,0,none⟩ (.int .i64 q)) b n f h e' v p bs pl q:=by
 have s4:=H.seg.set4 e'
 have l4:=boxed_otherJ H.la (by omega:b+1+1 ≠ b+1) 4 (.int .i64 (e':Int))
 have bu4:=buildB_far H.bu (SegC.store W (b+1) 4 (.int .i64 (e':Int))) (fun g hg' => by cases hg';exact ⟨_,_,H.seg,by decide,by decide⟩)
 have pn4:=rowNat_far H.pn (SegC.store W (b+1) 4 (.int .i64 (e':Int))) (fun g hg' => by cases hg';exact ⟨_,_,H.seg,by decide⟩)
 refine ⟨s4.other (by omega) 0 _,buildB_far bu4 (SegC.store _ _ _ _) (fun g hg' => by cases hg';exact ⟨_,_,l4,by decide,by decide⟩),World.ownsRow.kept pn4 (SegC.store _ _ _ _) (.inr (fun e => by have:=(World.ownsRow.lt pn4 _ e).1;omega)),boxed_otherJ (boxed_otherJ H.hd (by omega) 4 _) (by omega) 0 _,l4.set _⟩
theorem segof_keeps {W wA wB w3 w5:World} {b n1 n2:Nat} {v p v2 p2 u u':Value} {n f:Int} {h e:Nat} {bs:List BatchD} {pl:List Nat} {lq:Int} {o5:Obj} (hB:Below W.heap.size W wB) (H:RSt W b n f h e v p bs pl lq) (hsz:b+4≤W.heap.size) (hwA:wA=w3.setCell ⟨b+1,n1,none⟩ v2)
  (hg3:wB.grownBy w3 v.ownBlock) (hb3:Below (b+4) wB w3) (hpA:RowNat wA (b+4) p pl) (hg5:(wA.alloc o5).grownBy w5 p.ownBlock) :
  KeepsOthers W (((w5.setCell ⟨b+1,n2,none⟩ p2).setCell ⟨b+1,4,none⟩ u).setCell ⟨b+1+1,0,none⟩ u')∧KpF b (b+1+1+1) W (((w5.setCell ⟨b+1,n2,none⟩ p2).setCell ⟨b+1,4,none⟩ u).setCell ⟨b+1+1,0,none⟩ u'):=by
 subst hwA
 obtain ⟨vs,-,hown,-,-⟩:=H.bu
 have k1:KeepsOthers W wB:=KeepsOthers.of_grownBy (grownBy_below none hB) (fun j o e => by cases e)
 have k2:KeepsOthers wB w3:=KeepsOthers.of_grownBy hg3 (fun j o e ho => by
  obtain ⟨C,hC⟩:=owns_block (ownsRow_below hown hB) e
  rw [hC] at ho
  cases ho
  rfl)
 have k5:KeepsOthers ((w3.setCell ⟨b+1,n1,none⟩ v2).alloc o5) w5:=KeepsOthers.of_grownBy hg5 (fun j o e ho => by
  obtain ⟨C,hC⟩:=owns_block (World.ownsRow.alloc hpA o5) e
  rw [hC] at ho
  cases ho
  rfl)
 have kk:=(((((k1.trans k2).trans (KeepsOthers.setCell w3 ⟨b+1,n1,none⟩ v2)).trans (KeepsOthers.alloc _ o5)).trans k5).trans (KeepsOthers.setCell w5 ⟨b+1,n2,none⟩ p2))
 refine ⟨(kk.trans (KeepsOthers.setCell _ ⟨b+1,4,none⟩ u)).trans (KeepsOthers.setCell _ ⟨b+1+1,0,none⟩ u'),?_,fun z hz => ?_⟩
 ·
  have s3:=hb3.size
  have s1:=hB.size
  have c1:Below b W w3:=(hB.mono (by omega)).trans (hb3.mono (by omega))
  have c2:Below b W ((w3.setCell ⟨b+1,n1,none⟩ v2).alloc o5):=(c1.setCell (p:=⟨b+1,n1,none⟩) (by show b≤b+1;omega) v2).alloc (by have:=c1.size;simp;omega) o5
  have c3:Below b W w5:=c2.grown hg5 (by have:=c2.size;omega) (fun k hk => by have:=(World.ownsRow.lt (World.ownsRow.alloc hpA o5) k hk).1;omega)
  exact ((c3.setCell (p:=⟨b+1,n2,none⟩) (by show b≤b+1;omega) p2).setCell (p:=⟨b+1,4,none⟩) (by show b≤b+1;omega) u).setCell (p:=⟨b+1+1,0,none⟩) (by show b≤b+1+1;omega) u'
 ·
  have z3:=(hz.kept (grownBy_below none hB) (by simp)).kept hg3 (fun e => by have:=(World.ownsRow.lt (ownsRow_below hown hB) _ e.symm).1;omega)
  have z5:=(Boxed.alloc (boxed_otherJ z3 (by omega:b+1+1+1 ≠ b+1) n1 v2) o5).kept hg5 (fun e => by have:=(World.ownsRow.lt (World.ownsRow.alloc hpA o5) _ e.symm).1;omega)
  exact boxed_otherJ (boxed_otherJ (boxed_otherJ z5 (by omega) n2 p2) (by omega) 4 u) (by omega) 0 u'
theorem segof_mid {W w2 w3:World} {b:Nat} {n f:Int} {h e:Nat} {v p v2 x:Value} {bs bs2:List BatchD} {pl:List Nat} {lq q:Int} (H:RSt W b n f h e v p bs pl lq) (B2:Below W.heap.size W w2) (hsz:b+4≤W.heap.size) (hbu:BuildB w3 (b+4) v2 bs2)
  (hg3:((w2.alloc (.cells #[.int .i64 q,x] 87)).alloc (.cells #[.int .i64 q,x] 87)).grownBy w3 v.ownBlock) :
  w3.cell? ⟨b+1,2,none⟩=some v∧w3.frozen? ⟨b+1,2,none⟩=false∧(w3.setCell ⟨b+1,2,none⟩ v2).cell? ⟨b+1,3,none⟩=some p∧(w3.setCell ⟨b+1,2,none⟩ v2).cell? ⟨b+1,4,none⟩=some (.int .i64 (e:Int)) ∧
  Hid (RSt (w3.setCell ⟨b+1,2,none⟩ v2) b n f h e v2 p bs2 pl lq)∧Hid (w3.heap[w2.heap.size]? = some (.cells #[.int .i64 q,x] 87 (0,0)))∧b+4≤w3.heap.size:=by
 have B3:Below W.heap.size W ((w2.alloc (.cells #[.int .i64 q,x] 87)).alloc (.cells #[.int .i64 q,x] 87)):=(B2.alloc B2.size _).alloc (by have:=B2.size;simp;omega) _
 obtain ⟨hs3,hr3⟩:=(H.below B3).app1 hg3 hbu
 obtain ⟨vs,-,hown,-,-⟩:=H.bu
 have s3:=hg3.size
 simp at s3
 have s2:=B2.size
 refine ⟨hs3.cells.2.2.1,hs3.frozen 2,hr3.seg.cells.2.2.2.1,hr3.seg.cells.2.2.2.2.1,hr3,?_,by omega⟩
 exact (hg3.block w2.heap.size (by simp;omega) (fun e => by have:=(hown.lt _ e.symm).2;omega)).trans ((Below.heap_alloc _ _ _ (by simp)).trans (heap_alloc_new _ _))
theorem segof_last {wA w5:World} {b k:Nat} {n f:Int} {h e:Nat} {v p p2 x:Value} {bs:List BatchD} {pl pl2:List Nat} {lq q:Int} {o5:Obj} (H:RSt wA b n f h e v p bs pl lq) (hk:b+4≤k) (hbk:wA.heap[k]? = some (.cells #[.int .i64 q,x] 87 (0,0)))
  (hpn:RowNat w5 (b+4) p2 pl2) (hg5:(wA.alloc o5).grownBy w5 p.ownBlock) :
  w5.cell? ⟨b+1,3,none⟩=some p∧w5.frozen? ⟨b+1,3,none⟩=false∧Hid (RSt (w5.setCell ⟨b+1,3,none⟩ p2) b n f h e v p2 bs pl2 lq) ∧
  (w5.setCell ⟨b+1,3,none⟩ p2).cell? ⟨b,0,none⟩=some (.int .i64 (h:Int))∧(w5.setCell ⟨b+1,3,none⟩ p2).cell? ⟨k,0,none⟩=some (.int .i64 q) ∧
  (w5.setCell ⟨b+1,3,none⟩ p2).cell? ⟨b+1,4,none⟩=some (.int .i64 (e:Int))∧(w5.setCell ⟨b+1,3,none⟩ p2).frozen? ⟨b+1,4,none⟩=false ∧
  ∀ u,((w5.setCell ⟨b+1,3,none⟩ p2).setCell ⟨b+1,4,none⟩ u).cell? ⟨k,0,none⟩=some (.int .i64 q)∧((w5.setCell ⟨b+1,3,none⟩ p2).setCell ⟨b+1,4,none⟩ u).cell? ⟨b+1+1,0,none⟩=some (.int .i64 lq) ∧
   ((w5.setCell ⟨b+1,3,none⟩ p2).setCell ⟨b+1,4,none⟩ u).frozen? ⟨b+1+1,0,none⟩=false:=by
 have HA:=H.below ((Below.refl _ wA).alloc (Nat.le_refl _) o5)
 obtain ⟨hs5,hr5⟩:=HA.app2 hg5 hpn
 have hkA:=heap_lt hbk
 have k5:w5.heap[k]? = some (.cells #[.int .i64 q,x] 87 (0,0)):=by
  refine (hg5.block k (by simp;omega) (fun e => ?_)).trans ((Below.heap_alloc _ _ _ hkA).trans hbk)
  obtain ⟨C,hC⟩:=owns_block H.pn e.symm
  rw [hbk] at hC
  simp at hC
 have k6:(w5.setCell ⟨b+1,3,none⟩ p2).heap[k]? = some (.cells #[.int .i64 q,x] 87 (0,0)):=(Below.heap_setCell _ _ _ _ (by show k ≠ b+1;omega)).trans k5
 refine ⟨hs5.cells.2.2.2.1,hs5.frozen 3,hr5,hr5.hd.cell,(cell_of_row _ _ 0 _ _ (0,0) k6).trans rfl,hr5.seg.cells.2.2.2.2.1,hr5.seg.frozen 4,fun u => ?_⟩
 have k7:((w5.setCell ⟨b+1,3,none⟩ p2).setCell ⟨b+1,4,none⟩ u).heap[k]? = some (.cells #[.int .i64 q,x] 87 (0,0)):=(Below.heap_setCell _ _ _ _ (by show k ≠ b+1;omega)).trans k6
 have l7:=boxed_otherJ hr5.la (by omega:b+1+1 ≠ b+1) 4 u
 exact ⟨(cell_of_row _ _ 0 _ _ (0,0) k7).trans rfl,l7.cell,l7.frozen⟩
theorem SegC.tear {W:World} {g:Nat} {n f:Int} {v p:Value} {e:Nat} (h:SegC W g n f v p e) (t:Bool):(W.setCell ⟨g,6,none⟩ (.bool t)).heap[g]? = some (.cells #[.int .i64 n,.int .i64 f,v,p,.int .i64 (e:Int),.bool true,.bool t] 158 (0,0)):=(heap_setCell_same _ _ _ _ _ _ h).trans rfl
theorem segof_ret {W:World} {b g D:Nat} {n f:Int} {h e:Nat} {v p a0 a1 a2 a3 a4 a5 a6:Value} {bs:List BatchD} {pl:List Nat} {lq:Int} {t:Bool} (H:RSt W b n f h e v p bs pl lq) (hr:W.heap[g]? = some (.cells #[a0,a1,a2,a3,a4,a5,a6] 158 (0,0))) (hD:W.heap[D]? = some (.deferred (some []))) (hgb:g ≠ b+1) (o':Obj)
  (W6:World) (hW6:W6=(((((((W.setCell ⟨b+1,6,none⟩ (.bool t)).setCell ⟨g,0,none⟩ (.int .i64 n)).setCell ⟨g,1,none⟩ (.int .i64 f)).setCell ⟨g,2,none⟩ v).setCell ⟨g,3,none⟩ p).setCell ⟨g,4,none⟩ (.int .i64 (e:Int))).setCell ⟨g,5,none⟩ (.bool true)).setCell ⟨g,6,none⟩ (.bool t)) :
  W6.heap[D]? = some (.deferred (some []))∧(W6.putObj D o').heap[g]? = some (.cells #[.int .i64 n,.int .i64 f,v,p,.int .i64 (e:Int),.bool true,.bool t] 158 (0,0))∧BuildB (W6.putObj D o') (b+4) v bs∧RowNat (W6.putObj D o') (b+4) p pl ∧
   (∀ w:World,Below w.heap.size w W→w.heap.size≤g→w.heap.size≤b+1→w.heap.size≤D→Below w.heap.size w (W6.putObj D o')):=by
 have hne:D ≠ g:=fun e => by rw [e,hr] at hD;cases hD
 have hnb:D ≠ b+1:=fun e => by rw [e,show W.heap[b+1]? = _ from H.seg] at hD;cases hD
 obtain ⟨W0,hW0⟩:∃ W0,W0=W.setCell ⟨b+1,6,none⟩ (.bool t):=⟨_,rfl⟩
 rw [← hW0] at hW6
 have g0:W.grownBy W0 (some (b+1)):=by rw [hW0];exact SegC.store _ _ _ _
 have r0:W0.heap[g]? = some (.cells #[a0,a1,a2,a3,a4,a5,a6] 158 (0,0)):=(g0.block g (heap_lt hr) (by simpa using hgb)).trans hr
 have d0:W0.heap[D]? = some (.deferred (some [])):=(g0.block D (heap_lt hD) (by simpa using hnb)).trans hD
 have b0:=buildB_far H.bu g0 (fun k hk => by cases hk;exact ⟨_,_,H.seg,by decide,by decide⟩)
 have p0:=rowNat_far H.pn g0 (fun k hk => by cases hk;exact ⟨_,_,H.seg,by decide⟩)
 have g6:W0.grownBy W6 (some g):=by
  rw [hW6]
  exact grownBy_store (grownBy_store (grownBy_store (grownBy_store (grownBy_store (grownBy_store (grownBy_store (World.grownBy.refl W0 (some g)) 0 _) 1 _) 2 _) 3 _) 4 _) 5 _) 6 _
 have c6:W6.heap[g]? = some (.cells #[.int .i64 n,.int .i64 f,v,p,.int .i64 (e:Int),.bool true,.bool t] 158 (0,0)):=by
  have c0:=(heap_setCell_same W0 g 0 _ _ (.int .i64 n) r0).trans rfl
  have c1:=(heap_setCell_same _ g 1 _ _ (.int .i64 f) c0).trans rfl
  have c2:=(heap_setCell_same _ g 2 _ _ v c1).trans rfl
  have c3:=(heap_setCell_same _ g 3 _ _ p c2).trans rfl
  have c4:=(heap_setCell_same _ g 4 _ _ (.int .i64 (e:Int)) c3).trans rfl
  have c5:=(heap_setCell_same _ g 5 _ _ (.bool true) c4).trans rfl
  have c6:=(heap_setCell_same _ g 6 _ _ (.bool t) c5).trans rfl
  rw [hW6,c6]
  rfl
 have d6:W6.heap[D]? = some (.deferred (some [])):=(g6.block D (heap_lt d0) (by simpa using hne)).trans d0
 refine ⟨d6,(World.putObj_heap_other (Ne.symm hne)).trans c6,?_,?_,fun w hw h1 h1' h2 => ?_⟩
 · exact buildB_own (buildB_far b0 g6 (fun k hk => by cases hk;exact ⟨_,_,r0,by decide,by decide⟩)) (grownBy_putObj' _ D _) (fun r e => by cases e;exact ⟨_,d6,rfl⟩)
 · exact rowNat_own' (rowNat_far p0 g6 (fun k hk => by cases hk;exact ⟨_,_,r0,by decide⟩)) (grownBy_putObj' _ D _) (fun r e => by cases e;exact ⟨_,d6,rfl⟩)
 ·
  have hw0:=hw.grown g0 hw.size (fun k hk => by cases hk;exact h1')
  exact (hw0.grown g6 hw0.size (fun k hk => by cases hk;exact h1)).trans (belowK_b (w:=w) (Nat.le_refl _) W6 D _ _ h2 d6 rfl rfl)
end Go.Proofs.YtepdckehokdjlaaGreatDoor
