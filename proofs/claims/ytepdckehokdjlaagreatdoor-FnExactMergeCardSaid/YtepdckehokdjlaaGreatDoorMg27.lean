import Derived.Shelf.SlIter.Nil
import Derived.Shelf.SortM.Plain
import Derived.Shelf.SortM.SortNone
import Derived.Ground.GgzProg
import Derived.Ground.SlgmProg
import Derived.Test.YtepdckehokdjlaaGreatDoorProg
import Derived.Test.YtepdckehokdjlaaGreatDoorMg12
import Derived.Test.YtepdckehokdjlaaGreatDoorMg14
import Derived.Test.YtepdckehokdjlaaGreatDoorMg10
import Derived.Test.YtepdckehokdjlaaGreatDoorMg21
set_option maxRecDepth 100000
set_option maxHeartbeats 4000000
namespace Go.Proofs.YtepdckehokdjlaaGreatDoor
open Go.RowKit Go.Shelf
attribute [local go_sem] Oper.semAt_some
def KpT (n₀ Bn:Nat) (t:TypeId) (W W':World):Prop:=Below n₀ W W'∧∀ v,Boxed W Bn t v→Boxed W' Bn t v
theorem kpT_t {n₀ Bn:Nat} {t:TypeId} {A B C:World} (h:KpT n₀ Bn t A B) (k:KpT n₀ Bn t B C):KpT n₀ Bn t A C:=⟨h.1.trans k.1,fun v hv => k.2 v (h.2 v hv)⟩
theorem kpT_b {n₀ Bn:Nat} {t:TypeId} {w:World} (hn:n₀≤w.heap.size) (W:World) (l:Nat) (o o':Obj) (hl:w.heap.size≤l) (h:W.heap[l]? = some o) (hc:o.isCells=false) (hw:o.isWalk=false):KpT n₀ Bn t W (W.putObj l o') :=
 ⟨belowK_b hn W l o o' hl h hc hw,fun v hv => hv.kept (grownBy_putObj' W l o') (fun e => by
  cases e
  have hv':W.heap[Bn]? = some (.cells #[v] t (0,0)):=hv
  rw [hv'] at h
  cases h
  cases hc)⟩
def sliceAC:Value→Option Addr × Nat
 | .slice a _ c => (a,c)
 | _ => (none,0)
abbrev segC (s:SegD) (v p:Option Addr × Nat):Array Value:=#[.int .i64 (s.num:Int),.int .i64 (s.frm:Int),.slice v.1 s.bs.length v.2,.slice p.1 s.pls.length p.2,.int .i64 (s.fin:Int),.bool s.right,.bool s.torn]
abbrev segV (s:SegD) (v p:Option Addr × Nat):Value:=.agg (segC s v p)
def SegsV (w:World) (ao:Option Addr) (l:List SegD) (vs ps:List (Option Addr × Nat)):Prop:=vs.length=l.length∧ps.length=l.length∧∀ j (s:SegD) (v p:Option Addr × Nat),l[j]? = some s→vs[j]? = some v→ps[j]? = some p→∃ g,ao=some ⟨g,0,none⟩∧g < w.heap.size ∧
 w.cell? ⟨g,j * 7,none⟩=some (.int .i64 (s.num:Int))∧w.cell? ⟨g,j * 7+1,none⟩=some (.int .i64 (s.frm:Int))∧w.cell? ⟨g,j * 7+2,none⟩=some (.slice v.1 s.bs.length v.2)∧w.cell? ⟨g,j * 7+3,none⟩=some (.slice p.1 s.pls.length p.2)∧w.cell? ⟨g,j * 7+4,none⟩=some (.int .i64 (s.fin:Int))∧w.cell? ⟨g,j * 7+5,none⟩=some (.bool s.right)∧w.cell? ⟨g,j * 7+6,none⟩=some (.bool s.torn)
theorem segsV_of {w:World} {B K n cap:Nat} {ao:Option Addr} {l:List SegD} (h:BuildG w B K (.slice ao n cap) l):∃ vs ps,SegsV w ao l vs ps∧(∀ (j:Nat) (x:Option Addr × Nat) (s:SegD),vs[j]? = some x→l[j]? = some s→RowBatch w K (.slice x.1 s.bs.length x.2) s.bs):=by
 obtain ⟨vs,ps,h0,h1,h2,h3,h4⟩:=h
 refine ⟨vs.map sliceAC,ps.map sliceAC,⟨by simp [h0],by simp [h1],fun j s v p hs hv hp => ?_⟩,fun j x s hx hs => ?_⟩
 ·
  rw [List.getElem?_map,Option.map_eq_some_iff] at hv hp
  obtain ⟨v',hv,rfl⟩:=hv
  obtain ⟨p',hp,rfl⟩:=hp
  have hj:j < l.length:=(List.getElem?_eq_some_iff.1 hs).1
  obtain ⟨a,c,rfl,-⟩:=rowBatch_at (h3 j v' s hv hs)
  obtain ⟨a',c',rfl⟩:=rowNat_form (h4 j p' s hp hs)
  rcases h2.2 with ⟨_,hn⟩ | ⟨g,cap',cur,hv',hB,hC,hle,_,hsz,ht⟩
  · omega
  ·
   cases hv'
   obtain ⟨k1,k2,k3,k4,k5,k6,k7⟩:=cellsSeg_get l vs ps j s _ _ hs hv hp
   refine ⟨g,rfl,(Array.getElem?_eq_some_iff.1 hC).1,?_,?_,?_,?_,?_,?_,?_⟩
   · exact (cell_of_row w g (j * 7) _ _ (0,0) hC).trans (take_getChange ht (by omega) k1)
   · exact (cell_of_row w g (j * 7+1) _ _ (0,0) hC).trans (take_getChange ht (by omega) k2)
   · exact (cell_of_row w g (j * 7+2) _ _ (0,0) hC).trans (take_getChange ht (by omega) k3)
   · exact (cell_of_row w g (j * 7+3) _ _ (0,0) hC).trans (take_getChange ht (by omega) k4)
   · exact (cell_of_row w g (j * 7+4) _ _ (0,0) hC).trans (take_getChange ht (by omega) k5)
   · exact (cell_of_row w g (j * 7+5) _ _ (0,0) hC).trans (take_getChange ht (by omega) k6)
   · exact (cell_of_row w g (j * 7+6) _ _ (0,0) hC).trans (take_getChange ht (by omega) k7)
 ·
  rw [List.getElem?_map,Option.map_eq_some_iff] at hx
  obtain ⟨v',hv,rfl⟩:=hx
  have:=h3 j v' s hv hs
  obtain ⟨a,c,rfl,-⟩:=rowBatch_at this
  exact this
theorem segsV_keep {w w':World} {n₀:Nat} {ao:Option Addr} {l:List SegD} {vs ps:List (Option Addr × Nat)} (h:SegsV w ao l vs ps) (hao:∀ g,ao=some ⟨g,0,none⟩→g < n₀) (hb:Below n₀ w w') (hw:w.heap.size≤w'.heap.size):SegsV w' ao l vs ps:=by
 refine ⟨h.1,h.2.1,fun j s v p hs hv hp => ?_⟩
 obtain ⟨g,h1,h2,h3,h4,h5,h6,h7,h8,h9⟩:=h.2.2 j s v p hs hv hp
 have hg:=hao g h1
 exact ⟨g,h1,by omega,(hb.cell (p:=⟨g,j * 7,none⟩) hg).trans h3,(hb.cell (p:=⟨g,j * 7+1,none⟩) hg).trans h4,(hb.cell (p:=⟨g,j * 7+2,none⟩) hg).trans h5,(hb.cell (p:=⟨g,j * 7+3,none⟩) hg).trans h6,(hb.cell (p:=⟨g,j * 7+4,none⟩) hg).trans h7,(hb.cell (p:=⟨g,j * 7+5,none⟩) hg).trans h8,(hb.cell (p:=⟨g,j * 7+6,none⟩) hg).trans h9⟩
abbrev Pl (l:List SegD):={ j:Nat // j < l.length }
def pv {l:List SegD} (x:List (Pl l)):List Nat:=x.map Subtype.val
theorem pv_snoc {l:List SegD} (x:List (Pl l)) (y:Pl l):pv (x ++ [y])=pv x ++ [y.1]:=by simp [pv]
theorem pv_len {l:List SegD} (x:List (Pl l)):(pv x).length=x.length:=by simp [pv]
def downTo (n k:Nat):List Nat:=((List.range n).drop k).reverse
theorem downTo_step {n k:Nat} (h:k < n):downTo n k=downTo n (k+1) ++ [k]:=by
 unfold downTo
 rw [List.drop_eq_getElem_cons (by simpa using h)]
 simp
theorem downTo_top (n:Nat):downTo n n=[]:=by
 unfold downTo
 rw [List.drop_eq_nil_of_le (by simp)]
 rfl
theorem downTo_pre {n k:Nat}:∃ rest,downTo n 0=downTo n k ++ rest:=by
 unfold downTo
 refine ⟨((List.range n).take k).reverse,?_⟩
 rw [← List.reverse_append,List.take_append_drop,List.drop_zero]
theorem back1_pre (l:List SegD) (vs ps:List (Option Addr × Nat)) (hvs:vs.length=l.length) (hps:ps.length=l.length) (hl:l.length≤100) (ao:Option Addr) (cap:Nat) (n L Bn n₀:Nat) (hn:1≤n) (J Jx:List (Pl l)→World→Prop)
  (hY:∀ pre x W,J pre W→pre.length < l.length→YieldAt Fence.wide (n - 1) Tryz.prog L #[.int .i64 (x.1:Int),segV (l[x.1]'x.2) (vs[x.1]'(by have:=x.2;omega)) (ps[x.1]'(by have:=x.2;omega))] W fun e W' =>
   (e=.returned (.bool true)∧J (pre ++ [x]) W'∧KpT n₀ Bn 117 W W') ∨ (e=.returned (.bool false)∧Jx (pre ++ [x]) W'))
  (W:World) (hJ:AbidesFrom W.heap.size J) (hbox:Boxed W Bn 117 (.slice ao l.length cap)) (hao:∀ g,ao=some ⟨g,0,none⟩→g < n₀) (hV:SegsV W ao l vs ps) (h0:J [] W) :
  CallsIn Fence.wide n Tryz.prog 146 #[.func (.yield L) #[] #[],.pointer (some ⟨Bn,0,none⟩)] W fun e W' => (∃ v,e=.returned v) ∧
   ((∃ ys,pv ys=downTo l.length 0∧J ys W') ∨ (∃ pre,(∃ rest,downTo l.length 0=pv pre ++ rest)∧Jx pre W')):=by
 have HY:=hide hY
 have HJ:=hide hJ
 have HV:=hide hV
 have HAO:=hide hao
 clear hY hJ hV hao
 have hc0:=hbox.cell
 have hw0:IntKind.i64.wrap ((l.length:Int) - 1)=(l.length:Int) - 1:=by rw [IntKind.wrap_i64];omega
 refine callsIn_of_wp Tryz.func146 rfl trivial ?_ rfl
 simp only [Tryz.ntmps146,List.size_toArray,List.length_cons,List.length_nil,Nat.reduceAdd,Nat.reduceSub,Array.replicate_succ,Array.replicate_zero,List.push_toArray,List.append_toArray,List.nil_append,List.cons_append]
 gi_wp2
 gi_loopw [3] (fun a wr => ∃ (pre:List (Pl l)) (i:Nat),a=.int .i64 ((i:Int) - 1)∧i≤l.length∧Hid (pv pre=downTo l.length i)∧Hid (J pre wr)∧Boxed wr Bn 117 (.slice ao l.length cap)∧Below n₀ W wr∧W.heap.size≤wr.heap.size) (fun a _ => (intOf a+1).toNat)
 case atStart => exact ⟨[],l.length,rfl,Nat.le_refl _,(downTo_top _).symm,h0,hbox,Below.refl _ _,Nat.le_refl _⟩
 case round =>
  obtain ⟨pre,i,rfl,hi,hpre,hJp,hbx,hbl,hsz⟩:=hrel
  have hc:=hbx.cell
  have HVr:=hide (segsV_keep HV.out HAO.out hbl hsz)
  cases i with
  | zero =>
   have hz:decide ((0:Int)≤((0:Nat):Int) - 1)=false:=by decide
   gi_wp2
   refine bodyPost_end (results_none rfl _ _ _) rfl ?_
   exact ⟨⟨_,rfl⟩,.inl ⟨pre,hpre.out,hJp.out⟩⟩
  | succ i =>
   have hz:decide ((0:Int)≤(i:Int))=true:=by simp
   have hi1:((i+1:Nat):Int) - 1=(i:Int):=by omega
   have hi0:(0:Int)≤(i:Int):=by omega
   have hi2:(i:Int) < (l.length:Int):=by omega
   rw [hi1]
   have hil:i < l.length:=by omega
   obtain ⟨g,hg,hgw,e0,e1,e2,e3,e4,e5,e6⟩:=HVr.out.2.2 i l[i] (vs[i]'(by omega)) (ps[i]'(by omega)) (List.getElem?_eq_getElem hil) (List.getElem?_eq_getElem (by omega)) (List.getElem?_eq_getElem (by omega))
   subst hg
   have hlen:pre.length < l.length:=by
    have e:=congrArg List.length hpre.out
    rw [pv_len] at e
    unfold downTo at e
    rw [List.length_reverse,List.length_drop,List.length_range] at e
    omega
   have HS:Hid (pv (pre ++ [⟨i,hil⟩])=downTo l.length i):=by show _=_;rw [pv_snoc,hpre.out,← downTo_step hil]
   obtain ⟨fn,tmps,assign,body,hy,hR⟩:=HY.out pre ⟨i,hil⟩ wr hJp.out hlen
   have hwr:IntKind.i64.wrap ((i:Int) - 1)=(i:Int) - 1:=by rw [IntKind.wrap_i64];omega
   gi_wp2
   refine hR.mono ?_
   rintro e W3 (⟨rfl,hJ3,hk3⟩ | ⟨rfl,hJx3⟩)
   ·
    gi_wp2
    go_roundw
    case rel => exact ⟨pre ++ [⟨i,hil⟩],i,rfl,by omega,HS,hide hJ3,hk3.2 _ hbx,hbl.trans hk3.1,Nat.le_trans hsz hk3.1.size⟩
    case measure => first | omega | (simp [intOf];done) | (simp [intOf];omega)
   ·
    gi_wp2
    refine bodyPost_ret (results_none rfl _ _ _) rfl ?_
    exact ⟨⟨_,rfl⟩,.inr ⟨_,by rw [HS.out];exact downTo_pre,hJx3⟩⟩
theorem backward_any (ao:Option Addr) (n cap:Nat) (w:World) :
  Calls Tryz.prog 121 #[.slice ao n cap] w fun e w' => e=.returned (.func (.func 146) #[] #[.pointer (some ⟨w.heap.size,0,none⟩)])∧w' = w.alloc (.cells #[.slice ao n cap] 117):=by
 go_enter Tryz.func121,Tryz.ntmps121
 go_wp2
 go_ret
 exact ⟨rfl,rfl⟩
theorem back_stops (l:List SegD) (vs ps:List (Option Addr × Nat)) (hvs:vs.length=l.length) (hps:ps.length=l.length) (hl:l.length≤100) (ao:Option Addr) (cap:Nat) (n Bn n₀:Nat) (hn:1≤n) (w:World) (hn₀:n₀≤w.heap.size) (hbox:Boxed w Bn 117 (.slice ao l.length cap)) (hao:∀ g,ao=some ⟨g,0,none⟩→g < n₀) (hV:SegsV w ao l vs ps) :
  SeqStopsK Fence.wide n Tryz.prog 146 #[.pointer (some ⟨Bn,0,none⟩)] (fun x:Pl l => #[Value.int .i64 (x.1:Int),segV (l[x.1]'x.2) (vs[x.1]'(by have:=x.2;omega)) (ps[x.1]'(by have:=x.2;omega))]) (KpT n₀ Bn 117) (fun ys => pv ys=downTo l.length 0) (fun pre => ∃ rest,downTo l.length 0=pv pre ++ rest) l.length w:=fun L J Jx W hW hJ _ hY h0 =>
 back1_pre l vs ps hvs hps hl ao cap n L Bn n₀ hn J Jx hY W hJ (hbox.kept (grownBy_below none hW) (by simp)) hao (segsV_keep hV hao (hW.mono hn₀) hW.size) h0
end Go.Proofs.YtepdckehokdjlaaGreatDoor
namespace Go.Proofs.YtepdckehokdjlaaGreatDoor
open Go.RowKit Go.Shelf
attribute [local go_sem] Oper.semAt_some
theorem lastB_of_empty {l:List SegD}:∀ (k:Nat),k≤l.length→(∀ j (h:j < l.length),k≤j→l[j].bs=[])→seqD l=seqD (l.take k):=by
 intro k hk h
 induction hn:l.length - k generalizing k with
 | zero => rw [List.take_of_length_le (by omega)]
 | succ n ih =>
  rw [ih (k+1) (by omega) (fun j hj hkj => h j hj (by omega)) (by omega),seqD_take_succ (by omega),h k (by omega) (Nat.le_refl _)]
  rfl
theorem mem_downTo {n k j:Nat}:j ∈ downTo n k ↔ k≤j∧j < n:=by
 unfold downTo
 rw [List.mem_reverse,List.mem_iff_getElem?]
 constructor
 ·
  rintro ⟨i,hi⟩
  rw [List.getElem?_drop,List.getElem?_eq_some_iff] at hi
  obtain ⟨h1,h2⟩:=hi
  simp at h1 h2
  omega
 ·
  rintro ⟨h1,h2⟩
  exact ⟨j - k,by rw [List.getElem?_drop,List.getElem?_eq_some_iff];exact ⟨by simp;omega,by simp;omega⟩⟩
theorem downTo_split {n j:Nat} {p rest:List Nat} (h:downTo n 0=p ++ [j] ++ rest):p=downTo n (j+1):=by
 have hlen:=congrArg List.length h
 have hp:p.length < n:=by
  have:(downTo n 0).length=n:=by unfold downTo;simp
  simp at hlen
  omega
 have h1:(downTo n 0)[p.length]? = some j:=by rw [h];simp
 have h2:j=n - 1 - p.length:=by
  unfold downTo at h1
  rw [List.drop_zero,List.getElem?_reverse (by simpa using hp),List.length_range,List.getElem?_range (by omega)] at h1
  simp only [Option.some.injEq] at h1
  omega
 obtain ⟨r2,h3⟩:=downTo_pre (n:=n) (k:=j+1)
 have h4:(downTo n (j+1)).length=p.length:=by
  unfold downTo
  rw [List.length_reverse,List.length_drop,List.length_range]
  omega
 rw [h3,List.append_assoc] at h
 exact (List.append_inj h h4).1.symm
def BackAt (l:List SegD) (w:World) (pre:List (Pl l)) (W:World):Prop:=(∀ x ∈ pre,(l[x.1]'x.2).bs=[])∧Below w.heap.size w W
theorem backAt_own (l:List SegD) (w:World) (B:Nat) (hB:w.heap.size≤B):OwnFrom B (BackAt l w):=by
 rintro pre W W' row ⟨h,hBl⟩ hg hr
 exact ⟨h,hBl.grown hg hBl.size (fun k hk => Nat.le_trans hB (hr k hk).1)⟩
def BackX (l:List SegD) (w:World) (Rb:Nat) (c:Go.Code) (pre:List (Pl l)) (W:World):Prop :=
 c=.ret∧∃ (p:List (Pl l)) (x:Pl l),pre=p ++ [x]∧(∀ y ∈ p,(l[y.1]'y.2).bs=[])∧(∃ h:0 < (l[x.1]'x.2).bs.length,Boxed W Rb 3 (.int .i64 (((l[x.1]'x.2).bs[(l[x.1]'x.2).bs.length - 1]'(by omega)).seq)))∧Below w.heap.size w W
theorem backX_own (l:List SegD) (w:World) (Rb B:Nat) (hB:w.heap.size≤B) (hR:Rb < B) (c:Go.Code):OwnFrom B (BackX l w Rb c):=by
 rintro pre W W' row ⟨h0,p,x,h1,h2,⟨h3,h4⟩,hBl⟩ hg hr
 refine ⟨h0,p,x,h1,h2,⟨h3,h4.kept hg (fun e => ?_)⟩,hBl.grown hg hBl.size (fun k hk => Nat.le_trans hB (hr k hk).1)⟩
 have:=(hr _ e.symm).1
 omega
theorem box_ret {W:World} {g D:Nat} {t:TypeId} {v:Value} (h:Boxed W g t v) (hD:W.heap[D]? = some (.deferred (some []))) (o':Obj):(W.putObj D o').cell? ⟨g,0,none⟩=some v∧∀ w:World,Below w.heap.size w W→w.heap.size≤D→Below w.heap.size w (W.putObj D o'):=by
 have hne:D ≠ g:=fun e => by rw [e,show W.heap[g]? = _ from h] at hD;cases hD
 have hb:Boxed (W.putObj D o') g t v:=h.kept (grownBy_putObj' W D o') (fun e => by cases e;exact hne rfl)
 exact ⟨hb.cell,fun w hw h2 => hw.trans (belowK_b (w:=w) (Nat.le_refl _) W D _ _ h2 hD rfl rfl)⟩
theorem lastSeq_any (l:List SegD) (v:Value) (B K:Nat) (w:World) (hl:l.length≤100) (hb:∀ s ∈ l,s.bs.length≤20001) (h:BuildG w B K v l) :
  Calls Tryz.prog 91 #[v] w fun e w' => e=.returned (.int .i64 (seqD l))∧Below w.heap.size w w':=by
 obtain ⟨a1,c1,rfl⟩:=buildG_form h
 obtain ⟨vs,ps,hV,hRB⟩:=segsV_of h
 have HB:=hide hb
 have HRB:=hide hRB
 have hvs:=hV.1
 have hps:=hV.2.1
 have hao:∀ g,a1=some ⟨g,0,none⟩→g < w.heap.size:=fun g hg => by
  obtain ⟨vs,ps,-,-,h2,-⟩:=h
  subst hg
  exact (h2.lt g rfl).2
 clear hRB hb h
 refine (callsIn_wide (n:=3)).1 ?_
 refine callsIn_of_wp_marks Tryz.func91 rfl trivial ?_ rfl
 simp only [Tryz.ntmps91,List.size_toArray,List.length_cons,List.length_nil,Nat.reduceAdd,Nat.reduceSub,Array.replicate_succ,Array.replicate_zero,List.push_toArray,List.append_toArray,List.nil_append,List.cons_append]
 gi_wp2_with (first | (refine ⟨trivial,?_⟩;gi_at_call 121;refine (callsIn_wide.2 (backward_any a1 l.length c1 _)).mono ?_;rintro e w' ⟨rfl,rfl⟩))
 obtain ⟨W0,hW0⟩:∃ W0,(w.alloc (.cells #[.int .i64 0] 3)).alloc (.cells #[.slice a1 l.length c1] 117)=W0:=⟨_,rfl⟩
 have hB0:Below w.heap.size w W0:=by rw [← hW0];exact ((Below.refl _ w).alloc (Nat.le_refl _) _).alloc (by simp) _
 have hz0:W0.heap.size=w.heap.size+2:=by rw [← hW0];simp
 have k1:Boxed W0 w.heap.size 3 (.int .i64 0):=by rw [← hW0];exact (Boxed.new w 3 (.int .i64 0)).alloc _
 have k2:Boxed W0 (w.heap.size+1) 117 (.slice a1 l.length c1):=by
  have h:=Boxed.new (w.alloc (.cells #[.int .i64 0] 3)) 117 (.slice a1 l.length c1)
  rw [World.size_alloc] at h
  rw [← hW0]
  exact h
 have HV0:=hide (segsV_keep hV hao hB0 (by omega))
 rw [hW0]
 clear hW0
 obtain ⟨sf,hsf⟩:∃ f:Pl l→SegD,∀ x,f x=l[x.1]'x.2:=⟨_,fun x => rfl⟩
 obtain ⟨vf,hvf⟩:∃ f:Pl l→Option Addr × Nat,∀ x,f x=vs[x.1]'(by have:=x.2;omega):=⟨fun x => vs[x.1]'(by have:=x.2;omega),fun x => rfl⟩
 obtain ⟨pf,hpf⟩:∃ f:Pl l→Option Addr × Nat,∀ x,f x=ps[x.1]'(by have:=x.2;omega):=⟨fun x => ps[x.1]'(by have:=x.2;omega),fun x => rfl⟩
 have HST:=back_stops l vs ps hvs hps hl a1 c1 2 (w.heap.size+1) W0.heap.size (by omega) W0 (Nat.le_refl _) k2 (fun g hg => by have:=hao g hg;omega) HV0.out
 simp only [← hsf,← hvf,← hpf] at HST
 have HSF:=hide hsf
 have HVF:=hide hvf
 clear hsf hvf hpf
 refine wpIn_rangeFunc_ownH rfl (by omega) (gf:=146) (lb:=#[.pointer (some ⟨w.heap.size+1,0,none⟩)]) rfl trivial (enters_of Tryz.func146 (by kernel_rfl) rfl)
  HST kpT_t (kpT_b (Nat.le_refl _)) (Below.refl _ _) (fun _ => rfl)
  (BackAt l W0) (BackX l w w.heap.size) (backAt_own l W0 _ (Nat.le_refl _)) (backX_own l w w.heap.size _ (by omega) (by omega))
  ⟨fun x hx => absurd hx List.not_mem_nil,Below.refl _ _⟩
  (fun x a' W => ∃ g,a' = { tmps:=#[.slice a1 l.length c1,undef,.pointer (some ⟨w.heap.size,0,none⟩),undef,.pointer (some ⟨g,0,none⟩),.slice a1 l.length c1,.func (.func 146) #[] #[.pointer (some ⟨w.heap.size+1,0,none⟩)],.int .i64 (x.1:Int),segV (sf x) (vf x) (pf x),undef,undef,undef,undef,undef,undef,undef,undef,undef,undef,undef,undef,undef],defers:=[] }∧W.heap[g]? = some (.cells (segC (sf x) (vf x) (pf x)) 158 (0,0)))
  (fun x a' => by
   rintro _ W W' row ⟨g,h1,h2⟩ hg hr
   refine ⟨g,h1,(hg.block g (heap_lt h2) (fun e => ?_)).trans h2⟩
   obtain ⟨-,o,ho,hc⟩:=hr _ e.symm
   rw [h2] at ho
   cases ho
   cases hc) ?assign ?body ?done ?stop
 case assign =>
  rintro L pre x W K ⟨hE,hBl⟩ hK
  gi_wp2
  have b1:Below W.heap.size W (W.alloc (.cells (segC (sf x) (vf x) (pf x)) 158)):=(Below.refl _ W).alloc (Nat.le_refl _) _
  exact hK _ _ (KeepsFrom.of_grownBy (grownBy_below none b1) (fun j e => by cases e)) ⟨b1.mono hBl.size,fun v hv => hv.alloc _⟩ ⟨hE,hBl.trans (b1.mono hBl.size)⟩ ⟨W.heap.size,rfl,heap_alloc_new W _⟩
 case body =>
  rintro L pre x a' W hLl hrec ⟨hE,hBl⟩ ⟨g,rfl,hblk⟩ hlt
  obtain ⟨e0,e1,e2,e3,e4,e5,e6⟩:=seven_cells hblk
  have HBb:(sf x).bs.length≤20001:=by rw [HSF.out x];exact HB.out _ (List.getElem_mem x.2)
  have HRx:Hid (RowBatch w K (.slice (vf x).1 (sf x).bs.length (vf x).2) (sf x).bs):=HRB.out x.1 (vf x) (sf x) (by rw [HVF.out x];exact List.getElem?_eq_getElem (by have:=x.2;omega)) (by rw [HSF.out x];exact List.getElem?_eq_getElem x.2)
  have HBw:Hid (Below w.heap.size w W):=hB0.trans (hBl.mono (by omega))
  have HEX:=hide hE
  by_cases hz:(sf x).bs.length=0
  ·
   have hz':decide ((0:Int) < ((sf x).bs.length:Int))=false:=by rw [decide_eq_false_iff_not];omega
   have hzn:decide (0 < (sf x).bs.length)=false:=by rw [decide_eq_false_iff_not];omega
   have HZ:=hide hz
   clear hz hE
   gi_wp2
   refine ⟨KeepsFrom.of_grownBy (World.grownBy.refl W none) (fun j e => by cases e),⟨Below.refl _ _,fun v hv => hv⟩,fun y hy => ?_,hBl⟩
   rcases List.mem_append.1 hy with hy | hy
   · exact HEX.out y hy
   ·
    obtain rfl:y=x:=by simpa using hy
    have:=HZ.out
    rw [HSF.out y] at this
    exact List.eq_nil_of_length_eq_zero this
  ·
   have hz':decide ((0:Int) < ((sf x).bs.length:Int))=true:=by rw [decide_eq_true_eq];omega
   have hzn:decide (0 < (sf x).bs.length)=true:=by rw [decide_eq_true_eq];omega
   obtain ⟨b,off,hab,hbw,hd0,-⟩:=(rowBatch_rows (rowBatch_below HRx.out HBw.out)).2 ((sf x).bs.length - 1) (by omega)
   have HQ:Hid (((sf x).bs[(sf x).bs.length - 1]'(by omega))=((l[x.1]'x.2).bs[(l[x.1]'x.2).bs.length - 1]'(by rw [← HSF.out x];omega))):=by show _=_;simp only [HSF.out x]
   generalize ((sf x).bs[(sf x).bs.length - 1]'(by omega))=E at hd0 HQ
   have hj0:(0:Int)≤((sf x).bs.length:Int) - 1:=by omega
   have hj1:((sf x).bs.length:Int) - 1 < ((sf x).bs.length:Int):=by omega
   have hjn:(((sf x).bs.length:Int) - 1).toNat=(sf x).bs.length - 1:=by omega
   have hjw:IntKind.i64.wrap (((sf x).bs.length:Int) - 1)=((sf x).bs.length:Int) - 1:=by rw [IntKind.wrap_i64];omega
   have hkx:Boxed W w.heap.size 3 (.int .i64 0):=(hBl.block w.heap.size (by omega)).trans k1
   have hc0:=hkx.cell
   have hf0:=hkx.frozen
   have HPOS:Hid (0 < (l[x.1]'x.2).bs.length):=by show _ < _;rw [← HSF.out x];omega
   have HKX:=hide hkx
   clear hkx hE
   gi_wp2
   refine ⟨KeepsFrom.of_grownBy (grownBy_setCell' W w.heap.size _) (fun j e => by cases e;omega),rfl,pre,x,rfl,HEX.out,⟨HPOS.out,?_⟩,HBw.out.setCell (p:=⟨w.heap.size,0,none⟩) (Nat.le_refl _) _⟩
   rw [← HQ.out]
   exact HKX.out.set _
 case done =>
  rintro D ys W hD hys ⟨hE,hBl⟩ hK
  have HE:Hid (seqD l=0):=by
   show _=_
   rw [lastB_of_empty 0 (Nat.zero_le _) (fun j hj _ => ?_)]
   · rfl
   ·
    have:j ∈ pv ys:=by rw [hys];exact mem_downTo.2 ⟨Nat.zero_le _,hj⟩
    unfold pv at this
    obtain ⟨y,hy,rfl⟩:=List.mem_map.1 this
    exact hE y hy
  have hkx:Boxed W w.heap.size 3 (.int .i64 0):=(hBl.block w.heap.size (by omega)).trans k1
  have hc0:=hkx.cell
  have hf0:=hkx.frozen
  have HKX:=hide hkx
  have HBw:Hid (Below w.heap.size w W):=hB0.trans (hBl.mono (by omega))
  clear hkx hE
  gi_wp2
  have hD6:(W.setCell ⟨w.heap.size,0,none⟩ (.int .i64 0)).heap[D]? = some (.deferred (some [])):=(Below.heap_setCell _ _ _ _ (by show D ≠ w.heap.size;omega)).trans hK
  obtain ⟨y0,y1⟩:=box_ret (HKX.out.set (.int .i64 0)) hD6 (.deferred none)
  have y2:=y1 w (HBw.out.setCell (p:=⟨w.heap.size,0,none⟩) (Nat.le_refl _) _) (by omega)
  refine ⟨by simp,.inl ⟨_,_,rfl,run_takeDeferred hD6,?_⟩⟩
  generalize World.putObj _ D (.deferred none)=Wz at y0 y2 ⊢
  refine ⟨.int .i64 0,?_,?_⟩
  · simp [results,Tryz.results91,go_sem,y0]
  ·
   rw [HE.out]
   exact ⟨rfl,y2⟩
 case stop =>
  rintro D c pre W hD ⟨rest,hrest⟩ ⟨rfl,p,x,rfl,hE,⟨hpos,hbx⟩,hBl⟩ hK
  have HE:Hid (seqD l=((l[x.1]'x.2).bs[(l[x.1]'x.2).bs.length - 1]'(by omega)).seq):=by
   show _=_
   rw [pv_snoc] at hrest
   have hp:=downTo_split hrest
   rw [lastB_of_empty (x.1+1) x.2 (fun j hj hxj => ?_),seqD_take_succ x.2,lastB_last _ _ hpos]
   have:j ∈ pv p:=by rw [hp];exact mem_downTo.2 ⟨hxj,hj⟩
   unfold pv at this
   obtain ⟨y,hy,rfl⟩:=List.mem_map.1 this
   exact hE y hy
  generalize ((l[x.1]'x.2).bs[(l[x.1]'x.2).bs.length - 1]'(by omega)).seq=Q at HE hbx
  have hc0:=hbx.cell
  have HBX:=hide hbx
  clear hE hbx
  gi_wp2
  obtain ⟨y0,y1⟩:=box_ret HBX.out hK (.deferred none)
  have y2:=y1 w hBl (by omega)
  refine ⟨by simp,.inl ⟨_,_,rfl,run_takeDeferred hK,?_⟩⟩
  generalize World.putObj _ D (.deferred none)=Wz at y0 y2 ⊢
  refine ⟨.int .i64 Q,?_,?_⟩
  · simp [results,Tryz.results91,go_sem,y0]
  ·
   rw [HE.out]
   exact ⟨rfl,y2⟩
end Go.Proofs.YtepdckehokdjlaaGreatDoor
namespace Go.Proofs
open Go.RowKit Go.Maps Go.Sort Go.Shelf
def Tryz.keys103_ren:Go.Shelf.Ren:=⟨fun | 7 => 103 | 10 => 141 | n => n,fun | 23 => 123 | 26 => 9 | 3 => 163 | 28 => 171 | 0 => 0 | 27 => 170 | 33 => 92 | 4 => 4 | n => n,fun | n => n⟩
theorem Tryz.keys103:Go.Proofs.SlLaysZ.n7 Tryz.prog Tryz.keys103_ren:={
 mixed:=by kernel_rfl
 f7:=⟨Tryz.f103.name,by decide,Tryz.func103.trans (congrArg some (by kernel_rfl))⟩
 f10:=⟨Tryz.f141.name,by decide,Tryz.func141.trans (congrArg some (by kernel_rfl))⟩
 t0:=Tryz.underlying0
 a0:=Tryz.isAgg0
 z0:=Tryz.sizeOf0
 v0:=Tryz.zeroValue0
 t4:=Tryz.underlying4
 a4:=Tryz.isAgg4
 z4:=Tryz.sizeOf4
 v4:=Tryz.zeroValue4
 t23:=Tryz.underlying123
 a23:=Tryz.isAgg123
 z23:=Tryz.sizeOf123
 v23:=Tryz.zeroValue123
 t26:=Tryz.underlying9
 a26:=Tryz.isAgg9
 z26:=Tryz.sizeOf9
 v26:=Tryz.zeroValue9
 t27:=Tryz.underlying170
 a27:=Tryz.isAgg170
 z27:=Tryz.sizeOf170
 v27:=Tryz.zeroValue170
 t28:=Tryz.underlying171
 a28:=Tryz.isAgg171
 z28:=Tryz.sizeOf171
 v28:=Tryz.zeroValue171
 t33:=Tryz.underlying92
 a33:=Tryz.isAgg92
 z33:=Tryz.sizeOf92
 v33:=Tryz.zeroValue92 }
def Tryz.sorted102_ren:Go.Shelf.Ren:=⟨fun | 6 => 102 | 8 => 139 | 9 => 140 | 11 => 163 | 13 => 165 | 12 => 164 | 23 => 185 | 24 => 186 | 14 => 176 | 15 => 177 | 16 => 178 | 17 => 179 | 18 => 180 | 19 => 181 | 20 => 182 | 21 => 183 | 22 => 184 | 25 => 194 | 26 => 195 | 27 => 196 | 28 => 197 | 29 => 198 | 30 => 191 | 31 => 204 | n => n,fun | 26 => 9 | 28 => 171 | 24 => 136 | 0 => 0 | 3 => 3 | 37 => 184 | 48 => 112 | 50 => 244 | 4 => 4 | 40 => 237 | 39 => 236 | 45 => 139 | 5 => 5 | 9 => 9 | 51 => 251 | 55 => 255 | 57 => 266 | 58 => 267 | 33 => 92 | n => n,fun | n => n⟩
theorem Tryz.sorted102:Go.Proofs.SlLaysZ.n6 Tryz.prog Tryz.sorted102_ren:={
 mixed:=by kernel_rfl
 f6:=⟨Tryz.f102.name,by decide,Tryz.func102.trans (congrArg some (by kernel_rfl))⟩
 f8:=⟨Tryz.f139.name,by decide,Tryz.func139.trans (congrArg some (by kernel_rfl))⟩
 f11:=⟨Tryz.f163.name,by decide,Tryz.func163.trans (congrArg some (by kernel_rfl))⟩
 t0:=Tryz.underlying0
 a0:=Tryz.isAgg0
 z0:=Tryz.sizeOf0
 v0:=Tryz.zeroValue0
 t24:=Tryz.underlying136
 a24:=Tryz.isAgg136
 z24:=Tryz.sizeOf136
 v24:=Tryz.zeroValue136
 t26:=Tryz.underlying9
 a26:=Tryz.isAgg9
 z26:=Tryz.sizeOf9
 v26:=Tryz.zeroValue9
 t28:=Tryz.underlying171
 a28:=Tryz.isAgg171
 z28:=Tryz.sizeOf171
 v28:=Tryz.zeroValue171
 i26:=by kernel_rfl }
def Tryz.sort140_ren:Go.Shelf.Ren:=⟨fun | 6 => 140 | 8 => 165 | 9 => 164 | 19 => 185 | 20 => 186 | 21 => 176 | 22 => 177 | 23 => 178 | 24 => 179 | 25 => 180 | 26 => 181 | 27 => 182 | 28 => 183 | 29 => 184 | 36 => 194 | 31 => 195 | 32 => 196 | 37 => 197 | 38 => 198 | 39 => 191 | 41 => 204 | n => n,fun | 27 => 136 | 29 => 9 | 3 => 3 | 32 => 184 | 26 => 136 | 0 => 0 | 44 => 112 | 46 => 244 | 4 => 4 | 36 => 237 | 35 => 236 | 41 => 139 | 5 => 5 | 9 => 9 | 53 => 251 | 57 => 255 | 63 => 266 | 64 => 267 | n => n,fun | n => n⟩
theorem Tryz.sort140:Go.Proofs.SlLaysM.n6 Tryz.prog Tryz.sort140_ren:={
 mixed:=by kernel_rfl
 f6:=⟨Tryz.f140.name,by decide,Tryz.func140.trans (congrArg some (by kernel_rfl))⟩
 f8:=Tryz.func165.trans (congrArg some (by kernel_rfl))
 f9:=⟨Tryz.f164.name,by decide,Tryz.func164.trans (congrArg some (by kernel_rfl))⟩
 f19:=Tryz.func185.trans (congrArg some (by kernel_rfl))
 f20:=Tryz.func186.trans (congrArg some (by kernel_rfl))
 f21:=⟨Tryz.f176.name,by decide,Tryz.func176.trans (congrArg some (by kernel_rfl))⟩
 f22:=⟨Tryz.f177.name,by decide,Tryz.func177.trans (congrArg some (by kernel_rfl))⟩
 f23:=⟨Tryz.f178.name,by decide,Tryz.func178.trans (congrArg some (by kernel_rfl))⟩
 f24:=⟨Tryz.f179.name,by decide,Tryz.func179.trans (congrArg some (by kernel_rfl))⟩
 f25:=⟨Tryz.f180.name,by decide,Tryz.func180.trans (congrArg some (by kernel_rfl))⟩
 f26:=⟨Tryz.f181.name,by decide,Tryz.func181.trans (congrArg some (by kernel_rfl))⟩
 f27:=⟨Tryz.f182.name,by decide,Tryz.func182.trans (congrArg some (by kernel_rfl))⟩
 f28:=⟨Tryz.f183.name,by decide,Tryz.func183.trans (congrArg some (by kernel_rfl))⟩
 f29:=⟨Tryz.f184.name,by decide,Tryz.func184.trans (congrArg some (by kernel_rfl))⟩
 f31:=Tryz.func195.trans (congrArg some (by kernel_rfl))
 f32:=Tryz.func196.trans (congrArg some (by kernel_rfl))
 f36:=⟨Tryz.f194.name,by decide,Tryz.func194.trans (congrArg some (by kernel_rfl))⟩
 f37:=⟨Tryz.f197.name,by decide,Tryz.func197.trans (congrArg some (by kernel_rfl))⟩
 f38:=⟨Tryz.f198.name,by decide,Tryz.func198.trans (congrArg some (by kernel_rfl))⟩
 f39:=⟨Tryz.f191.name,by decide,Tryz.func191.trans (congrArg some (by kernel_rfl))⟩
 f41:=⟨Tryz.f204.name,by decide,Tryz.func204.trans (congrArg some (by kernel_rfl))⟩
 t0:=Tryz.underlying0
 a0:=Tryz.isAgg0
 z0:=Tryz.sizeOf0
 v0:=Tryz.zeroValue0
 t3:=Tryz.underlying3
 a3:=Tryz.isAgg3
 z3:=Tryz.sizeOf3
 v3:=Tryz.zeroValue3
 t4:=Tryz.underlying4
 a4:=Tryz.isAgg4
 z4:=Tryz.sizeOf4
 v4:=Tryz.zeroValue4
 t5:=Tryz.underlying5
 a5:=Tryz.isAgg5
 z5:=Tryz.sizeOf5
 v5:=Tryz.zeroValue5
 t9:=Tryz.underlying9
 a9:=Tryz.isAgg9
 z9:=Tryz.sizeOf9
 v9:=Tryz.zeroValue9
 t26:=Tryz.underlying136
 a26:=Tryz.isAgg136
 z26:=Tryz.sizeOf136
 v26:=Tryz.zeroValue136
 t27:=Tryz.underlying136
 a27:=Tryz.isAgg136
 z27:=Tryz.sizeOf136
 v27:=Tryz.zeroValue136
 t29:=Tryz.underlying9
 a29:=Tryz.isAgg9
 z29:=Tryz.sizeOf9
 v29:=Tryz.zeroValue9
 t32:=Tryz.underlying184
 a32:=Tryz.isAgg184
 z32:=Tryz.sizeOf184
 v32:=Tryz.zeroValue184
 t35:=Tryz.underlying236
 a35:=Tryz.isAgg236
 z35:=Tryz.sizeOf236
 v35:=Tryz.zeroValue236
 t36:=Tryz.underlying237
 a36:=Tryz.isAgg237
 z36:=Tryz.sizeOf237
 v36:=Tryz.zeroValue237
 t41:=Tryz.underlying139
 a41:=Tryz.isAgg139
 z41:=Tryz.sizeOf139
 v41:=Tryz.zeroValue139
 t44:=Tryz.underlying112
 a44:=Tryz.isAgg112
 z44:=Tryz.sizeOf112
 v44:=Tryz.zeroValue112
 t46:=Tryz.underlying244
 a46:=Tryz.isAgg244
 z46:=Tryz.sizeOf244
 v46:=Tryz.zeroValue244
 t53:=Tryz.underlying251
 a53:=Tryz.isAgg251
 z53:=Tryz.sizeOf251
 v53:=Tryz.zeroValue251
 t57:=Tryz.underlying255
 a57:=Tryz.isAgg255
 z57:=Tryz.sizeOf255
 v57:=Tryz.zeroValue255
 t63:=Tryz.underlying266
 a63:=Tryz.isAgg266
 z63:=Tryz.sizeOf266
 v63:=Tryz.zeroValue266
 t64:=Tryz.underlying267
 a64:=Tryz.isAgg267
 z64:=Tryz.sizeOf267
 v64:=Tryz.zeroValue267 }
def Tryz.keys147_ren:Go.Shelf.Ren:=⟨fun | 7 => 147 | 10 => 168 | n => n,fun | 23 => 196 | 26 => 9 | 3 => 106 | 28 => 171 | 0 => 0 | 27 => 170 | 33 => 92 | 4 => 4 | n => n,fun | n => n⟩
theorem Tryz.keys147:Go.Proofs.SlLaysZ.n7 Tryz.prog Tryz.keys147_ren:={
 mixed:=by kernel_rfl
 f7:=⟨Tryz.f147.name,by decide,Tryz.func147.trans (congrArg some (by kernel_rfl))⟩
 f10:=⟨Tryz.f168.name,by decide,Tryz.func168.trans (congrArg some (by kernel_rfl))⟩
 t0:=Tryz.underlying0
 a0:=Tryz.isAgg0
 z0:=Tryz.sizeOf0
 v0:=Tryz.zeroValue0
 t4:=Tryz.underlying4
 a4:=Tryz.isAgg4
 z4:=Tryz.sizeOf4
 v4:=Tryz.zeroValue4
 t23:=Tryz.underlying196
 a23:=Tryz.isAgg196
 z23:=Tryz.sizeOf196
 v23:=Tryz.zeroValue196
 t26:=Tryz.underlying9
 a26:=Tryz.isAgg9
 z26:=Tryz.sizeOf9
 v26:=Tryz.zeroValue9
 t27:=Tryz.underlying170
 a27:=Tryz.isAgg170
 z27:=Tryz.sizeOf170
 v27:=Tryz.zeroValue170
 t28:=Tryz.underlying171
 a28:=Tryz.isAgg171
 z28:=Tryz.sizeOf171
 v28:=Tryz.zeroValue171
 t33:=Tryz.underlying92
 a33:=Tryz.isAgg92
 z33:=Tryz.sizeOf92
 v33:=Tryz.zeroValue92 }
theorem Tryz.sorts102 (m:Nat):AnyZ.SortsIn Tryz.prog Tryz.sorted102_ren Fence.wide m :=
 ⟨fun blk off cap ss W hH hblk hsz => callsIn_wide.2 (AnyM.slices_Sort_string Tryz.sort140 blk off cap ss W hH hblk hsz),
  fun p cap W => callsIn_wide.2 (AnyM.slices_Sort_string_none Tryz.sort140 p cap W)⟩
theorem Tryz.maps_Keys_103 (mb:Option Nat) (W:World):CallsIn Fence.wide 5 Tryz.prog 103 #[.map mb] W fun e w' => e=.returned (.func (.func 141) #[] #[.pointer (some ⟨W.heap.size,0,none⟩)])∧w' = W.alloc (.cells #[.map mb] 123) :=
 AnyZ.keys_in Tryz.keys103 Fence.wide 5 trivial rfl mb W
theorem Tryz.slices_Sorted_keys_102_103 {H:Type} (b nn:Nat) (D0:DataW H) (R:Value→Option (DataW H × List MemPlace)) (w:World) (hown:w.ownsMap Tryz.prog 9 R b nn D0) (hmax:Maps.size D0≤maxLen) (hbytes:Maps.size D0 * 16≤140737488355328) :
  CallsIn Fence.wide 5 Tryz.prog 102 #[.func (.func 141) #[] #[.pointer (some ⟨w.heap.size,0,none⟩)]] (w.alloc (.cells #[.map (some b)] 123)) fun e w' => ∃ (v:Value) (ss:List (List UInt8)),e=.returned v∧ss.Perm (strKeys D0) ∧
   w'.ownsRow (w.alloc (.cells #[.map (some b)] 123)).heap.size 9 1 v ss.length ((ss.mergeSort (fun x y => decide (x≤y))).map encStr)∧(v=.slice none 0 0 ↔ ss=[])∧Below (w.alloc (.cells #[.map (some b)] 123)).heap.size (w.alloc (.cells #[.map (some b)] 123)) w':=by
 have hbl:=hown.lt
 have hseq:SeqGives Fence.wide 2 Tryz.prog 141 #[.pointer (some ⟨w.heap.size,0,none⟩)] encStr (fun ss => ss.Perm (strKeys D0)) (Maps.size D0) (w.alloc (.cells #[.map (some b)] 123)) :=
  AnyZ.keys_gives (ρ:=Tryz.keys103_ren) { Tryz.keys103 with } Fence.wide _ trivial rfl (by omega) w.heap.size b nn D0 _ (by simp) (by simp) (by
   obtain ⟨es,clock,hb,Ft,hs,hD⟩:=hown
   exact ⟨es,clock,(Below.heap_alloc _ _ b hbl).trans hb,Ft,hs,hD⟩)
 exact AnyZ.sorted_in Tryz.sorted102 Fence.wide 5 trivial trivial trivial trivial rfl (by omega) (Tryz.sorts102 _) (enters_of Tryz.func140 (by kernel_rfl) rfl) 141 #[.pointer (some ⟨w.heap.size,0,none⟩)] trivial (enters_of Tryz.func141 (by kernel_rfl) rfl) _ _ hmax hbytes _ hseq
theorem Tryz.maps_Keys_147 (mb:Option Nat) (W:World):CallsIn Fence.wide 5 Tryz.prog 147 #[.map mb] W fun e w' => e=.returned (.func (.func 168) #[] #[.pointer (some ⟨W.heap.size,0,none⟩)])∧w' = W.alloc (.cells #[.map mb] 196) :=
 AnyZ.keys_in Tryz.keys147 Fence.wide 5 trivial rfl mb W
theorem Tryz.slices_Sorted_keys_102_147 {H:Type} (b nn:Nat) (D0:DataW H) (R:Value→Option (DataW H × List MemPlace)) (w:World) (hown:w.ownsMap Tryz.prog 9 R b nn D0) (hmax:Maps.size D0≤maxLen) (hbytes:Maps.size D0 * 16≤140737488355328) :
  CallsIn Fence.wide 5 Tryz.prog 102 #[.func (.func 168) #[] #[.pointer (some ⟨w.heap.size,0,none⟩)]] (w.alloc (.cells #[.map (some b)] 196)) fun e w' => ∃ (v:Value) (ss:List (List UInt8)),e=.returned v∧ss.Perm (strKeys D0) ∧
   w'.ownsRow (w.alloc (.cells #[.map (some b)] 196)).heap.size 9 1 v ss.length ((ss.mergeSort (fun x y => decide (x≤y))).map encStr)∧(v=.slice none 0 0 ↔ ss=[])∧Below (w.alloc (.cells #[.map (some b)] 196)).heap.size (w.alloc (.cells #[.map (some b)] 196)) w':=by
 have hbl:=hown.lt
 have hseq:SeqGives Fence.wide 2 Tryz.prog 168 #[.pointer (some ⟨w.heap.size,0,none⟩)] encStr (fun ss => ss.Perm (strKeys D0)) (Maps.size D0) (w.alloc (.cells #[.map (some b)] 196)) :=
  AnyZ.keys_gives (ρ:=Tryz.keys147_ren) { Tryz.keys147 with } Fence.wide _ trivial rfl (by omega) w.heap.size b nn D0 _ (by simp) (by simp) (by
   obtain ⟨es,clock,hb,Ft,hs,hD⟩:=hown
   exact ⟨es,clock,(Below.heap_alloc _ _ b hbl).trans hb,Ft,hs,hD⟩)
 exact AnyZ.sorted_in Tryz.sorted102 Fence.wide 5 trivial trivial trivial trivial rfl (by omega) (Tryz.sorts102 _) (enters_of Tryz.func140 (by kernel_rfl) rfl) 168 #[.pointer (some ⟨w.heap.size,0,none⟩)] trivial (enters_of Tryz.func168 (by kernel_rfl) rfl) _ _ hmax hbytes _ hseq
end Go.Proofs
