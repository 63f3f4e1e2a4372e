import Derived.Test.YtbenmgokhklnjaaGreatDoorTb11
import Derived.Test.YtbenmgokhklnjaaGreatDoorTb19
import Derived.Test.YtbenmgokhklnjaaGreatDoorTb20
import Derived.Test.YtbenmgokhklnjaaGreatDoorTb18
set_option maxRecDepth 100000
set_option maxHeartbeats 4000000
namespace Go.Proofs.YtbenmgokhklnjaaGreatDoor
open Go.RowKit Go.Shelf
attribute [local go_sem] Oper.semAt_some
def KpT (n₀ Bn:Nat) (t:TypeId) (W W':World):Prop:=Below n₀ W W'∧∀ v,Boxed W Bn t v→Boxed W' Bn t v
theorem kpT_t {n₀ Bn:Nat} {t:TypeId} {A B C:World} (h:KpT n₀ Bn t A B) (k:KpT n₀ Bn t B C):KpT n₀ Bn t A C:=⟨h.1.trans k.1,fun v hv => k.2 v (h.2 v hv)⟩
theorem kpT_b {n₀ Bn:Nat} {t:TypeId} {w:World} (hn:n₀≤w.heap.size) (W:World) (l:Nat) (o o':Obj) (hl:w.heap.size≤l) (h:W.heap[l]? = some o) (hc:o.isCells=false) (hw:o.isWalk=false):KpT n₀ Bn t W (W.putObj l o') :=
 ⟨belowK_b hn W l o o' hl h hc hw,fun v hv => hv.kept (grownBy_putObj' W l o') (fun e => by
  cases e
  have hv':W.heap[Bn]? = some (.cells #[v] t (0,0)):=hv
  rw [hv'] at h
  cases h
  cases hc)⟩
def sliceAC:Value→Option Addr × Nat
 | .slice a _ c => (a,c)
 | _ => (none,0)
abbrev segC (s:SegD) (v p:Option Addr × Nat):Array Value:=#[.int .i64 (s.num:Int),.int .i64 (s.frm:Int),.slice v.1 s.bs.length v.2,.slice p.1 s.pls.length p.2,.int .i64 (s.fin:Int),.bool s.right,.bool s.torn]
abbrev segV (s:SegD) (v p:Option Addr × Nat):Value:=.agg (segC s v p)
def SegsV (w:World) (ao:Option Addr) (l:List SegD) (vs ps:List (Option Addr × Nat)):Prop:=vs.length=l.length∧ps.length=l.length∧∀ j (s:SegD) (v p:Option Addr × Nat),l[j]? = some s→vs[j]? = some v→ps[j]? = some p→∃ g,ao=some ⟨g,0,none⟩∧g < w.heap.size ∧
 w.cell? ⟨g,j * 7,none⟩=some (.int .i64 (s.num:Int))∧w.cell? ⟨g,j * 7+1,none⟩=some (.int .i64 (s.frm:Int))∧w.cell? ⟨g,j * 7+2,none⟩=some (.slice v.1 s.bs.length v.2)∧w.cell? ⟨g,j * 7+3,none⟩=some (.slice p.1 s.pls.length p.2)∧w.cell? ⟨g,j * 7+4,none⟩=some (.int .i64 (s.fin:Int))∧w.cell? ⟨g,j * 7+5,none⟩=some (.bool s.right)∧w.cell? ⟨g,j * 7+6,none⟩=some (.bool s.torn)
theorem segsV_of {w:World} {B K n cap:Nat} {ao:Option Addr} {l:List SegD} (h:BuildG w B K (.slice ao n cap) l):∃ vs ps,SegsV w ao l vs ps∧(∀ (j:Nat) (x:Option Addr × Nat) (s:SegD),vs[j]? = some x→l[j]? = some s→RowBatch w K (.slice x.1 s.bs.length x.2) s.bs):=by
 obtain ⟨vs,ps,h0,h1,h2,h3,h4⟩:=h
 refine ⟨vs.map sliceAC,ps.map sliceAC,⟨by simp [h0],by simp [h1],fun j s v p hs hv hp => ?_⟩,fun j x s hx hs => ?_⟩
 ·
  rw [List.getElem?_map,Option.map_eq_some_iff] at hv hp
  obtain ⟨v',hv,rfl⟩:=hv
  obtain ⟨p',hp,rfl⟩:=hp
  have hj:j < l.length:=(List.getElem?_eq_some_iff.1 hs).1
  obtain ⟨a,c,rfl,-⟩:=rowBatch_at (h3 j v' s hv hs)
  obtain ⟨a',c',rfl⟩:=rowNat_form (h4 j p' s hp hs)
  rcases h2.2 with ⟨_,hn⟩ | ⟨g,cap',cur,hv',hB,hC,hle,_,hsz,ht⟩
  · omega
  ·
   cases hv'
   obtain ⟨k1,k2,k3,k4,k5,k6,k7⟩:=cellsSeg_get l vs ps j s _ _ hs hv hp
   refine ⟨g,rfl,(Array.getElem?_eq_some_iff.1 hC).1,?_,?_,?_,?_,?_,?_,?_⟩
   · exact (cell_of_row w g (j * 7) _ _ (0,0) hC).trans (take_getChange ht (by omega) k1)
   · exact (cell_of_row w g (j * 7+1) _ _ (0,0) hC).trans (take_getChange ht (by omega) k2)
   · exact (cell_of_row w g (j * 7+2) _ _ (0,0) hC).trans (take_getChange ht (by omega) k3)
   · exact (cell_of_row w g (j * 7+3) _ _ (0,0) hC).trans (take_getChange ht (by omega) k4)
   · exact (cell_of_row w g (j * 7+4) _ _ (0,0) hC).trans (take_getChange ht (by omega) k5)
   · exact (cell_of_row w g (j * 7+5) _ _ (0,0) hC).trans (take_getChange ht (by omega) k6)
   · exact (cell_of_row w g (j * 7+6) _ _ (0,0) hC).trans (take_getChange ht (by omega) k7)
 ·
  rw [List.getElem?_map,Option.map_eq_some_iff] at hx
  obtain ⟨v',hv,rfl⟩:=hx
  have:=h3 j v' s hv hs
  obtain ⟨a,c,rfl,-⟩:=rowBatch_at this
  exact this
theorem segsV_keep {w w':World} {n₀:Nat} {ao:Option Addr} {l:List SegD} {vs ps:List (Option Addr × Nat)} (h:SegsV w ao l vs ps) (hao:∀ g,ao=some ⟨g,0,none⟩→g < n₀) (hb:Below n₀ w w') (hw:w.heap.size≤w'.heap.size):SegsV w' ao l vs ps:=by
 refine ⟨h.1,h.2.1,fun j s v p hs hv hp => ?_⟩
 obtain ⟨g,h1,h2,h3,h4,h5,h6,h7,h8,h9⟩:=h.2.2 j s v p hs hv hp
 have hg:=hao g h1
 exact ⟨g,h1,by omega,(hb.cell (p:=⟨g,j * 7,none⟩) hg).trans h3,(hb.cell (p:=⟨g,j * 7+1,none⟩) hg).trans h4,(hb.cell (p:=⟨g,j * 7+2,none⟩) hg).trans h5,(hb.cell (p:=⟨g,j * 7+3,none⟩) hg).trans h6,(hb.cell (p:=⟨g,j * 7+4,none⟩) hg).trans h7,(hb.cell (p:=⟨g,j * 7+5,none⟩) hg).trans h8,(hb.cell (p:=⟨g,j * 7+6,none⟩) hg).trans h9⟩
abbrev Pl (l:List SegD):={ j:Nat // j < l.length }
def pv {l:List SegD} (x:List (Pl l)):List Nat:=x.map Subtype.val
theorem pv_snoc {l:List SegD} (x:List (Pl l)) (y:Pl l):pv (x ++ [y])=pv x ++ [y.1]:=by simp [pv]
theorem pv_len {l:List SegD} (x:List (Pl l)):(pv x).length=x.length:=by simp [pv]
def downTo (n k:Nat):List Nat:=((List.range n).drop k).reverse
theorem downTo_step {n k:Nat} (h:k < n):downTo n k=downTo n (k+1) ++ [k]:=by
 unfold downTo
 rw [List.drop_eq_getElem_cons (by simpa using h)]
 simp
theorem downTo_top (n:Nat):downTo n n=[]:=by
 unfold downTo
 rw [List.drop_eq_nil_of_le (by simp)]
 rfl
theorem downTo_pre {n k:Nat}:∃ rest,downTo n 0=downTo n k ++ rest:=by
 unfold downTo
 refine ⟨((List.range n).take k).reverse,?_⟩
 rw [← List.reverse_append,List.take_append_drop,List.drop_zero]
theorem back1_pre (l:List SegD) (vs ps:List (Option Addr × Nat)) (hvs:vs.length=l.length) (hps:ps.length=l.length) (hl:l.length≤100) (ao:Option Addr) (cap:Nat) (n L Bn n₀:Nat) (hn:1≤n) (J Jx:List (Pl l)→World→Prop)
  (hY:∀ pre x W,J pre W→pre.length < l.length→YieldAt Fence.wide (n - 1) Tryz.prog L #[.int .i64 (x.1:Int),segV (l[x.1]'x.2) (vs[x.1]'(by have:=x.2;omega)) (ps[x.1]'(by have:=x.2;omega))] W fun e W' =>
   (e=.returned (.bool true)∧J (pre ++ [x]) W'∧KpT n₀ Bn 126 W W') ∨ (e=.returned (.bool false)∧Jx (pre ++ [x]) W'))
  (W:World) (hJ:AbidesFrom W.heap.size J) (hbox:Boxed W Bn 126 (.slice ao l.length cap)) (hao:∀ g,ao=some ⟨g,0,none⟩→g < n₀) (hV:SegsV W ao l vs ps) (h0:J [] W) :
  CallsIn Fence.wide n Tryz.prog 154 #[.func (.yield L) #[] #[],.pointer (some ⟨Bn,0,none⟩)] W fun e W' => (∃ v,e=.returned v) ∧
   ((∃ ys,pv ys=downTo l.length 0∧J ys W') ∨ (∃ pre,(∃ rest,downTo l.length 0=pv pre ++ rest)∧Jx pre W')):=by
 have HY:=hide hY
 have HJ:=hide hJ
 have HV:=hide hV
 have HAO:=hide hao
 clear hY hJ hV hao
 have hc0:=hbox.cell
 have hw0:IntKind.i64.wrap ((l.length:Int) - 1)=(l.length:Int) - 1:=by rw [IntKind.wrap_i64];omega
 refine callsIn_of_wp Tryz.func154 rfl trivial ?_ rfl
 simp only [Tryz.ntmps154,List.size_toArray,List.length_cons,List.length_nil,Nat.reduceAdd,Nat.reduceSub,Array.replicate_succ,Array.replicate_zero,List.push_toArray,List.append_toArray,List.nil_append,List.cons_append]
 gi_wp2
 gi_loopw [3] (fun a wr => ∃ (pre:List (Pl l)) (i:Nat),a=.int .i64 ((i:Int) - 1)∧i≤l.length∧Hid (pv pre=downTo l.length i)∧Hid (J pre wr)∧Boxed wr Bn 126 (.slice ao l.length cap)∧Below n₀ W wr∧W.heap.size≤wr.heap.size) (fun a _ => (intOf a+1).toNat)
 case atStart => exact ⟨[],l.length,rfl,Nat.le_refl _,(downTo_top _).symm,h0,hbox,Below.refl _ _,Nat.le_refl _⟩
 case round =>
  obtain ⟨pre,i,rfl,hi,hpre,hJp,hbx,hbl,hsz⟩:=hrel
  have hc:=hbx.cell
  have HVr:=hide (segsV_keep HV.out HAO.out hbl hsz)
  cases i with
  | zero =>
   have hz:decide ((0:Int)≤((0:Nat):Int) - 1)=false:=by decide
   gi_wp2
   refine bodyPost_end (results_none rfl _ _ _) rfl ?_
   exact ⟨⟨_,rfl⟩,.inl ⟨pre,hpre.out,hJp.out⟩⟩
  | succ i =>
   have hz:decide ((0:Int)≤(i:Int))=true:=by simp
   have hi1:((i+1:Nat):Int) - 1=(i:Int):=by omega
   have hi0:(0:Int)≤(i:Int):=by omega
   have hi2:(i:Int) < (l.length:Int):=by omega
   rw [hi1]
   have hil:i < l.length:=by omega
   obtain ⟨g,hg,hgw,e0,e1,e2,e3,e4,e5,e6⟩:=HVr.out.2.2 i l[i] (vs[i]'(by omega)) (ps[i]'(by omega)) (List.getElem?_eq_getElem hil) (List.getElem?_eq_getElem (by omega)) (List.getElem?_eq_getElem (by omega))
   subst hg
   have hlen:pre.length < l.length:=by
    have e:=congrArg List.length hpre.out
    rw [pv_len] at e
    unfold downTo at e
    rw [List.length_reverse,List.length_drop,List.length_range] at e
    omega
   have HS:Hid (pv (pre ++ [⟨i,hil⟩])=downTo l.length i):=by show _=_;rw [pv_snoc,hpre.out,← downTo_step hil]
   obtain ⟨fn,tmps,assign,body,hy,hR⟩:=HY.out pre ⟨i,hil⟩ wr hJp.out hlen
   have hwr:IntKind.i64.wrap ((i:Int) - 1)=(i:Int) - 1:=by rw [IntKind.wrap_i64];omega
   gi_wp2
   refine hR.mono ?_
   rintro e W3 (⟨rfl,hJ3,hk3⟩ | ⟨rfl,hJx3⟩)
   ·
    gi_wp2
    go_roundw
    case rel => exact ⟨pre ++ [⟨i,hil⟩],i,rfl,by omega,HS,hide hJ3,hk3.2 _ hbx,hbl.trans hk3.1,Nat.le_trans hsz hk3.1.size⟩
    case measure => first | omega | (simp [intOf];done) | (simp [intOf];omega)
   ·
    gi_wp2
    refine bodyPost_ret (results_none rfl _ _ _) rfl ?_
    exact ⟨⟨_,rfl⟩,.inr ⟨_,by rw [HS.out];exact downTo_pre,hJx3⟩⟩
theorem backward_any (ao:Option Addr) (n cap:Nat) (w:World) :
  Calls Tryz.prog 122 #[.slice ao n cap] w fun e w' => e=.returned (.func (.func 154) #[] #[.pointer (some ⟨w.heap.size,0,none⟩)])∧w' = w.alloc (.cells #[.slice ao n cap] 126):=by
 go_enter Tryz.func122,Tryz.ntmps122
 go_wp2
 go_ret
 exact ⟨rfl,rfl⟩
theorem back_stops (l:List SegD) (vs ps:List (Option Addr × Nat)) (hvs:vs.length=l.length) (hps:ps.length=l.length) (hl:l.length≤100) (ao:Option Addr) (cap:Nat) (n Bn n₀:Nat) (hn:1≤n) (w:World) (hn₀:n₀≤w.heap.size) (hbox:Boxed w Bn 126 (.slice ao l.length cap)) (hao:∀ g,ao=some ⟨g,0,none⟩→g < n₀) (hV:SegsV w ao l vs ps) :
  SeqStopsK Fence.wide n Tryz.prog 154 #[.pointer (some ⟨Bn,0,none⟩)] (fun x:Pl l => #[Value.int .i64 (x.1:Int),segV (l[x.1]'x.2) (vs[x.1]'(by have:=x.2;omega)) (ps[x.1]'(by have:=x.2;omega))]) (KpT n₀ Bn 126) (fun ys => pv ys=downTo l.length 0) (fun pre => ∃ rest,downTo l.length 0=pv pre ++ rest) l.length w:=fun L J Jx W hW hJ _ hY h0 =>
 back1_pre l vs ps hvs hps hl ao cap n L Bn n₀ hn J Jx hY W hJ (hbox.kept (grownBy_below none hW) (by simp)) hao (segsV_keep hV hao (hW.mono hn₀) hW.size) h0
end Go.Proofs.YtbenmgokhklnjaaGreatDoor
namespace Go.Proofs.YtbenmgokhklnjaaGreatDoor
open Go.RowKit Go.Shelf
attribute [local go_sem] Oper.semAt_some
theorem lastB_of_empty {l:List SegD}:∀ (k:Nat),k≤l.length→(∀ j (h:j < l.length),k≤j→l[j].bs=[])→seqD l=seqD (l.take k):=by
 intro k hk h
 induction hn:l.length - k generalizing k with
 | zero => rw [List.take_of_length_le (by omega)]
 | succ n ih =>
  rw [ih (k+1) (by omega) (fun j hj hkj => h j hj (by omega)) (by omega),seqD_take_succ (by omega),h k (by omega) (Nat.le_refl _)]
  rfl
theorem mem_downTo {n k j:Nat}:j ∈ downTo n k ↔ k≤j∧j < n:=by
 unfold downTo
 rw [List.mem_reverse,List.mem_iff_getElem?]
 constructor
 ·
  rintro ⟨i,hi⟩
  rw [List.getElem?_drop,List.getElem?_eq_some_iff] at hi
  obtain ⟨h1,h2⟩:=hi
  simp at h1 h2
  omega
 ·
  rintro ⟨h1,h2⟩
  exact ⟨j - k,by rw [List.getElem?_drop,List.getElem?_eq_some_iff];exact ⟨by simp;omega,by simp;omega⟩⟩
theorem downTo_split {n j:Nat} {p rest:List Nat} (h:downTo n 0=p ++ [j] ++ rest):p=downTo n (j+1):=by
 have hlen:=congrArg List.length h
 have hp:p.length < n:=by
  have:(downTo n 0).length=n:=by unfold downTo;simp
  simp at hlen
  omega
 have h1:(downTo n 0)[p.length]? = some j:=by rw [h];simp
 have h2:j=n - 1 - p.length:=by
  unfold downTo at h1
  rw [List.drop_zero,List.getElem?_reverse (by simpa using hp),List.length_range,List.getElem?_range (by omega)] at h1
  simp only [Option.some.injEq] at h1
  omega
 obtain ⟨r2,h3⟩:=downTo_pre (n:=n) (k:=j+1)
 have h4:(downTo n (j+1)).length=p.length:=by
  unfold downTo
  rw [List.length_reverse,List.length_drop,List.length_range]
  omega
 rw [h3,List.append_assoc] at h
 exact (List.append_inj h h4).1.symm
def BackAt (l:List SegD) (w:World) (pre:List (Pl l)) (W:World):Prop:=(∀ x ∈ pre,(l[x.1]'x.2).bs=[])∧Below w.heap.size w W
theorem backAt_own (l:List SegD) (w:World) (B:Nat) (hB:w.heap.size≤B):OwnFrom B (BackAt l w):=by
 rintro pre W W' row ⟨h,hBl⟩ hg hr
 exact ⟨h,hBl.grown hg hBl.size (fun k hk => Nat.le_trans hB (hr k hk).1)⟩
def BackX (l:List SegD) (w:World) (Rb:Nat) (c:Go.Code) (pre:List (Pl l)) (W:World):Prop :=
 c=.ret∧∃ (p:List (Pl l)) (x:Pl l),pre=p ++ [x]∧(∀ y ∈ p,(l[y.1]'y.2).bs=[])∧(∃ h:0 < (l[x.1]'x.2).bs.length,Boxed W Rb 3 (.int .i64 (((l[x.1]'x.2).bs[(l[x.1]'x.2).bs.length - 1]'(by omega)).seq)))∧Below w.heap.size w W
theorem backX_own (l:List SegD) (w:World) (Rb B:Nat) (hB:w.heap.size≤B) (hR:Rb < B) (c:Go.Code):OwnFrom B (BackX l w Rb c):=by
 rintro pre W W' row ⟨h0,p,x,h1,h2,⟨h3,h4⟩,hBl⟩ hg hr
 refine ⟨h0,p,x,h1,h2,⟨h3,h4.kept hg (fun e => ?_)⟩,hBl.grown hg hBl.size (fun k hk => Nat.le_trans hB (hr k hk).1)⟩
 have:=(hr _ e.symm).1
 omega
theorem box_ret {W:World} {g D:Nat} {t:TypeId} {v:Value} (h:Boxed W g t v) (hD:W.heap[D]? = some (.deferred (some []))) (o':Obj):(W.putObj D o').cell? ⟨g,0,none⟩=some v∧∀ w:World,Below w.heap.size w W→w.heap.size≤D→Below w.heap.size w (W.putObj D o'):=by
 have hne:D ≠ g:=fun e => by rw [e,show W.heap[g]? = _ from h] at hD;cases hD
 have hb:Boxed (W.putObj D o') g t v:=h.kept (grownBy_putObj' W D o') (fun e => by cases e;exact hne rfl)
 exact ⟨hb.cell,fun w hw h2 => hw.trans (belowK_b (w:=w) (Nat.le_refl _) W D _ _ h2 hD rfl rfl)⟩
theorem lastSeq_any (l:List SegD) (v:Value) (B K:Nat) (w:World) (hl:l.length≤100) (hb:∀ s ∈ l,s.bs.length≤20001) (h:BuildG w B K v l) :
  Calls Tryz.prog 91 #[v] w fun e w' => e=.returned (.int .i64 (seqD l))∧Below w.heap.size w w':=by
 obtain ⟨a1,c1,rfl⟩:=buildG_form h
 obtain ⟨vs,ps,hV,hRB⟩:=segsV_of h
 have HB:=hide hb
 have HRB:=hide hRB
 have hvs:=hV.1
 have hps:=hV.2.1
 have hao:∀ g,a1=some ⟨g,0,none⟩→g < w.heap.size:=fun g hg => by
  obtain ⟨vs,ps,-,-,h2,-⟩:=h
  subst hg
  exact (h2.lt g rfl).2
 clear hRB hb h
 refine (callsIn_wide (n:=3)).1 ?_
 refine callsIn_of_wp_marks Tryz.func91 rfl trivial ?_ rfl
 simp only [Tryz.ntmps91,List.size_toArray,List.length_cons,List.length_nil,Nat.reduceAdd,Nat.reduceSub,Array.replicate_succ,Array.replicate_zero,List.push_toArray,List.append_toArray,List.nil_append,List.cons_append]
 gi_wp2_with (first | (refine ⟨trivial,?_⟩;gi_at_call 122;refine (callsIn_wide.2 (backward_any a1 l.length c1 _)).mono ?_;rintro e w' ⟨rfl,rfl⟩))
 obtain ⟨W0,hW0⟩:∃ W0,(w.alloc (.cells #[.int .i64 0] 3)).alloc (.cells #[.slice a1 l.length c1] 126)=W0:=⟨_,rfl⟩
 have hB0:Below w.heap.size w W0:=by rw [← hW0];exact ((Below.refl _ w).alloc (Nat.le_refl _) _).alloc (by simp) _
 have hz0:W0.heap.size=w.heap.size+2:=by rw [← hW0];simp
 have k1:Boxed W0 w.heap.size 3 (.int .i64 0):=by rw [← hW0];exact (Boxed.new w 3 (.int .i64 0)).alloc _
 have k2:Boxed W0 (w.heap.size+1) 126 (.slice a1 l.length c1):=by
  have h:=Boxed.new (w.alloc (.cells #[.int .i64 0] 3)) 126 (.slice a1 l.length c1)
  rw [World.size_alloc] at h
  rw [← hW0]
  exact h
 have HV0:=hide (segsV_keep hV hao hB0 (by omega))
 rw [hW0]
 clear hW0
 obtain ⟨sf,hsf⟩:∃ f:Pl l→SegD,∀ x,f x=l[x.1]'x.2:=⟨_,fun x => rfl⟩
 obtain ⟨vf,hvf⟩:∃ f:Pl l→Option Addr × Nat,∀ x,f x=vs[x.1]'(by have:=x.2;omega):=⟨fun x => vs[x.1]'(by have:=x.2;omega),fun x => rfl⟩
 obtain ⟨pf,hpf⟩:∃ f:Pl l→Option Addr × Nat,∀ x,f x=ps[x.1]'(by have:=x.2;omega):=⟨fun x => ps[x.1]'(by have:=x.2;omega),fun x => rfl⟩
 have HST:=back_stops l vs ps hvs hps hl a1 c1 2 (w.heap.size+1) W0.heap.size (by omega) W0 (Nat.le_refl _) k2 (fun g hg => by have:=hao g hg;omega) HV0.out
 simp only [← hsf,← hvf,← hpf] at HST
 have HSF:=hide hsf
 have HVF:=hide hvf
 clear hsf hvf hpf
 refine wpIn_rangeFunc_ownH rfl (by omega) (gf:=154) (lb:=#[.pointer (some ⟨w.heap.size+1,0,none⟩)]) rfl trivial (enters_of Tryz.func154 (by kernel_rfl) rfl)
  HST kpT_t (kpT_b (Nat.le_refl _)) (Below.refl _ _) (fun _ => rfl)
  (BackAt l W0) (BackX l w w.heap.size) (backAt_own l W0 _ (Nat.le_refl _)) (backX_own l w w.heap.size _ (by omega) (by omega))
  ⟨fun x hx => absurd hx List.not_mem_nil,Below.refl _ _⟩
  (fun x a' W => ∃ g,a' = { tmps:=#[.slice a1 l.length c1,undef,.pointer (some ⟨w.heap.size,0,none⟩),undef,.pointer (some ⟨g,0,none⟩),.slice a1 l.length c1,.func (.func 154) #[] #[.pointer (some ⟨w.heap.size+1,0,none⟩)],.int .i64 (x.1:Int),segV (sf x) (vf x) (pf x),undef,undef,undef,undef,undef,undef,undef,undef,undef,undef,undef,undef,undef],defers:=[] }∧W.heap[g]? = some (.cells (segC (sf x) (vf x) (pf x)) 162 (0,0)))
  (fun x a' => by
   rintro _ W W' row ⟨g,h1,h2⟩ hg hr
   refine ⟨g,h1,(hg.block g (heap_lt h2) (fun e => ?_)).trans h2⟩
   obtain ⟨-,o,ho,hc⟩:=hr _ e.symm
   rw [h2] at ho
   cases ho
   cases hc) ?assign ?body ?done ?stop
 case assign =>
  rintro L pre x W K ⟨hE,hBl⟩ hK
  gi_wp2
  have b1:Below W.heap.size W (W.alloc (.cells (segC (sf x) (vf x) (pf x)) 162)):=(Below.refl _ W).alloc (Nat.le_refl _) _
  exact hK _ _ (KeepsFrom.of_grownBy (grownBy_below none b1) (fun j e => by cases e)) ⟨b1.mono hBl.size,fun v hv => hv.alloc _⟩ ⟨hE,hBl.trans (b1.mono hBl.size)⟩ ⟨W.heap.size,rfl,heap_alloc_new W _⟩
 case body =>
  rintro L pre x a' W hLl hrec ⟨hE,hBl⟩ ⟨g,rfl,hblk⟩ hlt
  obtain ⟨e0,e1,e2,e3,e4,e5,e6⟩:=seven_cells hblk
  have HBb:(sf x).bs.length≤20001:=by rw [HSF.out x];exact HB.out _ (List.getElem_mem x.2)
  have HRx:Hid (RowBatch w K (.slice (vf x).1 (sf x).bs.length (vf x).2) (sf x).bs):=HRB.out x.1 (vf x) (sf x) (by rw [HVF.out x];exact List.getElem?_eq_getElem (by have:=x.2;omega)) (by rw [HSF.out x];exact List.getElem?_eq_getElem x.2)
  have HBw:Hid (Below w.heap.size w W):=hB0.trans (hBl.mono (by omega))
  have HEX:=hide hE
  by_cases hz:(sf x).bs.length=0
  ·
   have hz':decide ((0:Int) < ((sf x).bs.length:Int))=false:=by rw [decide_eq_false_iff_not];omega
   have hzn:decide (0 < (sf x).bs.length)=false:=by rw [decide_eq_false_iff_not];omega
   have HZ:=hide hz
   clear hz hE
   gi_wp2
   refine ⟨KeepsFrom.of_grownBy (World.grownBy.refl W none) (fun j e => by cases e),⟨Below.refl _ _,fun v hv => hv⟩,fun y hy => ?_,hBl⟩
   rcases List.mem_append.1 hy with hy | hy
   · exact HEX.out y hy
   ·
    obtain rfl:y=x:=by simpa using hy
    have:=HZ.out
    rw [HSF.out y] at this
    exact List.eq_nil_of_length_eq_zero this
  ·
   have hz':decide ((0:Int) < ((sf x).bs.length:Int))=true:=by rw [decide_eq_true_eq];omega
   have hzn:decide (0 < (sf x).bs.length)=true:=by rw [decide_eq_true_eq];omega
   obtain ⟨b,off,hab,hbw,hd0,-⟩:=(rowBatch_rows (rowBatch_below HRx.out HBw.out)).2 ((sf x).bs.length - 1) (by omega)
   have HQ:Hid (((sf x).bs[(sf x).bs.length - 1]'(by omega))=((l[x.1]'x.2).bs[(l[x.1]'x.2).bs.length - 1]'(by rw [← HSF.out x];omega))):=by show _=_;simp only [HSF.out x]
   generalize ((sf x).bs[(sf x).bs.length - 1]'(by omega))=E at hd0 HQ
   have hj0:(0:Int)≤((sf x).bs.length:Int) - 1:=by omega
   have hj1:((sf x).bs.length:Int) - 1 < ((sf x).bs.length:Int):=by omega
   have hjn:(((sf x).bs.length:Int) - 1).toNat=(sf x).bs.length - 1:=by omega
   have hjw:IntKind.i64.wrap (((sf x).bs.length:Int) - 1)=((sf x).bs.length:Int) - 1:=by rw [IntKind.wrap_i64];omega
   have hkx:Boxed W w.heap.size 3 (.int .i64 0):=(hBl.block w.heap.size (by omega)).trans k1
   have hc0:=hkx.cell
   have hf0:=hkx.frozen
   have HPOS:Hid (0 < (l[x.1]'x.2).bs.length):=by show _ < _;rw [← HSF.out x];omega
   have HKX:=hide hkx
   clear hkx hE
   gi_wp2
   refine ⟨KeepsFrom.of_grownBy (grownBy_setCell' W w.heap.size _) (fun j e => by cases e;omega),rfl,pre,x,rfl,HEX.out,⟨HPOS.out,?_⟩,HBw.out.setCell (p:=⟨w.heap.size,0,none⟩) (Nat.le_refl _) _⟩
   rw [← HQ.out]
   exact HKX.out.set _
 case done =>
  rintro D ys W hD hys ⟨hE,hBl⟩ hK
  have HE:Hid (seqD l=0):=by
   show _=_
   rw [lastB_of_empty 0 (Nat.zero_le _) (fun j hj _ => ?_)]
   · rfl
   ·
    have:j ∈ pv ys:=by rw [hys];exact mem_downTo.2 ⟨Nat.zero_le _,hj⟩
    unfold pv at this
    obtain ⟨y,hy,rfl⟩:=List.mem_map.1 this
    exact hE y hy
  have hkx:Boxed W w.heap.size 3 (.int .i64 0):=(hBl.block w.heap.size (by omega)).trans k1
  have hc0:=hkx.cell
  have hf0:=hkx.frozen
  have HKX:=hide hkx
  have HBw:Hid (Below w.heap.size w W):=hB0.trans (hBl.mono (by omega))
  clear hkx hE
  gi_wp2
  have hD6:(W.setCell ⟨w.heap.size,0,none⟩ (.int .i64 0)).heap[D]? = some (.deferred (some [])):=(Below.heap_setCell _ _ _ _ (by show D ≠ w.heap.size;omega)).trans hK
  obtain ⟨y0,y1⟩:=box_ret (HKX.out.set (.int .i64 0)) hD6 (.deferred none)
  have y2:=y1 w (HBw.out.setCell (p:=⟨w.heap.size,0,none⟩) (Nat.le_refl _) _) (by omega)
  refine ⟨by simp,.inl ⟨_,_,rfl,run_takeDeferred hD6,?_⟩⟩
  generalize World.putObj _ D (.deferred none)=Wz at y0 y2 ⊢
  refine ⟨.int .i64 0,?_,?_⟩
  · simp [results,Tryz.results91,go_sem,y0]
  ·
   rw [HE.out]
   exact ⟨rfl,y2⟩
 case stop =>
  rintro D c pre W hD ⟨rest,hrest⟩ ⟨rfl,p,x,rfl,hE,⟨hpos,hbx⟩,hBl⟩ hK
  have HE:Hid (seqD l=((l[x.1]'x.2).bs[(l[x.1]'x.2).bs.length - 1]'(by omega)).seq):=by
   show _=_
   rw [pv_snoc] at hrest
   have hp:=downTo_split hrest
   rw [lastB_of_empty (x.1+1) x.2 (fun j hj hxj => ?_),seqD_take_succ x.2,lastB_last _ _ hpos]
   have:j ∈ pv p:=by rw [hp];exact mem_downTo.2 ⟨hxj,hj⟩
   unfold pv at this
   obtain ⟨y,hy,rfl⟩:=List.mem_map.1 this
   exact hE y hy
  generalize ((l[x.1]'x.2).bs[(l[x.1]'x.2).bs.length - 1]'(by omega)).seq=Q at HE hbx
  have hc0:=hbx.cell
  have HBX:=hide hbx
  clear hE hbx
  gi_wp2
  obtain ⟨y0,y1⟩:=box_ret HBX.out hK (.deferred none)
  have y2:=y1 w hBl (by omega)
  refine ⟨by simp,.inl ⟨_,_,rfl,run_takeDeferred hK,?_⟩⟩
  generalize World.putObj _ D (.deferred none)=Wz at y0 y2 ⊢
  refine ⟨.int .i64 Q,?_,?_⟩
  · simp [results,Tryz.results91,go_sem,y0]
  ·
   rw [HE.out]
   exact ⟨rfl,y2⟩
end Go.Proofs.YtbenmgokhklnjaaGreatDoor
namespace Go.Proofs.YtbenmgokhklnjaaGreatDoor
open Go.RowKit Go.Maps
def srtS (fs:List SpotD):Prop:=fs.Pairwise (fun a b => Op.bytesLess a.key.toList b.key.toList=true)
theorem set_mem {gs:List SpotD} {F G:SpotD} {gone:Bool}:G ∈ setD gs F gone ↔ (gone=false∧G=F) ∨ (G ∈ gs∧G.key ≠ F.key):=by
 unfold setD
 rw [List.mem_append,List.mem_append,List.mem_filter,List.mem_filter]
 constructor
 ·
  rintro ((⟨h1,h2⟩ | h) | ⟨h1,h2⟩)
  ·
   refine .inr ⟨h1,fun e => ?_⟩
   rw [spLt,e,less_irrefl] at h2
   cases h2
  ·
   cases gone with
   | true => simp at h
   | false => exact .inl ⟨rfl,by simpa using h⟩
  ·
   refine .inr ⟨h1,fun e => ?_⟩
   rw [spGt,e] at h2
   simp at h2
 ·
  rintro (⟨rfl,rfl⟩ | ⟨h1,h2⟩)
  · exact .inl (.inr (by simp))
  ·
   cases hl:Op.bytesLess G.key.toList F.key.toList
   ·
    refine .inr ⟨h1,?_⟩
    rw [spGt,hl,toList_ne.2 h2]
    rfl
   · exact .inl (.inl ⟨h1,hl⟩)
theorem spGt_less {k:ByteArray} {A:SpotD} (h:spGt k A=true):Op.bytesLess k.toList A.key.toList=true:=by
 unfold spGt at h
 simp only [Bool.and_eq_true,Bool.not_eq_true',beq_eq_false_iff_ne] at h
 exact less_total h.1 h.2
theorem srtS_set {gs:List SpotD} (F:SpotD) (gone:Bool) (h:srtS gs):srtS (setD gs F gone):=by
 unfold setD srtS
 rw [List.pairwise_append,List.pairwise_append]
 refine ⟨⟨h.filter _,by cases gone <;> simp,fun a ha b hb => ?_⟩,h.filter _,fun a ha b hb => ?_⟩
 ·
  cases gone with
  | true => simp at hb
  | false =>
   obtain rfl:b=F:=by simpa using hb
   exact (List.mem_filter.1 ha).2
 ·
  have hb2:=spGt_less (List.mem_filter.1 hb).2
  rcases List.mem_append.1 ha with ha | ha
  · exact less_trans (List.mem_filter.1 ha).2 hb2
  ·
   cases gone with
   | true => simp at ha
   | false =>
    obtain rfl:a=F:=by simpa using ha
    exact hb2
def spotDat (A:SpotD):DataW Unit:=.agg [.lit (.string A.key.data.toList),.lit (.int .i64 A.seg),.lit (.int .i64 A.pos),.lit (.int .i64 A.seq)]
def spotElem:Value→Option (DataW Unit × List MemPlace)
 | .agg cs => match cs.toList with
  | [.string k,.int .i64 a,.int .i64 b,.int .i64 c] => some (.agg [.lit (.string k.data.toList),.lit (.int .i64 a),.lit (.int .i64 b),.lit (.int .i64 c)],[])
  | _ => none
 | _ => none
theorem spotElem_mk (A:SpotD):spotElem (.agg #[.string A.key,.int .i64 A.seg,.int .i64 A.pos,.int .i64 A.seq])=some (spotDat A,[]):=rfl
theorem spotElem_inv {v:Value} {A:SpotD} {ps:List MemPlace} (h:spotElem v=some (spotDat A,ps)):v=.agg #[.string A.key,.int .i64 A.seg,.int .i64 A.pos,.int .i64 A.seq]:=by
 unfold spotElem at h
 split at h
 ·
  rename_i cs
  split at h
  ·
   rename_i k a b c e
   have hcs:cs = #[.string k,.int .i64 a,.int .i64 b,.int .i64 c]:=by
    apply Array.ext'
    exact e
   simp only [spotDat,Option.some.injEq,Prod.mk.injEq,DataW.agg.injEq,List.cons.injEq,DataW.lit.injEq,Lit.string.injEq,Lit.int.injEq,true_and,and_true] at h
   obtain ⟨⟨h1,h2,h3,h4⟩,_⟩:=h
   have hk:k=A.key:=by
    cases k with | mk d1 => cases hk2:A.key with | mk d2 =>
     rw [hk2] at h1
     simp at h1
     rw [h1]
   rw [hcs,hk,h2,h3,h4]
  · cases h
 · cases h
def DirM (w:World) (mb n:Nat) (gs:List SpotD):Prop :=
 ∃ D:DataW Unit,w.ownsMap Tryz.prog 9 spotElem mb n D∧(∀ s,has D (kl s)=true ↔ ∃ F ∈ gs,F.key=s)∧(∀ F ∈ gs,∀ z,D.atKey (kl F.key) z=spotDat F)∧srtS gs
theorem dirM_new (w:World):DirM (w.alloc (.map #[] 0)) w.heap.size 0 [] :=
 ⟨.map [],World.ownsMap_made w Tryz.prog 9 spotElem,fun s => by simp [has],fun F hF => absurd hF List.not_mem_nil,List.Pairwise.nil⟩
theorem dirM_keep {w w':World} {mb n:Nat} {gs:List SpotD} {r:Option Nat} (h:DirM w mb n gs) (hg:w.grownBy w' r) (hr:r ≠ some mb):DirM w' mb n gs:=by
 obtain ⟨D,h1,h2⟩:=h
 exact ⟨D,h1.kept hg (fun e => hr e.symm),h2⟩
theorem dirM_below {w w':World} {mb n:Nat} {gs:List SpotD} (h:DirM w mb n gs) (hb:Below w.heap.size w w'):DirM w' mb n gs:=dirM_keep h (grownBy_below none hb) (by simp)
theorem dirM_lt {w:World} {mb n:Nat} {gs:List SpotD} (h:DirM w mb n gs):mb < w.heap.size:=by
 obtain ⟨D,h1,-⟩:=h
 exact h1.lt
theorem dirM_mono {w:World} {mb n n':Nat} {gs:List SpotD} (h:DirM w mb n gs) (hn:n≤n'):DirM w mb n' gs:=by
 obtain ⟨D,h1,h2⟩:=h
 exact ⟨D,h1.mono hn,h2⟩
theorem dirM_put {w':World} {mb n:Nat} {gs:List SpotD} {D:DataW Unit} {F:SpotD} (hm:IsMap D) (h3:∀ s,has D (kl s)=true ↔ ∃ F ∈ gs,F.key=s) (h4:∀ F ∈ gs,∀ z,D.atKey (kl F.key) z=spotDat F) (h5:srtS gs)
  (hw:w'.ownsMap Tryz.prog 9 spotElem mb n (D.put (kl F.key) (spotDat F))):DirM w' mb n (setD gs F false):=by
 refine ⟨_,hw,fun s => ?_,fun G hG z => ?_,srtS_set _ _ h5⟩
 ·
  by_cases e:s=F.key
  ·
   subst e
   rw [has_put_same hm (kl_key _)]
   simp only [true_iff]
   exact ⟨F,set_mem.2 (.inl ⟨rfl,rfl⟩),rfl⟩
  ·
   rw [has_put_other (kl_ne e),h3 s]
   constructor
   ·
    rintro ⟨G,hG,rfl⟩
    exact ⟨G,set_mem.2 (.inr ⟨hG,e⟩),rfl⟩
   ·
    rintro ⟨G,hG,rfl⟩
    rcases set_mem.1 hG with ⟨-,rfl⟩ | ⟨hG,_⟩
    · exact absurd rfl e
    · exact ⟨G,hG,rfl⟩
 ·
  rcases set_mem.1 hG with ⟨-,rfl⟩ | ⟨hG,e⟩
  · rw [atKey_put_same hm (kl_key _)]
  ·
   rw [atKey_put_other (kl_ne e)]
   exact h4 G hG z
theorem dirM_del {w':World} {mb n:Nat} {gs:List SpotD} {D:DataW Unit} (F:SpotD) (h3:∀ s,has D (kl s)=true ↔ ∃ F ∈ gs,F.key=s) (h4:∀ F ∈ gs,∀ z,D.atKey (kl F.key) z=spotDat F) (h5:srtS gs)
  (hw:w'.ownsMap Tryz.prog 9 spotElem mb n (D.del (kl F.key))):DirM w' mb n (setD gs F true):=by
 refine ⟨_,hw,fun s => ?_,fun G hG z => ?_,srtS_set _ _ h5⟩
 ·
  by_cases e:s=F.key
  ·
   subst e
   rw [has_del_same]
   simp only [Bool.false_eq_true,false_iff]
   rintro ⟨G,hG,e⟩
   rcases set_mem.1 hG with ⟨h,-⟩ | ⟨-,h⟩
   · cases h
   · exact h e
  ·
   rw [has_del_other (kl_ne e),h3 s]
   constructor
   ·
    rintro ⟨G,hG,rfl⟩
    exact ⟨G,set_mem.2 (.inr ⟨hG,e⟩),rfl⟩
   ·
    rintro ⟨G,hG,rfl⟩
    rcases set_mem.1 hG with ⟨h,-⟩ | ⟨hG,_⟩
    · cases h
    · exact ⟨G,hG,rfl⟩
 ·
  rcases set_mem.1 hG with ⟨h,-⟩ | ⟨hG,e⟩
  · cases h
  ·
   rw [atKey_del_other (kl_ne e)]
   exact h4 G hG z
theorem Tryz.keyT (s:ByteArray) (h:s.size≤maxLen):keyOf Tryz.prog 9 (.string s)=some (kl s):=WideMaps.keyOf_string_mk Tryz.underlying9 h
theorem cells_grown {W w':World} {mb b o:Nat} {v:Value} (hg:W.grownBy w' (some mb)) (h:W.cell? ⟨b,o,none⟩=some v) (hb:b ≠ mb):w'.cell? ⟨b,o,none⟩=some v:=by
 have hb2:=hg.block b (World.block_lt_of_cell? _ _ h) (by simpa using hb)
 have hc:w'.cell? ⟨b,o,none⟩=W.cell? ⟨b,o,none⟩:=by unfold World.cell?;rw [hb2]
 exact hc.trans h
theorem changesAt_grown {w w':World} {ao:Option Addr} {fs:List ChangeD} {mb:Nat} (h:ChangesAt w ao fs) (hg:w.grownBy w' (some mb)) (hne:∀ b off,ao=some ⟨b,off,none⟩→b ≠ mb):ChangesAt w' ao fs:=by
 intro j hj
 obtain ⟨b,off,h1,h2,h3,h4,h5⟩:=h j hj
 have hb:=hg.block b h2 (by have:=hne b off h1;simpa using this)
 have hc:∀ o,w'.cell? ⟨b,o,none⟩=w.cell? ⟨b,o,none⟩:=fun o => by unfold World.cell?;rw [hb]
 exact ⟨b,off,h1,Nat.lt_of_lt_of_le h2 hg.size,(hc _).trans h3,(hc _).trans h4,(hc _).trans h5⟩
theorem tell_any (gs:List SpotD) (mb n:Nat) (q seg pos:Int) (cs:List ChangeD) (ao:Option Addr) (cap:Nat) (w:World) (hm:DirM w mb n gs) (hn:n+cs.length≤1000000) (hl:cs.length≤1048576) (hcs:ChangesAt w ao cs) (hmc:0 < cs.length→∀ b off,ao=some ⟨b,off,none⟩→b ≠ mb) (hsz:∀ A ∈ cs,A.key.size≤1048576) :
  Calls Tryz.prog 123 #[.map (some mb),.agg #[.int .i64 q,.slice ao cs.length cap],.int .i64 seg,.int .i64 pos] w fun e w' => e=.returned (.tuple #[])∧DirM w' mb (n+cs.length) (chsIn seg pos q gs cs)∧w.grownBy w' (some mb):=by
 obtain ⟨wb,hwb⟩:∃ wb,wb=w.alloc (.cells #[.int .i64 q,.slice ao cs.length cap] 109):=⟨_,rfl⟩
 have HB0:Hid (Below w.heap.size w wb):=by rw [hwb];exact (Below.refl _ w).alloc (Nat.le_refl _) _
 have HBX:Hid (wb.heap[w.heap.size]? = some (.cells #[.int .i64 q,.slice ao cs.length cap] 109 (0,0))):=by rw [hwb];exact heap_alloc_new w _
 have HM0:=hide (dirM_below hm HB0.out)
 have HC0:=hide (changesAt_keep hcs HB0.out)
 have hmlt:=dirM_lt hm
 have HS:=hide hsz
 have HMC:=hide hmc
 clear hm hcs hsz hmc
 go_enter Tryz.func123,Tryz.ntmps123
 go_wp2_with fail
 rw [← hwb]
 clear hwb
 go_loopw [13] (fun ii wr => ∃ (k:Nat),ii=.int .i64 k∧k≤cs.length∧Hid (DirM wr mb (n+k) (chsIn seg pos q gs (cs.take k)))∧Hid (wb.grownBy wr (some mb))) (fun ii _ => cs.length - (intOf ii).toNat)
 case atStart => exact ⟨0,rfl,Nat.zero_le _,HM0,World.grownBy.refl _ _⟩
 case round =>
  obtain ⟨k,rfl,hk,HM,HG⟩:=hrel
  have hws:=HG.out.size
  by_cases hlt:k < cs.length
  ·
   have hlt':decide ((k:Int) < (cs.length:Int))=true:=by simp;omega
   have hi0:(0:Int)≤(k:Int):=by omega
   have hi1:(k:Int) < (cs.length:Int):=by omega
   obtain ⟨b,off,hab,hbw,hd0,hd1,hd2⟩:=changesAt_grown HC0.out HG.out (HMC.out (by omega)) k hlt
   subst hab
   have htk:=hide (List.take_succ_eq_append_getElem hlt)
   have hks:=HS.out cs[k] (List.getElem_mem hlt)
   generalize cs[k]=A at hd0 hd1 hd2 htk hks
   have HK:=hide (Tryz.keyT A.key (by unfold maxLen;omega))
   obtain ⟨wr1,hwr1⟩:∃ x,x=wr.alloc (.cells #[.string A.key,.string A.value,.bool A.gone] 55):=⟨_,rfl⟩
   have B1r:Hid (Below wr.heap.size wr wr1):=by rw [hwr1];exact (Below.refl _ wr).alloc (Nat.le_refl _) _
   have hch1:wr1.heap[wr.heap.size]? = some (.cells #[.string A.key,.string A.value,.bool A.gone] 55 (0,0)):=by rw [hwr1];exact heap_alloc_new wr _
   have hbx1:=(B1r.out.block w.heap.size (by have:=heap_lt HBX.out;omega)).trans ((HG.out.block _ (heap_lt HBX.out) (by simp;omega)).trans HBX.out)
   have hf0:wr1.cell? ⟨wr.heap.size,0,none⟩=some (.string A.key):=(cell_of_row wr1 _ 0 _ _ (0,0) hch1).trans rfl
   have hf2:wr1.cell? ⟨wr.heap.size,2,none⟩=some (.bool A.gone):=(cell_of_row wr1 _ 2 _ _ (0,0) hch1).trans rfl
   have hf3:wr1.cell? ⟨w.heap.size,0,none⟩=some (.int .i64 q):=(cell_of_row wr1 _ 0 _ _ (0,0) hbx1).trans rfl
   have HM1:=hide (dirM_below HM.out B1r.out)
   have G1:Hid (wb.grownBy wr1 (some mb)):=grownBy_trans HG.out (grownBy_below _ B1r.out)
   clear hch1 hbx1
   obtain ⟨D,hD1,hD2,hD3,hD4⟩:=HM1.out
   have H1:=hide hD1
   have H2:=hide hD2
   have H3:=hide hD3
   have H4:=hide hD4
   clear hD1 hD2 hD3 hD4
   cases hgo:A.gone with
   | true =>
    rw [hgo] at hf2 hwr1 hd2
    subst hwr1
    go_wp2_with (at_delete;refine wpList_delete_own _ rfl _ _ 201 9 rfl 75 (string_keyed Tryz.underlying9) Tryz.underlying201 spotElem mb (n+k) D rfl H1.out _ _ rfl HK.out ?_;intro w5 hown5 hturn5;have HN5:=hide (dirM_del ⟨A.key,seg,pos,q⟩ H2.out H3.out H4.out hown5);have HG5:=hide hturn5.grown;clear hown5 hturn5)
    go_roundw
    case rel => exact ⟨k+1,by go_num,by omega,by show DirM _ _ _ _;rw [htk.out,chsIn_snoc,hgo];exact dirM_mono HN5.out (by omega),grownBy_trans G1.out HG5.out⟩
    case measure => simp [intOf];omega
   | false =>
    rw [hgo] at hf2 hwr1 hd2
    subst hwr1
    go_wp2_with (at_mapUpdate;refine wpList_mapUpdate_own _ rfl _ _ _ 201 rfl 9 75 (string_keyed Tryz.underlying9) Tryz.underlying201 spotElem mb (n+k) D rfl H1.out (by unfold maxLen;omega) _ _ _ rfl rfl HK.out (spotDat ⟨A.key,seg,pos,q⟩) [] rfl ?_;intro w5 hown5 hgrow5;have HN5:=hide (dirM_put (F:=⟨A.key,seg,pos,q⟩) H1.out.isMap H2.out H3.out H4.out hown5);have HG5:=hide hgrow5;clear hown5 hgrow5)
    go_roundw
    case rel => exact ⟨k+1,by go_num,by omega,by show DirM _ _ _ _;rw [htk.out,chsIn_snoc,hgo];exact HN5.out,grownBy_trans G1.out HG5.out⟩
    case measure => simp [intOf];omega
  ·
   have hlt':decide ((k:Int) < (cs.length:Int))=false:=by simp;omega
   have hke:k=cs.length:=by omega
   subst hke
   rw [List.take_length] at HM
   go_wp2
   refine bodyPost_end (results_none rfl _ _ _) rfl ?_
   exact ⟨rfl,HM.out,grownBy_trans (grownBy_below _ HB0.out) HG.out⟩
end Go.Proofs.YtbenmgokhklnjaaGreatDoor
