import Derived.Test.YtepdckehokdjlaaGreatDoorMg14
import Derived.Test.YtepdckehokdjlaaGreatDoorMg17
import Derived.Test.YtepdckehokdjlaaGreatDoorMg9
import Derived.Test.YtepdckehokdjlaaGreatDoorMg6
set_option maxRecDepth 100000
set_option maxHeartbeats 16000000
namespace Go.Proofs.YtepdckehokdjlaaGreatDoor
open Go.RowKit Go.Shelf
attribute [local go_sem] Oper.semAt_some
theorem cut_from (s:ByteArray) (a:Nat) (ai:Int) (R:ByteArray) (ha:ai=a) (h2:a≤s.size) (hR:s.extract a s.size=R) :
  ∀ W:World,(Instr.slice 9 (.string s) (some (.int .i64 ai)) none none).run Tryz.prog W=.ok (.string R) W:=by
 intro W
 subst ha hR
 rw [run_slice_string_from_if W 9 s .i64 (a:Int) Tryz.underlying9,if_pos (by omega),Int.toNat_natCast]
theorem readHead_none {n:Int} {s:ByteArray} (h:hdOf n s=none) (w:World) (hs:s.size≤1048576) (hT:SumTab w):Calls Tryz.prog 187 #[.int .i64 n,.string s] w fun e w' => e=.returned (.tuple #[.int .i64 0,.int .i64 0,.bool false])∧Below w.heap.size w w':=by
 have:=readHead_any n s w hs hT
 rw [h] at this
 exact this
theorem readHead_some {n:Int} {s:ByteArray} {f p:Nat} (h:hdOf n s=some (f,p)) (w:World) (hs:s.size≤1048576) (hT:SumTab w):Calls Tryz.prog 187 #[.int .i64 n,.string s] w fun e w' => e=.returned (.tuple #[.int .i64 (f:Int),.int .i64 (p:Int),.bool true])∧Below w.heap.size w w':=by
 have:=readHead_any n s w hs hT
 rw [h] at this
 exact this
theorem hdOf_none {n:Int} {s:ByteArray} (h:hdOf n s=none):segRead n s=none:=by
 cases hu:unf s with
 | nil => exact segRead_nil hu
 | cons x r =>
  unfold hdOf at h
  rw [hu] at h
  refine segRead_head hu ?_
  simpa using h
theorem hdOf_some {n:Int} {s:ByteArray} {f p:Nat} (h:hdOf n s=some (f,p)):∃ x r,unf s=x :: r∧hdFrom n (s.extract x.1 x.2)=some f∧p=x.2:=by
 cases hu:unf s with
 | nil => unfold hdOf at h;rw [hu] at h;simp at h
 | cons x r =>
  unfold hdOf at h
  rw [hu] at h
  simp only [Option.map_eq_some_iff,Prod.mk.injEq] at h
  obtain ⟨f',h1,rfl,rfl⟩:=h
  exact ⟨x,r,rfl,h1,rfl⟩
theorem six_cells {W:World} {g:Nat} {a b c d e f f':Value} {t:TypeId} (h:W.heap[g]? = some (.cells #[a,b,c,d,e,f,f'] t (0,0))):W.cell? ⟨g,0,none⟩=some a∧W.cell? ⟨g,1,none⟩=some b∧W.cell? ⟨g,2,none⟩=some c∧W.cell? ⟨g,3,none⟩=some d∧W.cell? ⟨g,4,none⟩=some e∧W.cell? ⟨g,5,none⟩=some f∧W.cell? ⟨g,6,none⟩=some f'∧∀ j,W.frozen? ⟨g,j,none⟩=false :=
 ⟨(cell_of_row W g 0 _ _ (0,0) h).trans rfl,(cell_of_row W g 1 _ _ (0,0) h).trans rfl,(cell_of_row W g 2 _ _ (0,0) h).trans rfl,(cell_of_row W g 3 _ _ (0,0) h).trans rfl,(cell_of_row W g 4 _ _ (0,0) h).trans rfl,(cell_of_row W g 5 _ _ (0,0) h).trans rfl,(cell_of_row W g 6 _ _ (0,0) h).trans rfl,fun j => frozen_of_row W g j _ _ h⟩
def SegAns (n:Int) (s:ByteArray) (w:World) (e:Ending) (w':World):Prop :=
 (∃ v p,e=.returned (.agg #[.int .i64 n,.int .i64 (segFrom n s:Int),v,p,.int .i64 (segEnd n s:Int),.bool (segOk n s),.bool (segTorn n s)])∧RowBatch w' w.heap.size v (segBatches n s)∧RowNat w' w.heap.size p (segPls n s))∧Below w.heap.size w w'
def RiseAt (s:ByteArray) (b:Nat) (n f:Int) (h:Nat) (w:World) (pre:List (Nat × Nat)) (W:World):Prop :=
 ((∃ v p,RSt W b n f h (h+endOf pre) v p (batchesOf s pre) ((plsOf 0 pre).map (h+·)) (lastOf (batchesOf s pre)))∧RisP s pre)∧(Below w.heap.size w W∧b+4≤W.heap.size)
theorem riseAt_own (s:ByteArray) (b:Nat) (n f:Int) (h:Nat) (w:World) (B:Nat) (hB:w.heap.size≤B):OwnFrom B (fun l W => RiseAt s b n f h w (vl l) W):=by
 rintro pre W W' row ⟨⟨⟨v,p,H⟩,hP⟩,hBl,hsz⟩ hg hr
 exact ⟨⟨⟨v,p,H.own hg (fun r e => (hr r e).2)⟩,hP⟩,hBl.grown hg hBl.size (fun k hk => Nat.le_trans hB (hr k hk).1),Nat.le_trans hsz hg.size⟩
def RiseX (s:ByteArray) (b:Nat) (n f:Int) (h:Nat) (w:World) (c:Go.Code) (pre:List FrX) (W:World):Prop :=
 ∃ k,c=.exit k∧∃ (p:List FrX) (x:FrX),pre=p ++ [x]∧¬ (rdOk (s.extract x.1.1 x.1.2)=true∧lastOf (batchesOf s (vl p)) < rdSeq (s.extract x.1.1 x.1.2))∧RiseAt s b n f h w (vl p) W∧k=0
theorem blk_set {W:World} {k g j:Nat} {u:Value} {o:Obj} (h:W.heap[k]? = some o) (hk:k ≠ g):(W.setCell ⟨g,j,none⟩ u).heap[k]? = some o:=(Below.heap_setCell _ _ _ _ hk).trans h
theorem segof_post {s:ByteArray} {b:Nat} {n f:Int} {h:Nat} {w W W7:World} {pre:List (Nat × Nat)} (k1:KeepsOthers W W7) (k2:KpF b (b+1+1+1) W W7) (k3:RiseAt s b n f h w pre W7):KeepsOthers W W7.drew∧KpF b (b+1+1+1) W W7.drew∧RiseAt s b n f h w pre W7.drew:=by
 obtain ⟨⟨⟨v,p,H⟩,hP⟩,hB,hz⟩:=k3
 exact ⟨⟨k1.size,k1.same⟩,⟨k2.1.drew,k2.2⟩,⟨⟨v,p,H.below ((Below.refl _ _).drew)⟩,hP⟩,hB.drew,hz⟩
theorem riseX_own (s:ByteArray) (b:Nat) (n f:Int) (h:Nat) (w:World) (B:Nat) (hB:w.heap.size≤B) (c:Go.Code):OwnFrom B (RiseX s b n f h w c):=by
 rintro pre W W' row ⟨k,hk,p,x,h1,h2,h3,h4⟩ hg hr
 exact ⟨k,hk,p,x,h1,h2,riseAt_own s b n f h w B hB p W W' row h3 hg hr,h4⟩
theorem segmentOf_any (n:Int) (s:ByteArray) (w:World) (hs:s.size≤1048576) (hT:SumTab w):Calls Tryz.prog 166 #[.int .i64 n,.string s] w (SegAns n s w):=by
 have HT:=hide hT
 have hgl:=sumTab_lt hT
 clear hT
 obtain ⟨wb,hwb⟩:∃ wb,wb=w.alloc (.cells #[.int .i64 0,.int .i64 0,.slice none 0 0,.slice none 0 0,.int .i64 0,.bool false,.bool false] 158):=⟨_,rfl⟩
 have HB0:Hid (Below w.heap.size w wb):=by rw [hwb];exact (Below.refl _ w).alloc (Nat.le_refl _) _
 have hbs:wb.heap.size=w.heap.size+1:=by rw [hwb];simp
 have HRB:Hid (wb.heap[w.heap.size]? = some (.cells #[.int .i64 0,.int .i64 0,.slice none 0 0,.slice none 0 0,.int .i64 0,.bool false,.bool false] 158 (0,0))):=by rw [hwb];exact heap_alloc_new w _
 have HTb:Hid (SumTab wb):=sumTab_later HB0.out HT.out
 cases hd:hdOf n s with
 | none =>
  have HE:=hide (hdOf_none hd)
  have HH:=hide (fun W hW => readHead_none hd W hs hW)
  clear hd
  refine (callsIn_wide (n:=3)).1 ?_
  refine callsIn_of_wp_marks Tryz.func166 rfl trivial ?_ rfl
  simp only [Tryz.ntmps166,List.size_toArray,List.length_cons,List.length_nil,Nat.reduceAdd,Nat.reduceSub,Array.replicate_succ,Array.replicate_zero,List.push_toArray,List.append_toArray,List.nil_append,List.cons_append]
  gi_wp2_with (first | (refine ⟨trivial,?_⟩;rw [← hwb];clear hwb;gi_at_call 187;refine (callsIn_wide.2 (HH.out _ HTb.out)).mono ?_;rintro e w1 ⟨rfl,b1⟩;obtain ⟨hc0,hc1,hc2,hc3,hc4,hc5,hc6,hfz⟩:=six_cells (W:=w1.alloc (.cells #[.int .i64 0] 3)) ((Below.heap_alloc _ _ _ (heap_lt ((b1.block _ (heap_lt HRB.out)).trans HRB.out))).trans ((b1.block _ (heap_lt HRB.out)).trans HRB.out));have h0:=hfz 0;have h1:=hfz 1;have h2:=hfz 2;have h3:=hfz 3;have h4:=hfz 4;have h5:=hfz 5;have h6:=hfz 6;have B1:=hide b1;clear b1 hfz))
  refine ⟨.agg #[.int .i64 n,.int .i64 0,.slice none 0 0,.slice none 0 0,.int .i64 0,.bool false,.bool false],?_,?_⟩
  · simp [results,Tryz.results166,go_sem,hc0,hc1,hc2,hc3,hc4,hc5,hc6]
  ·
   obtain ⟨e1,e2,e3,e4⟩:=seg_none HE.out
   have e5:segTorn n s=false:=by unfold segTorn;rw [e4];rfl
   refine ⟨⟨.slice none 0 0,.slice none 0 0,by rw [e1,e3,e4,e5];rfl,by rw [e2];exact .inl ⟨rfl,rfl⟩,by rw [segPls_none HE.out];exact rowNat_nil _ _⟩,?_⟩
   have c0:Below w.heap.size w (w1.alloc (.cells #[.int .i64 0] 3)):=(HB0.out.trans (B1.out.mono (by omega))).alloc (by have:=B1.out.size;omega) _
   exact ((((((c0.setCell (p:=⟨w.heap.size,0,none⟩) (Nat.le_refl _) _).setCell (p:=⟨w.heap.size,1,none⟩) (Nat.le_refl _) _).setCell (p:=⟨w.heap.size,2,none⟩) (Nat.le_refl _) _).setCell (p:=⟨w.heap.size,3,none⟩) (Nat.le_refl _) _).setCell (p:=⟨w.heap.size,4,none⟩) (Nat.le_refl _) _).setCell (p:=⟨w.heap.size,5,none⟩) (Nat.le_refl _) _).setCell (p:=⟨w.heap.size,6,none⟩) (Nat.le_refl _) _
 | some y =>
  obtain ⟨f,p⟩:=y
  have HH:=hide (fun W hW => readHead_some hd W hs hW)
  obtain ⟨x0,r0,hu,hf,hp⟩:=hdOf_some hd
  obtain ⟨hfr,ht1,ht2⟩:=seg_tail hu (-1)
  have hb:=frB_bounds s 0 x0 hfr
  have hs2:s.size≤20000:=by
   apply Decidable.byContradiction
   intro hn
   unfold unf at hu
   rw [if_neg hn] at hu
   simp at hu
  obtain ⟨T,hTT⟩:∃ T,s.extract x0.2 s.size=T:=⟨_,rfl⟩
  have hTz:T.size≤20000:=by rw [← hTT,ByteArray.size_extract];omega
  have HPL:Hid (∀ l,(ris T (frs T (T.size+1) 0) (-1) 0).1=batchesOf T l→(∃ rest,frs T (T.size+1) 0=l ++ rest)→(∀ y ∈ l,rdOk (T.extract y.1 y.2)=true)→segPls n s=(plsOf 0 l).map (p+·)):=fun l h1 h2 h3 => by rw [hp];exact segPls_tail hu hf hTT h1 h2 h3
  rw [hTT] at ht1 ht2
  have HSG:Hid (segFrom n s=f∧segBatches n s=(ris T (frs T (T.size+1) 0) (-1) 0).1∧segEnd n s=p+(ris T (frs T (T.size+1) 0) (-1) 0).2∧segOk n s=true):=by
   have h:=seg_some (segRead_some hu hf)
   rw [← ht1,← ht2,← hp] at h
   exact h
  have hcut:=cut_from s p (p:Int) T rfl (by omega) (by rw [hp];exact hTT)
  have hps:p≤20000:=by omega
  clear hd hu hf hfr ht1 ht2 hTT hb hp
  refine (callsIn_wide (n:=3)).1 ?_
  refine callsIn_of_wp_marks Tryz.func166 rfl trivial ?_ rfl
  simp only [Tryz.ntmps166,List.size_toArray,List.length_cons,List.length_nil,Nat.reduceAdd,Nat.reduceSub,Array.replicate_succ,Array.replicate_zero,List.push_toArray,List.append_toArray,List.nil_append,List.cons_append]
  gi_wp2_with (first | (refine ⟨trivial,?_⟩;rw [← hwb];clear hwb;gi_at_call 187;refine (callsIn_wide.2 (HH.out _ HTb.out)).mono ?_;rintro e w1 ⟨rfl,b1⟩;have B1:=hide b1;clear b1) | (refine ⟨trivial,?_⟩;gi_at_call 188;refine (callsIn_wide.2 (framesOf_any T _)).mono ?_;rintro e w' ⟨rfl,rfl⟩))
  obtain ⟨W0,hW0⟩:∃ W0,((((w1.alloc (.cells #[.int .i64 (p:Int)] 3)).alloc (.cells #[.int .i64 n,.int .i64 (f:Int),.slice none 0 0,.slice none 0 0,.int .i64 (p:Int),.bool true,.bool false] 158)).alloc (.cells #[.int .i64 (-1)] 3)).alloc (.cells #[.string T] 9))=W0:=⟨_,rfl⟩
  have hB0:Below w1.heap.size w1 W0:=by rw [← hW0];exact ((((Below.refl _ w1).alloc (Nat.le_refl _) _).alloc (by simp) _).alloc (by simp;omega) _).alloc (by simp;omega) _
  have hz0:W0.heap.size=w1.heap.size+4:=by rw [← hW0];simp
  have k1:Boxed W0 w1.heap.size 3 (.int .i64 (p:Int)):=by rw [← hW0];exact (((Boxed.new w1 3 (.int .i64 (p:Int))).alloc _).alloc _).alloc _
  have k2:SegC W0 (w1.heap.size+1) n f (.slice none 0 0) (.slice none 0 0) p:=by
   have h:SegC ((w1.alloc (.cells #[.int .i64 (p:Int)] 3)).alloc (.cells #[.int .i64 n,.int .i64 (f:Int),.slice none 0 0,.slice none 0 0,.int .i64 (p:Int),.bool true,.bool false] 158)) (w1.heap.size+1) n f (.slice none 0 0) (.slice none 0 0) p:=by
    have:=heap_alloc_new (w1.alloc (.cells #[.int .i64 (p:Int)] 3)) (.cells #[.int .i64 n,.int .i64 (f:Int),.slice none 0 0,.slice none 0 0,.int .i64 (p:Int),.bool true,.bool false] 158)
    rw [World.size_alloc] at this
    exact this
   rw [← hW0]
   exact (h.alloc _).alloc _
  have k3:Boxed W0 (w1.heap.size+1+1) 3 (.int .i64 (-1)):=by
   have h:=Boxed.new ((w1.alloc (.cells #[.int .i64 (p:Int)] 3)).alloc (.cells #[.int .i64 n,.int .i64 (f:Int),.slice none 0 0,.slice none 0 0,.int .i64 (p:Int),.bool true,.bool false] 158)) 3 (.int .i64 (-1))
   rw [World.size_alloc,World.size_alloc] at h
   rw [← hW0]
   exact h.alloc _
  have k4:Boxed W0 (w1.heap.size+1+1+1) 9 (.string T):=by
   have h:=Boxed.new (((w1.alloc (.cells #[.int .i64 (p:Int)] 3)).alloc (.cells #[.int .i64 n,.int .i64 (f:Int),.slice none 0 0,.slice none 0 0,.int .i64 (p:Int),.bool true,.bool false] 158)).alloc (.cells #[.int .i64 (-1)] 3)) 9 (.string T)
   rw [World.size_alloc,World.size_alloc,World.size_alloc] at h
   rw [← hW0]
   exact h
  rw [hW0]
  clear hW0
  have HT1:Hid (SumTab w1):=sumTab_later B1.out HTb.out
  have hgl1:0 < w1.heap.size:=by have:=B1.out.size;omega
  have HRW:Hid (∀ W,Below w1.heap.size w1 W→W.heap[w.heap.size]? = some (.cells #[.int .i64 0,.int .i64 0,.slice none 0 0,.slice none 0 0,.int .i64 0,.bool false,.bool false] 158 (0,0))):=fun W hW => (hW.block _ (by have:=B1.out.size;omega)).trans ((B1.out.block _ (heap_lt HRB.out)).trans HRB.out)
  have HBW:Hid (∀ W,Below w1.heap.size w1 W→Below w.heap.size w W):=fun W hW => (HB0.out.trans (B1.out.mono (by omega))).trans (hW.mono (by have:=B1.out.size;omega))
  have hw1:w.heap.size+1≤w1.heap.size:=by have:=B1.out.size;omega
  refine wpIn_rangeFunc_ownF rfl (by omega) (gf:=201) (lb:=#[.pointer (some ⟨w1.heap.size+1+1+1,0,none⟩)]) rfl trivial (enters_of Tryz.func201 (by kernel_rfl) rfl)
   (frames_stopsP T hTz 2 (w1.heap.size+1+1+1) w1.heap.size (by omega) W0 (by omega) hgl1 k4 (sumTab_below hB0 hgl1 HT1.out)) kpF_t (kpF_b (by omega)) (Below.refl _ _) (fun _ => rfl)
   (fun l W => RiseAt T w1.heap.size n f p w1 (vl l) W) (RiseX T w1.heap.size n f p w1) (riseAt_own T w1.heap.size n f p w1 _ (by omega)) (riseX_own T w1.heap.size n f p w1 _ (by omega))
   ⟨⟨⟨_,_,⟨k2,buildB_nil _ _,rowNat_nil _ _,k1,k3⟩⟩,risP_nil T⟩,hB0,by omega⟩
   (fun x => { tmps:=#[.int .i64 n,.string s,undef,undef,.pointer (some ⟨w.heap.size,0,none⟩),.int .i64 (f:Int),.pointer (some ⟨w1.heap.size,0,none⟩),.bool true,.pointer (some ⟨w1.heap.size+1,0,none⟩),.pointer (some ⟨w1.heap.size+1+1,0,none⟩),.string (T.extract x.1.1 x.1.2),.int .i64 (x.1.2:Int),undef,undef,.tuple #[.int .i64 (f:Int),.int .i64 (p:Int),.bool true],.int .i64 n,.string s,.tuple #[.int .i64 (f:Int),.int .i64 (p:Int),.bool true],.int .i64 (f:Int),.int .i64 (p:Int),.bool true,.bool true,.bool false,undef,undef,.int .i64 n,.int .i64 (f:Int),.int .i64 (p:Int),.agg #[.int .i64 n,.int .i64 (f:Int),.slice none 0 0,.slice none 0 0,.int .i64 (p:Int),.bool true,.bool false],.string s,.int .i64 (p:Int),.string T,.func (.func 201) #[] #[.pointer (some ⟨w1.heap.size+1+1+1,0,none⟩)],.string (T.extract x.1.1 x.1.2),.int .i64 (x.1.2:Int),undef,undef,undef,undef,undef,undef,undef,undef,undef,undef,undef,undef,undef,undef,undef,undef,undef,undef,undef,undef,undef,undef,undef,undef,undef,undef,undef,undef,undef,undef,undef,undef,undef,undef,undef,undef,undef,undef,undef],defers:=[] }) ?assign ?body ?done ?stop
  case assign =>
   intro l x W K hK
   gi_wp2
   exact hK
  case body =>
   rintro l pre x W ⟨⟨⟨v,pv,H0⟩,hP⟩,hB,hsz⟩ hlt
   have hmx:Tryz.prog.follows .mixedOrders=true:=by kernel_rfl
   have H:=hide H0
   have HP:=hide hP
   have hx2:=x.2
   obtain ⟨R,hR⟩:∃ R,T.extract x.1.1 x.1.2=R:=⟨_,rfl⟩
   have hRz:R.size≤20000:=by rw [← hR,ByteArray.size_extract];omega
   have HRD:=hide (fun W => implReadBatch_any R W (by omega))
   obtain ⟨q,HQ⟩:∃ q,Hid (rdSeq R=q):=⟨_,rfl⟩
   obtain ⟨fs,HFS⟩:∃ fs,Hid (rdChanges R=fs):=⟨_,rfl⟩
   obtain ⟨lq,HLQ⟩:∃ lq,Hid (lastOf (batchesOf T (vl pre))=lq):=⟨_,rfl⟩
   have HSN:Hid (batchesOf T (vl (pre ++ [x]))=batchesOf T (vl pre) ++ [⟨q,fs⟩]):=by show _=_;rw [vl_snoc,batchesOf_snoc,hR,HQ.out,HFS.out]
   have HPN:Hid (plsOf 0 (vl (pre ++ [x]))=plsOf 0 (vl pre) ++ [endOf (vl pre)]):=by show _=_;rw [vl_snoc,plsOf_snoc]
   have HEN:Hid (endOf (vl (pre ++ [x]))=x.1.2):=by show _=_;rw [vl_snoc,endOf_snoc]
   have HLN:Hid (lastOf (batchesOf T (vl (pre ++ [x])))=q):=by show _=_;rw [HSN.out,lastOf_snoc]
   obtain ⟨e0,HE0⟩:∃ e0,Hid (p+endOf (vl pre)=e0):=⟨_,rfl⟩
   have hbl:(batchesOf T (vl pre)).length≤1048576:=by rw [batchesOf_len,vl_len];omega
   have hpl0:((plsOf 0 (vl pre)).map (p+·)).length≤1048576:=by rw [List.length_map,plsOf_len,vl_len];omega
   have HPN2:Hid ((plsOf 0 (vl (pre ++ [x]))).map (p+·)=(plsOf 0 (vl pre)).map (p+·) ++ [e0]):=by show _=_;rw [HPN.out,List.map_append,← HE0.out];rfl
   obtain ⟨bs0,HBS⟩:∃ b,Hid (batchesOf T (vl pre)=b):=⟨_,rfl⟩
   obtain ⟨pl0,HPL0⟩:∃ b,Hid ((plsOf 0 (vl pre)).map (p+·)=b):=⟨_,rfl⟩
   rw [HBS.out] at hbl HSN
   rw [HPL0.out] at hpl0 HPN2
   rw [HE0.out,HPL0.out,HLQ.out,HBS.out] at H
   have hpl:=hbl
   have hpn:=hpl0
   rw [HQ.out,HFS.out] at HRD
   rw [hR]
   have HLT:Hid (∀ k,v.ownBlock=some k→k < W.heap.size):=by
    obtain ⟨vs,-,hown,-,-⟩:=H.out.bu
    exact fun k hk => (hown.lt k hk).2
   clear H0 hP hbl hpl0 k1 k2 k3 k4 hB0 hz0
   cases hok:rdOk R with
   | false =>
    have hno:Hid (¬ (rdOk (T.extract x.1.1 x.1.2)=true∧lastOf (batchesOf T (vl pre)) < rdSeq (T.extract x.1.1 x.1.2))):=by show ¬ _;rw [hR,hok];simp
    rw [hok] at HRD
    have HR:=hide hR
    clear hR hok
    gi_wp2_with (first | (refine ⟨trivial,?_⟩;gi_at_call 189;refine (CallsIn.inRound l (callsIn_wide.2 (HRD.out _))).mono ?_;rintro e w2 ⟨⟨v1,rfl,r1⟩,b2⟩;obtain ⟨a1,c1,rfl,-⟩:=rowChange_at r1;have R1:=hide r1;have B2:=hide b2;have B3:Hid (Below W.heap.size W (w2.alloc (.cells #[.int .i64 q,.slice a1 fs.length c1] 87))):=b2.alloc b2.size _;have H3:=hide (H.out.below B3.out);obtain ⟨-,-,hv3,-,-,-⟩:=H3.out.seg.cells;have hl3:=H3.out.la.cell;have hbk3:=heap_alloc_new w2 (.cells #[.int .i64 q,.slice a1 fs.length c1] 87);have hA0:(w2.alloc (.cells #[.int .i64 q,.slice a1 fs.length c1] 87)).cell? ⟨w2.heap.size,0,none⟩=some (.int .i64 q):=(cell_of_row _ _ 0 _ _ (0,0) hbk3).trans rfl;have hA1:(w2.alloc (.cells #[.int .i64 q,.slice a1 fs.length c1] 87)).cell? ⟨w2.heap.size,1,none⟩=some (.slice a1 fs.length c1):=(cell_of_row _ _ 1 _ _ (0,0) hbk3).trans rfl;clear r1 b2 hbk3))
    obtain ⟨v',p',H',hx⟩:∃ v p',RSt (w2.alloc (.cells #[.int .i64 q,.slice a1 fs.length c1] 87)) w1.heap.size n f p (p+endOf (vl pre)) v p' (batchesOf T (vl pre)) ((plsOf 0 (vl pre)).map (p+·)) (lastOf (batchesOf T (vl pre)))∧True:=⟨v,pv,by have h:=H3.out;rw [← HE0.out,← HBS.out,← HPL0.out,← HLQ.out] at h;exact h,trivial⟩
    exact ⟨(KeepsOthers.of_grownBy (grownBy_below none B3.out) (fun j o e => by cases e)),0,rfl,pre,x,rfl,hno.out,⟨⟨⟨v',p',H'⟩,HP.out⟩,hB.trans (B3.out.mono hB.size),Nat.le_trans hsz B3.out.size⟩,rfl⟩
   | true =>
    rw [hok] at HRD
    by_cases hle:q≤lq
    ·
     have hle':decide (q≤lq)=true:=by simp;omega
     have hno:Hid (¬ (rdOk (T.extract x.1.1 x.1.2)=true∧lastOf (batchesOf T (vl pre)) < rdSeq (T.extract x.1.1 x.1.2))):=by show ¬ _;rw [hR,HQ.out,HLQ.out];omega
     have HR:=hide hR
     clear hR hok
     gi_wp2_with (first | (refine ⟨trivial,?_⟩;gi_at_call 189;refine (CallsIn.inRound l (callsIn_wide.2 (HRD.out _))).mono ?_;rintro e w2 ⟨⟨v1,rfl,r1⟩,b2⟩;obtain ⟨a1,c1,rfl,-⟩:=rowChange_at r1;have R1:=hide r1;have B2:=hide b2;have B3:Hid (Below W.heap.size W (w2.alloc (.cells #[.int .i64 q,.slice a1 fs.length c1] 87))):=b2.alloc b2.size _;have H3:=hide (H.out.below B3.out);obtain ⟨-,-,hv3,-,-,-⟩:=H3.out.seg.cells;have hl3:=H3.out.la.cell;have hbk3:=heap_alloc_new w2 (.cells #[.int .i64 q,.slice a1 fs.length c1] 87);have hA0:(w2.alloc (.cells #[.int .i64 q,.slice a1 fs.length c1] 87)).cell? ⟨w2.heap.size,0,none⟩=some (.int .i64 q):=(cell_of_row _ _ 0 _ _ (0,0) hbk3).trans rfl;have hA1:(w2.alloc (.cells #[.int .i64 q,.slice a1 fs.length c1] 87)).cell? ⟨w2.heap.size,1,none⟩=some (.slice a1 fs.length c1):=(cell_of_row _ _ 1 _ _ (0,0) hbk3).trans rfl;clear r1 b2 hbk3))
     obtain ⟨v',p',H',hx⟩:∃ v p',RSt (w2.alloc (.cells #[.int .i64 q,.slice a1 fs.length c1] 87)) w1.heap.size n f p (p+endOf (vl pre)) v p' (batchesOf T (vl pre)) ((plsOf 0 (vl pre)).map (p+·)) (lastOf (batchesOf T (vl pre)))∧True:=⟨v,pv,by have h:=H3.out;rw [← HE0.out,← HBS.out,← HPL0.out,← HLQ.out] at h;exact h,trivial⟩
     exact ⟨(KeepsOthers.of_grownBy (grownBy_below none B3.out) (fun j o e => by cases e)),0,rfl,pre,x,rfl,hno.out,⟨⟨⟨v',p',H'⟩,HP.out⟩,hB.trans (B3.out.mono hB.size),Nat.le_trans hsz B3.out.size⟩,rfl⟩
    have hle':decide (q≤lq)=false:=by simp;omega
    have HRP:Hid (RisP T (vl (pre ++ [x]))):=by
     show RisP _ _
     rw [vl_snoc]
     exact risP_snoc HP.out (by rw [hR];exact hok) (by rw [hR,HQ.out,HLQ.out];omega)
    have HRA:Hid (∀ (W7:World) (v2 p2:Value),RSt W7 w1.heap.size n f p (p+x.1.2) v2 p2 (bs0 ++ [⟨q,fs⟩]) (pl0 ++ [e0]) q→Below w1.heap.size W W7→RiseAt T w1.heap.size n f p w1 (vl (pre ++ [x])) W7):=by
     intro W7 v2 p2 h7 b7
     refine ⟨⟨⟨v2,p2,?_⟩,HRP.out⟩,hB.trans b7,Nat.le_trans hsz b7.size⟩
     rw [HEN.out,HSN.out,HPN2.out]
     have:=HLN.out
     rw [HSN.out] at this
     rw [this]
     exact h7
    have HR:=hide hR
    have hcast:((p+x.1.2:Nat):Int)=(p:Int)+(x.1.2:Int):=by omega
    have hadd:IntKind.i64.wrap ((p:Int)+(x.1.2:Int))=(p:Int)+(x.1.2:Int):=by rw [IntKind.wrap_i64];omega
    clear hR hok
    gi_wp2_with (first | (refine ⟨trivial,?_⟩;gi_at_call 189;refine (CallsIn.inRound l (callsIn_wide.2 (HRD.out _))).mono ?_;rintro e w2 ⟨⟨v1,rfl,r1⟩,b2⟩;obtain ⟨a1,c1,rfl,-⟩:=rowChange_at r1;have R1:=hide r1;have B2:=hide b2;have B3:Hid (Below W.heap.size W (w2.alloc (.cells #[.int .i64 q,.slice a1 fs.length c1] 87))):=b2.alloc b2.size _;have H3:=hide (H.out.below B3.out);obtain ⟨-,-,hv3,-,-,-⟩:=H3.out.seg.cells;have hl3:=H3.out.la.cell;have hbk3:=heap_alloc_new w2 (.cells #[.int .i64 q,.slice a1 fs.length c1] 87);have hA0:(w2.alloc (.cells #[.int .i64 q,.slice a1 fs.length c1] 87)).cell? ⟨w2.heap.size,0,none⟩=some (.int .i64 q):=(cell_of_row _ _ 0 _ _ (0,0) hbk3).trans rfl;have hA1:(w2.alloc (.cells #[.int .i64 q,.slice a1 fs.length c1] 87)).cell? ⟨w2.heap.size,1,none⟩=some (.slice a1 fs.length c1):=(cell_of_row _ _ 1 _ _ (0,0) hbk3).trans rfl;have hk2:w1.heap.size+4≤w2.heap.size:=(by have:=b2.size;omega);have hk3:w2.heap.size ≠ w1.heap.size+1:=(by omega);clear r1 b2 hbk3) | (gi_at_builtin;refine appIn_batch W _ (w1.heap.size+4) (by rfl) _ _ (by rfl) v (.slice a1 fs.length c1) bs0 ⟨q,fs⟩ (by rfl) H.out.bu hsz (B3.out.alloc B3.out.size _) (rowChange_below (rowChange_below R1.out ((Below.refl _ _).alloc (Nat.le_refl _) _)) ((Below.refl _ _).alloc (Nat.le_refl _) _)) (w2.heap.size+1) (by rfl) (by have:=heap_alloc_new (w2.alloc (.cells #[.int .i64 q,.slice a1 fs.length c1] 87)) (.cells #[.int .i64 q,.slice a1 fs.length c1] 87);simpa using this) hpl ?_;intro g3 cap3 w3 hbu3 hb3 hg3;obtain ⟨hc3,hf3,hp3,he3,R3,BK3,hw3⟩:=segof_mid (v2:=.slice (some ⟨g3,0,none⟩) (bs0.length+1) cap3) H.out B2.out hsz hbu3 hg3;have BB3:=hide hb3;have G3:=hide hg3;clear hbu3 hb3 hg3) | (gi_at_builtin;refine appIn_nat (w3.setCell ⟨w1.heap.size+1,2,none⟩ (.slice (some ⟨g3,0,none⟩) (bs0.length+1) cap3)) (w1.heap.size+4) (by rfl) _ _ (by rfl) pv pl0 e0 (by rfl) R3.out.pn (by simpa using hw3) (by simp;rfl) hpn ?_;intro g5 cap5 w5 hp5 hg5;obtain ⟨hc5,hf5,R5,hh5,hq5,he5,hf54,hall5⟩:=segof_last (p2:=.slice (some ⟨g5,0,none⟩) (pl0.length+1) cap5) R3.out hk2 (blk_set BK3.out hk3) hp5 hg5;obtain ⟨hq6,hl6,hfl6⟩:=hall5 (.int .i64 ((p:Int)+(x.1.2:Int)));have KK:=segof_keeps (n1:=2) (n2:=3) (u:=.int .i64 ((p+x.1.2:Nat):Int)) (u':=.int .i64 q) (p2:=.slice (some ⟨g5,0,none⟩) (pl0.length+1) cap5) (B3.out.alloc B3.out.size _) H.out hsz rfl G3.out BB3.out R3.out.pn hg5;have HF7:=hide (segof_post KK.1 KK.2 (HRA.out _ _ _ (R5.out.fin (p+x.1.2) q) KK.2.1));rw [hcast] at HF7;clear hp5 hg5 hall5 KK))
    gi_region_o
    all_goals (gi_wp2;exact ⟨⟨HF7.out.1.size,HF7.out.1.same⟩,HF7.out.2.1,HF7.out.2.2⟩)
  case done =>
   rintro D ys W hD hys ⟨⟨⟨v,pv,H⟩,hP⟩,hB,hsz⟩ hK
   have HA:=hide (risP_all hP)
   have HOKS:=hide hP.2
   have HREST:Hid (∃ rest,frs T (T.size+1) 0=vl ys ++ rest):=⟨[],by rw [hys,List.append_nil]⟩
   rw [hys] at HA
   have HA:Hid (ris T (frs T (T.size+1) 0) (-1) 0=(batchesOf T (vl ys),endOf (vl ys))):=by show _=_;rw [HA.out,hys]
   clear hP
   obtain ⟨E0,HE0⟩:∃ E:Nat,Hid (p+endOf (vl ys)=E):=⟨_,rfl⟩
   obtain ⟨bs0,HBS⟩:∃ b,Hid (batchesOf T (vl ys)=b):=⟨_,rfl⟩
   obtain ⟨pl0,HPL0⟩:∃ b,Hid ((plsOf 0 (vl ys)).map (p+·)=b):=⟨_,rfl⟩
   obtain ⟨lq0,HLQ0⟩:∃ b,Hid (lastOf (batchesOf T (vl ys))=b):=⟨_,rfl⟩
   rw [HE0.out,HPL0.out,HLQ0.out,HBS.out] at H
   obtain ⟨av,cv,hv,-⟩:=rowBatch_at (buildB_row H.bu)
   subst hv
   obtain ⟨ap,cp,hp'⟩:=rowNat_form H.pn
   subst hp'
   obtain ⟨hs0,hs1,hs2,hs3,hs4,hs5⟩:=H.seg.cells
   have hrb:=HRW.out W hB
   obtain ⟨hc0,hc1,hc2,hc3,hc4,hc5,hc6,hfz⟩:=six_cells hrb
   have h0:=hfz 0
   have h1:=hfz 1
   have h2:=hfz 2
   have h3:=hfz 3
   have h4:=hfz 4
   have h5:=hfz 5
   have h6:=hfz 6
   obtain ⟨TN,HTN⟩:∃ b:Bool,Hid (decide (E0 < s.size)=b):=⟨_,hide rfl⟩
   obtain ⟨ht0,ht1,ht2,ht3,ht4,ht5,ht6,htz⟩:=six_cells (H.seg.tear TN)
   have hz6:=H.seg.frozen 6
   have hn6:W.cell? ⟨w1.heap.size+1,6,none⟩=some (.bool false):=(cell_of_row W _ 6 _ _ (0,0) H.seg).trans rfl
   have hq0:(W.setCell ⟨w1.heap.size+1,6,none⟩ (.bool TN)).heap[w.heap.size]? = W.heap[w.heap.size]?:=Below.heap_setCell _ _ _ _ (by show w.heap.size ≠ w1.heap.size+1;omega)
   obtain ⟨hu0,hu1,hu2,hu3,hu4,hu5,hu6,huz⟩:=six_cells (hq0.trans hrb)
   have k0:=huz 0
   have k1:=huz 1
   have k2:=huz 2
   have k3:=huz 3
   have k4:=huz 4
   have k5:=huz 5
   have k6:=huz 6
   have HH2:=hide H
   have HRB2:=hide hrb
   have HSG2:=hide HSG.out
   clear hfz H hrb hq0 htz huz
   gi_wp2
   rw [HTN.out]
   obtain ⟨z1,z2,z3,z4,z5⟩:=segof_ret (t:=TN) HH2.out HRB2.out hK (by omega) (.deferred none) _ rfl
   refine ⟨by simp,.inl ⟨_,_,rfl,run_takeDeferred z1,?_⟩⟩
   obtain ⟨y0,y1,y2,y3,y4,y5,y6,-⟩:=six_cells z2
   generalize World.putObj _ D (.deferred none)=Wz at y0 y1 y2 y3 y4 y5 y6 z3 z4 z5 ⊢
   refine ⟨.agg #[.int .i64 n,.int .i64 (f:Int),.slice av bs0.length cv,.slice ap pl0.length cp,.int .i64 (E0:Int),.bool true,.bool TN],?_,?_⟩
   · simp [results,Tryz.results166,go_sem,y0,y1,y2,y3,y4,y5,y6]
   ·
    obtain ⟨e1,e2,e3,e4⟩:=HSG2.out
    rw [HA.out] at e2 e3
    simp only [HE0.out,HBS.out] at e2 e3
    have e5:segTorn n s=TN:=by unfold segTorn;rw [e3,e4,HTN.out];rfl
    refine ⟨⟨_,_,by rw [e1,e3,e4,e5],by rw [e2];exact rowBatch_le (buildB_row z3) (by omega),by rw [HPL.out (vl ys) (by rw [HA.out]) HREST.out HOKS.out,HPL0.out];exact rowNat_le z4 (by omega)⟩,z5 w (HBW.out W hB) (Nat.le_refl _) (by omega) (by omega)⟩
  case stop =>
   rintro D c pre W hD ⟨rest,hrest⟩ ⟨k,rfl,pp,x,rfl,hno,⟨⟨⟨v,pv,H⟩,hP⟩,hB,hsz⟩,rfl⟩ hK
   rw [vl_snoc] at hrest
   have HA:Hid (ris T (frs T (T.size+1) 0) (-1) 0=(batchesOf T (vl pp),endOf (vl pp))):=by show _=_;rw [hrest];exact risP_stop hP hno
   have HOKS:=hide hP.2
   have HREST:Hid (∃ rest,frs T (T.size+1) 0=vl pp ++ rest):=⟨[x.1] ++ rest,by rw [hrest,List.append_assoc]⟩
   clear hP hrest hno
   obtain ⟨E0,HE0⟩:∃ E:Nat,Hid (p+endOf (vl pp)=E):=⟨_,rfl⟩
   obtain ⟨bs0,HBS⟩:∃ b,Hid (batchesOf T (vl pp)=b):=⟨_,rfl⟩
   obtain ⟨pl0,HPL0⟩:∃ b,Hid ((plsOf 0 (vl pp)).map (p+·)=b):=⟨_,rfl⟩
   obtain ⟨lq0,HLQ0⟩:∃ b,Hid (lastOf (batchesOf T (vl pp))=b):=⟨_,rfl⟩
   rw [HE0.out,HPL0.out,HLQ0.out,HBS.out] at H
   obtain ⟨av,cv,hv,-⟩:=rowBatch_at (buildB_row H.bu)
   subst hv
   obtain ⟨ap,cp,hp'⟩:=rowNat_form H.pn
   subst hp'
   obtain ⟨hs0,hs1,hs2,hs3,hs4,hs5⟩:=H.seg.cells
   have hrb:=HRW.out W hB
   obtain ⟨hc0,hc1,hc2,hc3,hc4,hc5,hc6,hfz⟩:=six_cells hrb
   have h0:=hfz 0
   have h1:=hfz 1
   have h2:=hfz 2
   have h3:=hfz 3
   have h4:=hfz 4
   have h5:=hfz 5
   have h6:=hfz 6
   obtain ⟨TN,HTN⟩:∃ b:Bool,Hid (decide (E0 < s.size)=b):=⟨_,hide rfl⟩
   obtain ⟨ht0,ht1,ht2,ht3,ht4,ht5,ht6,htz⟩:=six_cells (H.seg.tear TN)
   have hz6:=H.seg.frozen 6
   have hn6:W.cell? ⟨w1.heap.size+1,6,none⟩=some (.bool false):=(cell_of_row W _ 6 _ _ (0,0) H.seg).trans rfl
   have hq0:(W.setCell ⟨w1.heap.size+1,6,none⟩ (.bool TN)).heap[w.heap.size]? = W.heap[w.heap.size]?:=Below.heap_setCell _ _ _ _ (by show w.heap.size ≠ w1.heap.size+1;omega)
   obtain ⟨hu0,hu1,hu2,hu3,hu4,hu5,hu6,huz⟩:=six_cells (hq0.trans hrb)
   have k0:=huz 0
   have k1:=huz 1
   have k2:=huz 2
   have k3:=huz 3
   have k4:=huz 4
   have k5:=huz 5
   have k6:=huz 6
   have HH2:=hide H
   have HRB2:=hide hrb
   have HSG2:=hide HSG.out
   clear hfz H hrb hq0 htz huz
   gi_wp2
   rw [HTN.out]
   obtain ⟨z1,z2,z3,z4,z5⟩:=segof_ret (t:=TN) HH2.out HRB2.out hK (by omega) (.deferred none) _ rfl
   refine ⟨by simp,.inl ⟨_,_,rfl,run_takeDeferred z1,?_⟩⟩
   obtain ⟨y0,y1,y2,y3,y4,y5,y6,-⟩:=six_cells z2
   generalize World.putObj _ D (.deferred none)=Wz at y0 y1 y2 y3 y4 y5 y6 z3 z4 z5 ⊢
   refine ⟨.agg #[.int .i64 n,.int .i64 (f:Int),.slice av bs0.length cv,.slice ap pl0.length cp,.int .i64 (E0:Int),.bool true,.bool TN],?_,?_⟩
   · simp [results,Tryz.results166,go_sem,y0,y1,y2,y3,y4,y5,y6]
   ·
    obtain ⟨e1,e2,e3,e4⟩:=HSG2.out
    rw [HA.out] at e2 e3
    simp only [HE0.out,HBS.out] at e2 e3
    have e5:segTorn n s=TN:=by unfold segTorn;rw [e3,e4,HTN.out];rfl
    refine ⟨⟨_,_,by rw [e1,e3,e4,e5],by rw [e2];exact rowBatch_le (buildB_row z3) (by omega),by rw [HPL.out (vl pp) (by rw [HA.out]) HREST.out HOKS.out,HPL0.out];exact rowNat_le z4 (by omega)⟩,z5 w (HBW.out W hB) (Nat.le_refl _) (by omega) (by omega)⟩
end Go.Proofs.YtepdckehokdjlaaGreatDoor
namespace Go.Proofs.YtepdckehokdjlaaGreatDoor
open Go.RowKit
theorem l03At_any (fs:List FileD) (ao:Option Addr) (cap:Nat) (nm:ByteArray) (w:World) (hl:fs.length≤1048576) (hfs:FilesAt w ao fs) :
  Calls Tryz.prog 47 #[.agg #[.slice ao fs.length cap],.string nm] w fun e w' => e=.returned (.int .i64 (atFrom nm 0 fs))∧Below w.heap.size w w':=by
 have HF:=hide hfs
 clear hfs
 obtain ⟨R,HR⟩:∃ R,Hid (atFrom nm 0 (fs.drop 0)=R):=⟨_,hide rfl⟩
 have e:atFrom nm 0 fs=R:=HR.out
 rw [e]
 clear e
 have HB0:Hid (Below w.heap.size w (w.alloc (.cells #[.slice ao fs.length cap] 31))):=(Below.refl _ w).alloc (Nat.le_refl _) _
 go_enter Tryz.func47,Tryz.ntmps47
 go_wp2
 go_loop [5] (fun ii => ∃ (k:Nat),ii=.int .i64 k∧k≤fs.length∧Hid (atFrom nm k (fs.drop k)=R)) (fun ii => fs.length - (intOf ii).toNat)
 case atStart => exact ⟨0,rfl,Nat.zero_le _,HR⟩
 case round =>
  obtain ⟨k,rfl,hk,HK⟩:=hrel
  by_cases hlt:k < fs.length
  ·
   have hlt':decide ((k:Int) < (fs.length:Int))=true:=by simp;omega
   obtain ⟨b,off,rfl,hbw,hc0,hc1,hc2⟩:=filesAt_keep HF.out HB0.out k hlt
   obtain ⟨F,HFk⟩:∃ F,Hid (fs[k]=F):=⟨fs[k],hide rfl⟩
   rw [HFk.out] at hc0
   clear hc1 hc2
   have hi0:(0:Int)≤(k:Int):=by omega
   have hi1:(k:Int) < (fs.length:Int):=by omega
   cases hq:(F.name.toList == nm.toList)
   ·
    have HK1:Hid (atFrom nm (k+1) (fs.drop (k+1))=R):=by show _=_;rw [← HK.out];exact (at_miss hlt (by rw [HFk.out];exact hq)).symm
    go_wp2
    go_round
    case rel => exact ⟨k+1,by go_num,by omega,HK1⟩
    case measure => simp [intOf];omega
   ·
    have hR:Hid (R=(k:Int)):=by show _=_;rw [← HK.out];exact at_hit hlt (by rw [HFk.out];exact hq)
    go_wp2
    go_ret
    rw [hR.out]
    exact ⟨rfl,HB0.out⟩
  ·
   have hlt':decide ((k:Int) < (fs.length:Int))=false:=by simp;omega
   have hR:Hid (R = -1):=by show _=_;rw [← HK.out];exact at_end (by omega)
   go_wp2
   go_ret
   rw [hR.out]
   exact ⟨rfl,HB0.out⟩
theorem specFileAt_any (fs:List FileD) (ao:Option Addr) (cap:Nat) (nm:ByteArray) (w:World) (hl:fs.length≤1048576) (hfs:FilesAt w ao fs) :
  Calls Tryz.prog 37 #[.agg #[.slice ao fs.length cap],.string nm] w fun e w' => ((fileD fs nm=none∧e=.returned (.tuple #[.string ⟨#[]⟩,.bool false])) ∨ ∃ F,fileD fs nm=some F∧F ∈ fs∧e=.returned (.tuple #[.string F.text,.bool true]))∧Below w.heap.size w w':=by
 have HF:=hide hfs
 clear hfs
 have HB0:Hid (Below w.heap.size w (w.alloc (.cells #[.slice ao fs.length cap] 31))):=(Below.refl _ w).alloc (Nat.le_refl _) _
 have HA:=hide (at_cases nm fs 0)
 go_enter Tryz.func37,Tryz.ntmps37
 go_wp2_with fail
 refine (l03At_any fs ao cap nm _ hl (filesAt_keep HF.out HB0.out)).mono ?_
 rintro e w1 ⟨rfl,b1⟩
 have hbox:w1.cell? ⟨w.heap.size,0,none⟩=some (.slice ao fs.length cap):=(b1.cell (p:=⟨w.heap.size,0,none⟩) (by simp)).trans (by rw [cell_of_row _ _ _ _ _ (0,0) (heap_alloc_new w _)];rfl)
 have HB1:=hide (HB0.out.trans (b1.mono HB0.out.size))
 clear b1
 rcases HA.out with ⟨h1,h2⟩ | ⟨j,hj,h1,h2,h3⟩
 ·
  rw [h1]
  have HN:Hid (fileD fs nm=none):=List.find?_eq_none.2 (fun F hF => by rw [h2 F hF];decide)
  clear h1 h2
  have hd:decide ((-1:Int) < 0)=true:=by decide
  go_wp2
  go_ret2
  exact ⟨.inl ⟨HN.out,rfl⟩,HB1.out⟩
 ·
  rw [h1,Nat.zero_add]
  have HN:Hid (fileD fs nm=some fs[j]):=h3
  clear h1 h2 h3
  have hd:decide ((j:Int) < 0)=false:=by simp
  obtain ⟨b,off,rfl,hbw,hc0,hc1,hc2⟩:=filesAt_keep HF.out HB1.out j hj
  have HM:=hide (List.getElem_mem hj)
  obtain ⟨F,HFk⟩:∃ F,Hid (fs[j]=F):=⟨fs[j],hide rfl⟩
  rw [HFk.out] at hc1 HN HM
  clear hc0 hc2
  have hi0:(0:Int)≤(j:Int):=by omega
  have hi1:(j:Int) < (fs.length:Int):=by omega
  go_wp2
  go_ret2
  exact ⟨.inr ⟨F,HN.out,HM.out,rfl⟩,HB1.out⟩
theorem fileAt_any (fs:List FileD) (ao:Option Addr) (cap:Nat) (nm:ByteArray) (w:World) (hl:fs.length≤1048576) (hfs:FilesAt w ao fs) (hsz:∀ F ∈ fs,F.name.size≤1048576∧F.text.size≤1048576) :
  Calls Tryz.prog 118 #[.agg #[.slice ao fs.length cap],.string nm] w fun e w' => ((fileD fs nm=none∧e=.returned (.tuple #[.string ⟨#[]⟩,.bool false])) ∨ ∃ F,fileD fs nm=some F∧F ∈ fs∧e=.returned (.tuple #[.string F.text,.bool true]))∧Below w.heap.size w w':=by
 have HF:=hide hfs
 have HS:=hide hsz
 clear hfs hsz
 have HR:Hid (fileD (fs.drop 0) nm=fileD fs nm):=rfl
 have HB0:Hid (Below w.heap.size w (w.alloc (.cells #[.slice ao fs.length cap] 31))):=(Below.refl _ w).alloc (Nat.le_refl _) _
 go_enter Tryz.func118,Tryz.ntmps118
 go_wp2
 go_loopw [11] (fun ii wr => ∃ (k:Nat),ii=.int .i64 k∧k≤fs.length∧Hid (fileD (fs.drop k) nm=fileD fs nm)∧Hid (Below w.heap.size w wr)) (fun ii _ => fs.length - (intOf ii).toNat)
 case atStart => exact ⟨0,rfl,Nat.zero_le _,HR,HB0⟩
 case round =>
  obtain ⟨k,rfl,hk,HK,HB⟩:=hrel
  by_cases hlt:k < fs.length
  ·
   have hlt':decide ((k:Int) < (fs.length:Int))=true:=by simp;omega
   obtain ⟨b,off,rfl,hbw,hc0,hc1,hc2⟩:=filesAt_keep HF.out HB.out k hlt
   have HM:=hide (List.getElem_mem hlt)
   obtain ⟨F,HFk⟩:∃ F,Hid (fs[k]=F):=⟨fs[k],hide rfl⟩
   rw [HFk.out] at hc0 hc1 hc2 HM
   have hi0:(0:Int)≤(k:Int):=by omega
   have hi1:(k:Int) < (fs.length:Int):=by omega
   cases hq:(F.name.toList == nm.toList)
   ·
    have HK1:Hid (fileD (fs.drop (k+1)) nm=fileD fs nm):=by show _=_;rw [← HK.out];exact (fileD_miss hlt (by rw [HFk.out];exact hq)).symm
    go_wp2
    go_roundw
    case rel => exact ⟨k+1,by go_num,by omega,HK1,HB.out.alloc HB.out.size _⟩
    case measure => simp [intOf];omega
   ·
    have HK1:Hid (fileD fs nm=some F):=by show _=_;rw [← HK.out,fileD_hit hlt (by rw [HFk.out];exact hq),HFk.out]
    have hs2:=(HS.out F HM.out).2
    go_wp2_with fail
    refine (ownText_any F.text _ hs2).mono ?_
    rintro e w1 ⟨rfl,b1⟩
    have HB1:Hid (Below w.heap.size w w1):=(HB.out.alloc HB.out.size _).trans (b1.mono (by have:=HB.out.size;simp;omega))
    clear b1 hc0 hc1 hc2
    go_wp2
    go_ret2
    exact ⟨.inr ⟨F,HK1.out,HM.out,rfl⟩,HB1.out⟩
  ·
   have hlt':decide ((k:Int) < (fs.length:Int))=false:=by simp;omega
   have hR:Hid (fileD fs nm=none):=by show _=_;rw [← HK.out];exact fileD_end (by omega)
   go_wp2
   go_ret2
   exact ⟨.inl ⟨hR.out,rfl⟩,HB.out⟩
end Go.Proofs.YtepdckehokdjlaaGreatDoor
