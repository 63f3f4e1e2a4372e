import Derived.RangeFuncNested
import Derived.RangeFuncBound
import Derived.RangeFuncCalls
import Derived.RangeFuncLeaves
import Derived.Shelf.Abstract
import Derived.Shelf.RegionOpen
import Derived.WalkKit
import Derived.OwnWalkIn
import Derived.TacticsInMore
import Derived.LoopNIn
import Derived.LoopIn
import Derived.Test.YtepdckehokdjlaaGreatDoorMg9
import Derived.Test.YtepdckehokdjlaaGreatDoorMg3
import Derived.Test.YtepdckehokdjlaaGreatDoorMg0
import Derived.Test.YtepdckehokdjlaaGreatDoorMg8
import Derived.Test.YtepdckehokdjlaaGreatDoorMg1
set_option maxRecDepth 100000
set_option maxHeartbeats 3200000
namespace Go.Proofs.YtepdckehokdjlaaGreatDoor
open Go.RowKit Go.Shelf
attribute [local go_sem] Oper.semAt_some
def KpF (n₀ Bn:Nat) (W W':World):Prop:=Below n₀ W W'∧∀ v,Boxed W Bn 9 v→Boxed W' Bn 9 v
theorem kpF_t {n₀ Bn:Nat} {A B C:World} (h:KpF n₀ Bn A B) (k:KpF n₀ Bn B C):KpF n₀ Bn A C:=⟨h.1.trans k.1,fun v hv => k.2 v (h.2 v hv)⟩
theorem kpF_b {n₀ Bn:Nat} {w:World} (hn:n₀≤w.heap.size) (W:World) (l:Nat) (o o':Obj) (hl:w.heap.size≤l) (h:W.heap[l]? = some o) (hc:o.isCells=false) (hw:o.isWalk=false):KpF n₀ Bn W (W.putObj l o') :=
 ⟨belowK_b hn W l o o' hl h hc hw,fun v hv => hv.kept (grownBy_putObj' W l o') (fun e => by
  cases e
  have hv':W.heap[Bn]? = some (.cells #[v] 9 (0,0)):=hv
  rw [hv'] at h
  cases h
  cases hc)⟩
theorem sumTab_below {w w':World} {n₀:Nat} (h:Below n₀ w w') (hg:0 < n₀) (ht:SumTab w):SumTab w':=fun r hr => (h.cell (p:=⟨0,r,none⟩) hg).trans (ht r hr)
theorem sumTab_lt {w:World} (ht:SumTab w):0 < w.heap.size:=World.block_lt_of_cell? _ _ (ht 0 (by omega))
abbrev FrX:={ x:Nat × Nat // x.2≤20000 }
def vl (l:List FrX):List (Nat × Nat):=l.map Subtype.val
theorem vl_snoc (l:List FrX) (x:FrX):vl (l ++ [x])=vl l ++ [x.1]:=by simp [vl]
theorem vl_len (l:List FrX):(vl l).length=l.length:=by simp [vl]
theorem frames1_pre (s:ByteArray) (hs:s.size≤20000) (n l Bn n₀:Nat) (hn:1≤n) (J Jx:List FrX→World→Prop)
  (hY:∀ pre x W,J pre W→pre.length < s.size+1→YieldAt Fence.wide (n - 1) Tryz.prog l #[.string (s.extract x.1.1 x.1.2),.int .i64 (x.1.2:Int)] W fun e W' =>
   (e=.returned (.bool true)∧J (pre ++ [x]) W'∧KpF n₀ Bn W W') ∨ (e=.returned (.bool false)∧Jx (pre ++ [x]) W'))
  (W:World) (hJ:AbidesFrom W.heap.size J) (hn₀:n₀≤W.heap.size) (hg:0 < n₀) (hbox:Boxed W Bn 9 (.string s)) (hT:SumTab W) (h0:J [] W) :
  CallsIn Fence.wide n Tryz.prog 201 #[.func (.yield l) #[] #[],.pointer (some ⟨Bn,0,none⟩)] W fun e W' => (∃ v,e=.returned v) ∧
   ((∃ ys,vl ys=frs s (s.size+1) 0∧J ys W') ∨ (∃ pre,(∃ rest,frs s (s.size+1) 0=vl pre ++ rest)∧Jx pre W')):=by
 have HY:=hide hY
 have HJ:=hide hJ
 have HT:=hide hT
 clear hY hJ hT
 refine callsIn_of_wp Tryz.func201 rfl trivial ?_ rfl
 simp only [Tryz.ntmps201,List.size_toArray,List.length_cons,List.length_nil,Nat.reduceAdd,Nat.reduceSub,Array.replicate_succ,Array.replicate_zero,List.push_toArray,List.append_toArray,List.nil_append,List.cons_append]
 gi_wp2
 gi_loopw [3] (fun a wr => ∃ (pre:List FrX) (f i:Nat),a=.int .i64 i∧i≤s.size∧Hid (frs s (s.size+1) 0=vl pre ++ frs s f i)∧s.size < f+i∧Hid (J pre wr)∧Boxed wr Bn 9 (.string s)∧Below n₀ W wr∧W.heap.size≤wr.heap.size) (fun a _ => s.size - (intOf a).toNat)
 case atStart => exact ⟨[],s.size+1,0,rfl,Nat.zero_le _,rfl,by omega,h0,hbox,Below.refl _ _,Nat.le_refl _⟩
 case round =>
  obtain ⟨pre,f,i,rfl,hi,hall,hfuel,hJp,hbx,hbl,hsz⟩:=hrel
  have hc:=hbx.cell
  have HTr:=hide (sumTab_below hbl hg HT.out)
  cases hfr:frB s i with
  | none =>
   have hcall:=hide (fun W1 hT1 => callsIn_wide (n:=n - 1).2 (frameAt_none s i W1 hs hi hfr hT1))
   have hdone:Hid (frs s (s.size+1) 0=vl pre):=by show _=_;rw [hall.out,frs_none s f i hfr,List.append_nil]
   clear hfr
   gi_wp2_with (first | (refine ⟨trivial,?_⟩;gi_at_call 199;refine (hcall.out _ HTr.out).mono ?_;rintro e w1 ⟨rfl,b1⟩))
   refine ⟨fun _ _ => trivial,?_⟩
   gi_wp2
   refine bodyPost_ret (results_none rfl _ _ _) rfl ?_
   exact ⟨⟨_,rfl⟩,.inl ⟨pre,hdone.out.symm,HJ.out _ _ _ none hJp.out (grownBy_below none b1) (fun r e => by cases e)⟩⟩
  | some x =>
   have hb:=frB_bounds s i x hfr
   obtain ⟨X,hX⟩:∃ X:FrX,X.1=x:=⟨⟨x,by omega⟩,rfl⟩
   have hcall:=hide (fun W1 hT1 => callsIn_wide (n:=n - 1).2 (frameAt_some s i x W1 hs hi hfr hT1))
   have HYX:=hide (fun pre W => HY.out pre X W)
   rw [hX] at HYX
   cases f with
   | zero => omega
   | succ f =>
    have hall':=hide (show frs s (s.size+1) 0=vl (pre ++ [X]) ++ frs s f x.2 by rw [hall.out,frs_some s f i x hfr,vl_snoc,hX,List.append_assoc];rfl)
    have hlen:pre.length < s.size+1:=by
     have e:=congrArg List.length hall'.out
     rw [List.length_append,vl_len,List.length_append] at e
     have:=frs_len s (s.size+1) 0
     simp at e
     omega
    clear hfr
    gi_wp2_with (first | (refine ⟨trivial,?_⟩;gi_at_call 199;refine (hcall.out _ HTr.out).mono ?_;rintro e w1 ⟨rfl,b1⟩;obtain ⟨fn,tmps,assign,body,hy,hR⟩:=HYX.out pre w1 (HJ.out _ _ _ none hJp.out (grownBy_below none b1) (fun r e => by cases e)) hlen))
    refine hR.mono ?_
    rintro e W3 (⟨rfl,hJ3,hk3⟩ | ⟨rfl,hJx3⟩)
    ·
     gi_wp2
     go_roundw
     case rel => exact ⟨pre ++ [X],f,x.2,rfl,hb.2.2,hall',by omega,hJ3,hk3.2 _ (hbx.kept (grownBy_below none b1) (by simp)),hbl.trans ((b1.mono (by omega)).trans hk3.1),Nat.le_trans hsz (Nat.le_trans b1.size hk3.1.size)⟩
     case measure => simp [intOf];omega
    ·
     gi_wp2
     refine bodyPost_ret (results_none rfl _ _ _) rfl ?_
     exact ⟨⟨_,rfl⟩,.inr ⟨_,⟨_,hall'.out⟩,hJx3⟩⟩
theorem framesOf_any (s:ByteArray) (w:World) :
  Calls Tryz.prog 188 #[.string s] w fun e w' => e=.returned (.func (.func 201) #[] #[.pointer (some ⟨w.heap.size,0,none⟩)])∧w' = w.alloc (.cells #[.string s] 9):=by
 go_enter Tryz.func188,Tryz.ntmps188
 go_wp2
 go_ret
 exact ⟨rfl,rfl⟩
theorem frames_stopsP (s:ByteArray) (hs:s.size≤20000) (n Bn n₀:Nat) (hn:1≤n) (w:World) (hn₀:n₀≤w.heap.size) (hg:0 < n₀) (hbox:Boxed w Bn 9 (.string s)) (hT:SumTab w) :
  SeqStopsK Fence.wide n Tryz.prog 201 #[.pointer (some ⟨Bn,0,none⟩)] (fun x:FrX => #[Value.string (s.extract x.1.1 x.1.2),Value.int .i64 (x.1.2:Int)]) (KpF n₀ Bn) (fun ys => vl ys=frs s (s.size+1) 0) (fun pre => ∃ rest,frs s (s.size+1) 0=vl pre ++ rest) (s.size+1) w:=fun l J Jx W hW hJ _ hY h0 =>
 frames1_pre s hs n l Bn n₀ hn J Jx hY W hJ (Nat.le_trans hn₀ hW.size) hg (hbox.kept (grownBy_below none hW) (by simp)) (sumTab_below (hW.mono hn₀) hg hT) h0
end Go.Proofs.YtepdckehokdjlaaGreatDoor
namespace Go.Proofs.YtepdckehokdjlaaGreatDoor
open Go.RowKit
theorem specReadBatch_any (t:ByteArray) (w:World) (ht:t.size≤1048576) :
  Calls Tryz.prog 77 #[.string t] w fun e w' => (∃ v,e=.returned (.tuple #[.agg #[.int .i64 (rdSeq t),v],.bool (rdOk t)])∧RowChange w' w.heap.size v (rdChanges t))∧Below w.heap.size w w':=by
 have hl0:=takeC_le (t:=t) (n:=1) (i:=0) false (Nat.zero_le _)
 obtain ⟨x0,X0⟩:∃ x,Hid (takeC t 1 0 false=x):=⟨_,rfl⟩
 have C0:=hide (fun W (hW:CurB W (w.heap.size+1) t 0 false) => l05Take_any t (w.heap.size+1) 1 0 false W ht (Nat.zero_le _) (by omega) hW)
 rw [X0.out] at C0 hl0
 obtain ⟨s0,i0,b0⟩:=x0
 have hl1:=varC_le b0 hl0.1
 obtain ⟨x1,X1⟩:∃ x,Hid (varC t i0 b0=x):=⟨_,rfl⟩
 have C1:=hide (fun W (hW:CurB W (w.heap.size+1) t i0 b0) => l05Var_any t (w.heap.size+1) i0 b0 W ht hl0.1 hW)
 rw [X1.out] at C1 hl1
 obtain ⟨q,i1,b1⟩:=x1
 have hl2:=varC_le b1 hl1.1
 obtain ⟨x2,X2⟩:∃ x,Hid (varC t i1 b1=x):=⟨_,rfl⟩
 have C2:=hide (fun W (hW:CurB W (w.heap.size+1) t i1 b1) => l05Var_any t (w.heap.size+1) i1 b1 W ht hl1.1 hW)
 rw [X2.out] at C2 hl2
 obtain ⟨n,i2,b2⟩:=x2
 simp only at hl0 hl1 hl2
 obtain ⟨RL,HRL⟩:∃ R,Hid (rdF t (min n 100) i2 b2 []=R):=⟨_,rfl⟩
 have HRW:Hid (rdRaw t=(q,RL)):=by show _=_;simp only [rdRaw,X0.out,X1.out,X2.out];rw [HRL.out]
 have ST:Hid (StB w (((w.alloc (.cells #[.int .i64 0,.slice none 0 0] 87)).alloc (.cells #[.string t,.int .i64 0,.bool false] 180)).alloc (.cells #[.int .i64 0,.slice none 0 0] 87)) t 0 false 0 (.slice none 0 0) []):=by
  refine ⟨?_,?_,?_,World.ownsRow_nil _ _ _ _,(((Below.refl _ w).alloc (Nat.le_refl _) _).alloc (by simp) _).alloc (by simp;omega) _⟩
  · exact (Below.heap_alloc _ _ _ (by simp;omega)).trans ((Below.heap_alloc _ _ _ (by simp)).trans (heap_alloc_new _ _))
  ·
   show _=_
   refine (Below.heap_alloc _ _ _ (by simp)).trans ?_
   rw [show w.heap.size+1=(w.alloc (.cells #[.int .i64 0,.slice none 0 0] 87)).heap.size from by simp]
   exact heap_alloc_new _ _
  ·
   rw [show w.heap.size+2=((w.alloc (.cells #[.int .i64 0,.slice none 0 0] 87)).alloc (.cells #[.string t,.int .i64 0,.bool false] 180)).heap.size from by simp]
   exact heap_alloc_new _ _
 go_enter Tryz.func77,Tryz.ntmps77
 go_wp2_with fail
 generalize (((w.alloc (.cells #[.int .i64 0,.slice none 0 0] 87)).alloc (.cells #[.string t,.int .i64 0,.bool false] 180)).alloc (.cells #[.int .i64 0,.slice none 0 0] 87))=w0 at ST
 refine (C0.out _ ST.out.2.1).mono ?_
 rintro e w1 ⟨rfl,c1,g1⟩
 have S1:=hide (stB_cur ST.out g1 c1)
 clear ST c1 g1
 go_wp2_with fail
 refine (C1.out _ S1.out.2.1).mono ?_
 rintro e w2 ⟨rfl,c2,g2⟩
 have S2:=hide (stB_cur S1.out g2 c2)
 clear S1 c2 g2
 obtain ⟨⟨hq0,hq1,hqf0,hqf1⟩,-,-⟩:=stB_cells S2.out
 go_wp2_with fail
 have S3:=hide (stB_seq S2.out (q:Int))
 clear S2 hq0 hq1 hqf0 hqf1
 refine (C2.out _ S3.out.2.1).mono ?_
 rintro e w4 ⟨rfl,c4,g4⟩
 have S4:=hide (stB_cur S3.out g4 c4)
 clear S3 c4 g4
 go_wp2_with fail
 obtain ⟨M,HM⟩:∃ M,Hid (min n 100=M):=⟨_,rfl⟩
 have hM:M≤n∧M≤100∧(M=n ∨ M=100):=by have:=HM.out;omega
 rw [HM.out] at HRL
 clear C0 C1 C2 X0 X1 X2 HM
 go_loopw [7] (fun ii wr => ∃ (k i:Nat) (bad:Bool) (v:Value) (acc:List ChangeD),ii=.int .i64 k∧acc.length=k∧k≤M∧i≤t.size∧Hid (rdF t (M - k) i bad acc=RL)∧Hid (StB w wr t i bad (q:Int) v acc)∧Hid (∀ A ∈ acc,A.key.size≤t.size∧A.value.size≤t.size)) (fun ii _ => 100 - (intOf ii).toNat)
 case atStart => exact ⟨0,i2,b2,.slice none 0 0,[],rfl,rfl,Nat.zero_le _,hl2.1,HRL,S4,fun A hA => absurd hA List.not_mem_nil⟩
 case round =>
  clear S4
  obtain ⟨k,i,bad,v,acc,rfl,hal,hk,hi,HR,SW,HA⟩:=hrel
  have hcb:=(stB_cells SW.out).2.2
  have hws:w.heap.size+3≤wr.heap.size:=by have:=heap_lt SW.out.2.2.1;omega
  by_cases hrun:k < M∧bad=false
  ·
   obtain ⟨hkM,rfl⟩:=hrun
   have hd1:decide ((k:Int) < (n:Int))=true:=by simp;omega
   have hd2:decide ((k:Int) < 100)=true:=by simp;omega
   have hsA:=shortC_le false hi
   have CA:=hide (fun W (hW:CurB W (w.heap.size+1) t i false) => l05ReadShort_any t (w.heap.size+1) i false W ht hi hW)
   obtain ⟨xa,XA⟩:∃ x,Hid (shortC t i false=x):=⟨_,rfl⟩
   rw [XA.out] at hsA CA
   obtain ⟨ka,j1,d1⟩:=xa
   simp only at hsA
   have hsB:=takeC_le (n:=1) d1 hsA.1
   have CB:=hide (fun W (hW:CurB W (w.heap.size+1) t j1 d1) => l05Take_any t (w.heap.size+1) 1 j1 d1 W ht hsA.1 (by omega) hW)
   obtain ⟨xb,XB⟩:∃ x,Hid (takeC t 1 j1 d1=x):=⟨_,rfl⟩
   rw [XB.out] at hsB CB
   obtain ⟨fl,j2,d2⟩:=xb
   simp only at hsB
   have hsC:=shortC_le d2 hsB.1
   have CC:=hide (fun W (hW:CurB W (w.heap.size+1) t j2 d2) => l05ReadShort_any t (w.heap.size+1) j2 d2 W ht hsB.1 hW)
   obtain ⟨xc,XC⟩:∃ x,Hid (shortC t j2 d2=x):=⟨_,rfl⟩
   rw [XC.out] at hsC CC
   obtain ⟨va,j3,d3⟩:=xc
   simp only at hsC
   obtain ⟨gb,hgb⟩:∃ gb:Bool,(fl.toList == [1])=gb:=⟨_,rfl⟩
   have HRn:Hid (rdF t (M - (k+1)) j3 d3 (acc ++ [⟨ka,va,gb⟩])=RL):=by
    show _=_
    rw [← HR.out,show M - k=M - (k+1)+1 from by omega]
    simp only [rdF,rdStep,XA.out,XB.out,XC.out,hgb]
   have HAn:Hid (∀ A ∈ acc ++ [(⟨ka,va,gb⟩:ChangeD)],A.key.size≤t.size∧A.value.size≤t.size):=by
    intro A hA
    rcases List.mem_append.1 hA with h | h
    · exact HA.out A h
    ·
     obtain rfl:A=⟨ka,va,gb⟩:=by simpa using h
     exact ⟨hsA.2,hsC.2⟩
   have hown:∀ g,v.ownBlock=some g→g < wr.heap.size:=fun g hg => (SW.out.2.2.2.1.lt g hg).2
   go_wp2_with fail
   refine (CA.out _ SW.out.2.1).mono ?_
   rintro e w5 ⟨rfl,c5,g5⟩
   have S5:=hide (stB_cur SW.out g5 c5)
   have hs5:=g5.size
   clear c5 g5 hcb
   have S6:=hide (stB_below S5.out ((Below.refl _ w5).alloc (Nat.le_refl _) (.cells #[.string ka,.string ⟨#[]⟩,.bool false] 145)))
   have hX6:=heap_alloc_new w5 (.cells #[.string ka,.string ⟨#[]⟩,.bool false] 145)
   obtain ⟨X,hX⟩:∃ X,X=w5.heap.size:=⟨_,rfl⟩
   rw [← hX] at hX6
   have hXb:w.heap.size+3≤X:=by omega
   have hXne:Hid (v.ownBlock ≠ some X):=fun e => by have:=hown X e;omega
   go_wp2_with fail
   rw [← hX]
   generalize w5.alloc (.cells #[.string ka,.string ⟨#[]⟩,.bool false] 145)=w6 at S6 hX6
   clear hX
   have HX6:=hide hX6
   clear hX6
   refine (CB.out _ S6.out.2.1).mono ?_
   rintro e w7 ⟨rfl,c7,g7⟩
   have S7:=hide (stB_cur S6.out g7 c7)
   have HX7:=hide ((g7.block X (heap_lt HX6.out) (by simp;omega)).trans HX6.out)
   clear c7 g7
   have hz2:w7.cell? ⟨X,2,none⟩=some (.bool false):=(cell_of_row w7 X 2 _ _ (0,0) HX7.out).trans rfl
   have hzf:=frozen_of_row w7 X 2 _ _ HX7.out
   have S8:=hide (stB_far S7.out hXb hXne.out (grownBy_store (World.grownBy.refl w7 (some X)) 2 (.bool gb)))
   have HX8:Hid ((w7.setCell ⟨X,2,none⟩ (.bool gb)).heap[X]? = some (.cells #[.string ka,.string ⟨#[]⟩,.bool gb] 145 (0,0))):=(heap_setCell_same _ _ _ _ _ _ HX7.out).trans rfl
   go_wp2_with fail
   generalize w7.setCell ⟨X,2,none⟩ (.bool gb)=w8 at S8 HX8
   refine (CC.out _ S8.out.2.1).mono ?_
   rintro e w9 ⟨rfl,c9,g9⟩
   have S9:=hide (stB_cur S8.out g9 c9)
   have HX9:=hide ((g9.block X (heap_lt HX8.out) (by simp;omega)).trans HX8.out)
   clear c9 g9 hz2 hzf
   have hz1:w9.cell? ⟨X,1,none⟩=some (.string ⟨#[]⟩):=(cell_of_row w9 X 1 _ _ (0,0) HX9.out).trans rfl
   have hzf:=frozen_of_row w9 X 1 _ _ HX9.out
   have S10:=hide (stB_far S9.out hXb hXne.out (grownBy_store (World.grownBy.refl w9 (some X)) 1 (.string va)))
   have HX10:Hid ((w9.setCell ⟨X,1,none⟩ (.string va)).heap[X]? = some (.cells #[.string ka,.string va,.bool gb] 145 (0,0))):=(heap_setCell_same _ _ _ _ _ _ HX9.out).trans rfl
   go_upto_region 12 with fail
   generalize w9.setCell ⟨X,1,none⟩ (.string va)=w10 at S10 HX10
   clear hz1 hzf
   have hz0:w10.cell? ⟨X,0,none⟩=some (.string ka):=(cell_of_row w10 X 0 _ _ (0,0) HX10.out).trans rfl
   have hz1:w10.cell? ⟨X,1,none⟩=some (.string va):=(cell_of_row w10 X 1 _ _ (0,0) HX10.out).trans rfl
   have hz2:w10.cell? ⟨X,2,none⟩=some (.bool gb):=(cell_of_row w10 X 2 _ _ (0,0) HX10.out).trans rfl
   obtain ⟨⟨-,hq1,-,-⟩,-,-⟩:=stB_cells S10.out
   have hw10:w.heap.size+3≤w10.heap.size:=by have:=heap_lt S10.out.2.2.1;omega
   go_wp2_with (at_builtin;refine app_change _ (w.heap.size+3) (by rfl) _ _ (by rfl) v acc ⟨ka,va,gb⟩ (by rfl) (S10.out.2.2.2.1.alloc _) w10.heap.size (by rfl) (heap_alloc_new w10 _) (by omega) (by simp;omega) ?_;intro g11 cap11 w11 ho11 hb11 hg11 hgl11;have B11:Hid (Below (w.heap.size+3) w10 w11):=((Below.refl _ w10).alloc hw10 _).trans hb11;have HO11:=hide ho11;have hn3:=(B11.out.block (w.heap.size+2) (by omega)).trans S10.out.2.2.1;have hn1:w11.cell? ⟨w.heap.size+2,1,none⟩=some v:=(cell_of_row w11 _ 1 _ _ (0,0) hn3).trans rfl;have hn2:=frozen_of_row w11 (w.heap.size+2) 1 _ _ hn3;clear ho11 hb11 hn3)
   go_roundw
   case rel => exact ⟨k+1,j3,d3,_,acc ++ [⟨ka,va,gb⟩],by go_num,by simp [hal],by omega,hsC.1,HRn,by have h:=HO11.out;rw [hal] at h;exact stB_row S10.out B11.out h,HAn⟩
   case measure => simp [intOf];omega
  ·
   have HRL2:Hid (RL=(acc,bad)):=by
    show _=_
    rw [← HR.out]
    cases bad
    · rw [show M - k=0 from by simp at hrun;omega];rfl
    · exact rdF_bad _ _ _ _
   have hcase:((decide ((k:Int) < (n:Int))=false∧decide (k < n)=false)∧¬ k < n) ∨ ((decide ((k:Int) < (n:Int))=true∧decide (k < n)=true)∧decide ((k:Int) < 100)=false∧decide (k < 100)=false) ∨ ((decide ((k:Int) < (n:Int))=true∧decide (k < n)=true)∧(decide ((k:Int) < 100)=true∧decide (k < 100)=true)∧bad=true):=by
    by_cases h1:k < n
    ·
     by_cases h2:k < 100
     ·
      refine .inr (.inr ⟨⟨by simp;omega,by simp;omega⟩,⟨by simp;omega,by simp;omega⟩,?_⟩)
      cases bad
      · exact absurd ⟨by omega,rfl⟩ hrun
      · rfl
     · exact .inr (.inl ⟨⟨by simp;omega,by simp;omega⟩,by simp;omega,by simp;omega⟩)
    · exact .inl ⟨⟨by simp;omega,by simp;omega⟩,h1⟩
   have hrow:=rowChange_own SW.out.2.2.2.1
   obtain ⟨ao,cap,hv,hat⟩:=rowChange_at hrow
   subst hv
   have HAT:=hide hat
   have HROW:=hide hrow
   have HSZ:Hid (∀ A ∈ acc,A.key.size≤1048576∧A.value.size≤1048576):=fun A hA => by have:=HA.out A hA;omega
   clear hat hrow hrun HR HRL
   have hal2:acc.length≤100:=by omega
   have HRO:Hid (rdOk t=(!bad && (textOkD (q:Int) acc && decide (textD (q:Int) acc=t)))):=by show _=_;simp only [rdOk,HRW.out,HRL2.out]
   have HRQ:Hid (rdOk t=true→rdSeq t=(q:Int)∧rdChanges t=acc):=fun h => by simp only [rdSeq,rdChanges,h,HRW.out,HRL2.out];exact ⟨rfl,rfl⟩
   have HRN:Hid (rdOk t=false→rdSeq t=0∧rdChanges t=[]):=fun h => by simp [rdSeq,rdChanges,h]
   have HAL:=hide hal
   obtain ⟨⟨hq0,hq1,-,-⟩,-,-⟩:=stB_cells SW.out
   have CT:=hide (fun W (hW:ChangesAt W ao acc) => specBatchText_any (q:Int) acc ao cap W (by omega) hW HSZ.out)
   obtain ⟨ok,HOK⟩:∃ ok,Hid (textOkD (q:Int) acc=ok):=⟨_,rfl⟩
   obtain ⟨tx,HTX⟩:∃ tx,Hid (textD (q:Int) acc=tx):=⟨_,rfl⟩
   rw [HOK.out,HTX.out] at CT HRO
   clear hal
   cases bad <;> rcases hcase with ⟨⟨hd1,hd1n⟩,hd1p⟩ | ⟨⟨hd1,hd1n⟩,hd2,hd2n⟩ | ⟨⟨hd1,hd1n⟩,⟨hd2,hd2n⟩,⟨⟩⟩
   all_goals
    go_wp2_with fail
    refine (CT.out _ HAT.out).mono ?_
    rintro e w5 ⟨rfl,b5⟩
    have S5:=hide (stB_below SW.out b5)
    have HROW5:=hide (rowChange_below HROW.out b5)
    clear b5
    obtain ⟨⟨hp0,hp1,-,-⟩,⟨hr0,hr1,hrf0,hrf1⟩,hcb5⟩:=stB_cells S5.out
    cases ok <;> by_cases htx:tx=t
   all_goals
    first
    | (have hcmp:=txt_eq htx)
    | (have hcmp:=txt_ne htx)
   all_goals
    first
    | (
      have hno:rdOk t=false:=by
       rw [HRO.out]
       simp [htx]
      have HE:=hide (HRN.out hno)
      have HNO:=hide hno
      clear hno htx HRO HRQ HRN
      go_wp2_with fail
      refine bodyPost_ret (v:=.tuple #[.agg #[.int .i64 0,.slice none 0 0],.bool false]) (by simp [results,Tryz.results77,go_sem,hr0,hr1]) rfl ⟨⟨.slice none 0 0,by rw [HE.out.1,HNO.out],.inl ⟨rfl,HE.out.2⟩⟩,?_⟩
      exact (S5.out.2.2.2.2.setCell (p:=⟨w.heap.size,0,none⟩) (Nat.le_refl _) _).setCell (p:=⟨w.heap.size,1,none⟩) (Nat.le_refl _) _)
    | (
      have hyes:rdOk t=true:=by
       rw [HRO.out]
       simp [htx]
      have HE:=hide (HRQ.out hyes)
      have HYES:=hide hyes
      clear hyes htx HRO HRQ HRN
      go_wp2_with fail
      refine bodyPost_ret (v:=.tuple #[.agg #[.int .i64 (q:Int),.slice ao acc.length cap],.bool true]) (by simp [results,Tryz.results77,go_sem,hr0,hr1]) rfl ⟨⟨.slice ao acc.length cap,by rw [HE.out.1,HYES.out],?_⟩,?_⟩
      ·
       rw [HE.out.2]
       exact rowChange_le (rowChange_grown HROW5.out (grownBy_store (grownBy_store (World.grownBy.refl _ _) 0 _) 1 _) (fun g hg => by have:=(rowChange_lt HROW5.out g hg).1;simp;omega)) (by omega)
      · exact (S5.out.2.2.2.2.setCell (p:=⟨w.heap.size,0,none⟩) (Nat.le_refl _) _).setCell (p:=⟨w.heap.size,1,none⟩) (Nat.le_refl _) _)
    | fail
theorem Tryz.info9:(Tryz.prog.info? 9).map (fun i => (i.zero,i.size,i.bytes))=some (some (.string ⟨#[]⟩),1,16):=by kernel_rfl
theorem app_str {ops:Array Oper} {rest:List Oper} {o:Oper} {a:Act} {Q:Exit→Act→World→Prop} {x:ByteArray} (wr:World) (w:World) (B:Nat) (hgd:o.guard=none) (s y:Operand)
  (ho:o.op=.call { callee:=.builtin .append,args:=#[s,y],argTypes:=#[136,136] }) (v:Value) (l:List (List UInt8)) (hs:a.eval s=v)
  (hown:wr.ownsRow B 9 1 v l.length (l.map sv)) (hx:a.eval y=.slice (some ⟨wr.heap.size,0,none⟩) 1 1)
  (hlen:l.length≤1000000) (hbel:Below B w wr) (hbase:B≤wr.heap.size)
  (h:∀ v' w',w'.ownsRow B 9 1 v' (l ++ [x.data.toList]).length ((l ++ [x.data.toList]).map sv)→Below B w w'→wr.heap.size≤w'.heap.size→wpList Tryz.prog ops Q rest (a.put o.dst v') w') :
  wpList Tryz.prog ops Q (o :: rest) a (wr.alloc (.cells #[.string x] 9)):=by
 obtain ⟨i0,hi,hz0,hz1,hz2⟩:=info_parts Tryz.info9
 have hsz:wr.heap.size≤(wr.alloc (.cells #[.string x] 9)).heap.size:=by simp
 refine wpList_append_own _ hgd s y 136 ho B 9 i0 (.string ⟨#[]⟩) 1 16 Tryz.underlying136 hi hz0 hz1 hz2 rfl (by decide) v l.length (l.map sv) hs (hown.alloc _) ⟨wr.heap.size,0,none⟩ 1 1 [.string x] hx rfl
  (fun j u hj => cells_new wr #[.string x] 9 j u hj) (by intro u hu;simp at hu;subst hu;rfl) (by unfold maxLen;omega) (by omega) (by omega) ?_
 intro v' w' hown' hgrow _
 have hlt:=hown.lt
 have hb1:Below B w (wr.alloc (.cells #[.string x] 9)):=hbel.alloc hbase _
 refine h v' w' ?_ (hb1.grown hgrow (by omega) (fun k hk => (hlt k hk).1)) (Nat.le_trans hsz hgrow.size)
 have e:(l ++ [x.data.toList]).map sv=l.map sv ++ [.string x]:=by
  rw [List.map_append]
  cases x
  simp [sv]
 rw [e,List.length_append]
 exact hown'
def FramesLeft (s:ByteArray) (w:World) (e:Ending) (w':World):Prop :=
 ∃ v,e=.returned (.tuple #[v,.int .i64 (endOf (unf s):Nat)])∧w'.ownsRow w.heap.size 9 1 v (recs s (unf s)).length ((recs s (unf s)).map sv)∧Below w.heap.size w w'
theorem unf_long (s:ByteArray) (h:20000 < s.size):unf s=[]:=by unfold unf;rw [if_neg (by omega)]
theorem unf_in (s:ByteArray) (h:s.size≤20000):unf s=frs s (s.size+1) 0:=by unfold unf;rw [if_pos h]
theorem specUnframe_long (s:ByteArray) (w:World) (hs:s.size≤1048576) (h:20000 < s.size):Calls Tryz.prog 75 #[.string s] w (FramesLeft s w):=by
 have h':decide (20000 < (s.size:Int))=true:=by simp;omega
 have hu:=hide (unf_long s h)
 go_enter Tryz.func75,Tryz.ntmps75
 go_wp2
 go_ret2
 refine ⟨_,by rw [hu.out];rfl,?_,(Below.refl _ _).alloc (Nat.le_refl _) _⟩
 rw [hu.out]
 exact World.ownsRow_lit w #[] 0 (Nat.le_refl _) (by unfold maxLen;omega) (by simp)
theorem frames_done {s:ByteArray} {pre:List (Nat × Nat)} {f i:Nat} (hs:s.size≤20000) (h:frs s (s.size+1) 0=pre ++ frs s f i) (hn:frB s i=none):unf s=pre:=by
 rw [unf_in s hs,h,frs_none s f i hn,List.append_nil]
theorem frames_left {s:ByteArray} {w wr:World} {v:Value} {pre:List (Nat × Nat)} {i:Int} (hu:unf s=pre) (hi:i=(endOf pre:Nat)) (hown:wr.ownsRow w.heap.size 9 1 v (recs s pre).length ((recs s pre).map sv)) (hb:Below w.heap.size w wr) :
  FramesLeft s w (.returned (.tuple #[v,.int .i64 i])) wr:=by
 subst hi hu
 exact ⟨v,rfl,hown,hb⟩
theorem specUnframe_in (s:ByteArray) (w:World) (hs:s.size≤20000):Calls Tryz.prog 75 #[.string s] w (FramesLeft s w):=by
 have h':decide (20000 < (s.size:Int))=false:=by simp;omega
 go_enter Tryz.func75,Tryz.ntmps75
 go_wp2
 go_loopw [4,5] (fun o a wr => ∃ (pre:List (Nat × Nat)) (f i:Nat),a=.int .i64 i∧i≤s.size∧Hid ((i:Int)=(endOf pre:Nat))∧Hid (frs s (s.size+1) 0=pre ++ frs s f i)∧s.size < f+i∧(recs s pre).length≤20001∧wr.ownsRow w.heap.size 9 1 o (recs s pre).length ((recs s pre).map sv)∧Below w.heap.size w wr) (fun _ a _ => s.size - (intOf a).toNat)
 case atStart =>
  exact ⟨[],s.size+1,0,rfl,Nat.zero_le _,rfl,rfl,by omega,by simp [recs],World.ownsRow_lit w #[] 0 (Nat.le_refl _) (by unfold maxLen;omega) (by simp),(Below.refl _ _).alloc (Nat.le_refl _) _⟩
 case round =>
  obtain ⟨pre,f,i,rfl,hi,hend,hall,hfuel,hpl,hown,hb⟩:=hrel
  have hbs:=hb.size
  by_cases hlt:i < s.size
  ·
   cases hr:Wd.rv s i with
   | none =>
    have hdone:=hide (frames_done hs hall.out (frB_num s i hr))
    have hread:=hide (fun W => specRead_none s (i:Int) W (by omega) (by unfold Wd.rvI;rw [if_neg (by omega),Int.toNat_natCast];exact hr))
    clear hr
    go_wp2_with (first | (go_at_call 107;refine (hread.out _).mono ?_;rintro e w1 ⟨rfl,b1⟩))
    go_ret2
    exact frames_left hdone.out hend.out (ownsRow_below hown b1) (hb.trans (b1.mono hbs))
   | some q =>
    obtain ⟨n,p⟩:=q
    have hbd:=Wd.rv_bounds s i n p hr
    have hread:=hide (fun W => specRead_some s (i:Int) W n p (by omega) (by unfold Wd.rvI;rw [if_neg (by omega),Int.toNat_natCast];exact hr))
    by_cases c3:p+4+n≤s.size
    ·
     have hle:decide ((s.size:Int) - (p:Int) - 4 < (n:Int))=false:=by simp;omega
     obtain ⟨R,hR⟩:∃ R,s.extract (p+4) (p+4+n)=R:=⟨_,rfl⟩
     obtain ⟨T,hTx⟩:∃ T,s.extract i (p+4+n)=T:=⟨_,rfl⟩
     have hRz:R.size=n:=by rw [← hR,ByteArray.size_extract];omega
     have hcut1:=cut_at s (p+4) (p+4+n) ((p:Int)+4) ((p:Int)+4+n) R (by omega) (by omega) (by omega) c3 hR
     have hcut2:=cut_at s i (p+4+n) (i:Int) ((p:Int)+4+n) T rfl (by omega) (by omega) c3 hTx
     have htest:=frame_test s i n p hr c3
     rw [hR,hTx] at htest
     by_cases c12:1≤n∧n≤9000
     ·
      have hF:=hide (fun W => specFrame_yes R W (by omega) (by omega))
      by_cases c4:frameB R=T
      ·
       have hfr:=frB_yes s i n p hr ⟨c12.1,c12.2,c3,by rw [hR];exact htest.1 c4⟩
       have hsame:=txt_eq c4
       cases f with
       | zero => omega
       | succ f =>
        have hall':=hide (show frs s (s.size+1) 0=(pre ++ [(p+4,p+4+n)]) ++ frs s f (p+4+n) by rw [hall.out,frs_some s f i _ hfr,List.append_assoc];rfl)
        have hrec:=hide (recs_snoc s pre (p+4,p+4+n))
        have HR:=hide hR
        have hlen':(pre ++ [(p+4,p+4+n)]).length≤s.size+1:=by
         have e:=congrArg List.length hall'.out
         rw [List.length_append] at e
         have:=frs_len s (s.size+1) 0
         omega
        clear hr htest c4 hR hTx hfr
        go_wp2_with (first | (go_at_call 107;refine (hread.out _).mono ?_;rintro e w1 ⟨rfl,b1⟩) | (go_at_call 43;refine (hF.out _).mono ?_;rintro e w2 ⟨rfl,b2⟩;have bb:=hb.trans (b1.mono hbs)) | (at_builtin;refine app_str _ w w.heap.size rfl _ _ rfl _ (recs s pre) rfl (ownsRow_below (ownsRow_below hown b1) b2) rfl (by omega) (bb.trans (b2.mono bb.size)) (Nat.le_trans bb.size b2.size) ?_;intro v' w4 hown4 hb4 hs4))
        go_roundw
        case rel =>
         refine ⟨pre ++ [(p+4,p+4+n)],f,p+4+n,by go_num,c3,?_,hall',by omega,by rw [recs_len];omega,?_,hb4⟩
         · rw [endOf_snoc];rfl
         · rw [hrec.out,HR.out];exact hown4
        case measure => simp [intOf];omega
      ·
       have hfr:=frB_no s i n p hr (fun hc => c4 (htest.2 (by have:=hc.2.2.2;rw [hR] at this;exact this)))
       have hdone:=hide (frames_done hs hall.out hfr)
       have hsame:=txt_ne c4
       clear hr htest c4 hR hTx hfr
       go_wp2_with (first | (go_at_call 107;refine (hread.out _).mono ?_;rintro e w1 ⟨rfl,b1⟩) | (go_at_call 43;refine (hF.out _).mono ?_;rintro e w2 ⟨rfl,b2⟩;have bb:=hb.trans (b1.mono hbs)))
       go_ret2
       exact frames_left hdone.out hend.out (ownsRow_below (ownsRow_below hown b1) b2) (bb.trans (b2.mono bb.size))
     ·
      have hfr:=frB_no s i n p hr (fun hc => c12 ⟨hc.1,hc.2.1⟩)
      have hdone:=hide (frames_done hs hall.out hfr)
      have hF:=hide (fun W => specFrame_no R W (by omega))
      clear hr htest hR hTx hfr
      go_wp2_with (first | (go_at_call 107;refine (hread.out _).mono ?_;rintro e w1 ⟨rfl,b1⟩) | (go_at_call 43;refine (hF.out _).mono ?_;rintro e w2 ⟨rfl,rfl⟩))
      go_ret2
      exact frames_left hdone.out hend.out (ownsRow_below hown b1) (hb.trans (b1.mono hbs))
    ·
     have hle:decide ((s.size:Int) - (p:Int) - 4 < (n:Int))=true:=by simp;omega
     have hdone:=hide (frames_done hs hall.out (frB_no s i n p hr (fun hc => c3 hc.2.2.1)))
     clear hr
     go_wp2_with (first | (go_at_call 107;refine (hread.out _).mono ?_;rintro e w1 ⟨rfl,b1⟩))
     go_ret2
     exact frames_left hdone.out hend.out (ownsRow_below hown b1) (hb.trans (b1.mono hbs))
  ·
   have hdone:=hide (frames_done hs hall.out (frB_num s i (Wd.rv_at_end s i (by omega))))
   go_wp2
   go_ret2
   exact frames_left hdone.out hend.out hown hb
theorem specUnframe_any (s:ByteArray) (w:World) (hs:s.size≤1048576):Calls Tryz.prog 75 #[.string s] w (FramesLeft s w):=by
 by_cases h:s.size≤20000
 · exact specUnframe_in s w h
 · exact specUnframe_long s w hs (by omega)
end Go.Proofs.YtepdckehokdjlaaGreatDoor
