import Derived.Deep.RegionHeld3
import Derived.Laws.MakeOwn
import Derived.Test.YtbenmgokhklnjaaGreatDoorTb0
import Derived.Test.YtbenmgokhklnjaaGreatDoorTb19
import Derived.Test.YtbenmgokhklnjaaGreatDoorTb10
import Derived.Test.YtbenmgokhklnjaaGreatDoorTb16
set_option maxRecDepth 100000
set_option maxHeartbeats 3200000
namespace Go.Proofs.YtbenmgokhklnjaaGreatDoor
open Go.RowKit
def TextsAt (w:World) (ao:Option Addr) (ts:List ByteArray):Prop:=∀ j (h:j < ts.length),∃ b off:Nat,ao=some ⟨b,off,none⟩∧b < w.heap.size∧w.cell? ⟨b,off+j,none⟩=some (.string ts[j])
theorem textsAt_keep {w w':World} {ao:Option Addr} {ts:List ByteArray} (h:TextsAt w ao ts) (hb:Below w.heap.size w w'):TextsAt w' ao ts:=by
 intro j hj
 obtain ⟨b,off,h1,h2,h3⟩:=h j hj
 exact ⟨b,off,h1,Nat.lt_of_lt_of_le h2 hb.size,(hb.cell (p:=⟨b,off+j,none⟩) h2).trans h3⟩
def TextsIn (C:Array Value) (ts:List ByteArray) (k:Nat):Prop:=∀ j (h:j < ts.length),j < k→C[j]? = some (.string ts[j])
theorem textsIn_put {C:Array Value} {ts:List ByteArray} {k:Nat} (h:TextsIn C ts k) (hk:k < ts.length) (hs:ts.length≤C.size):TextsIn (C.setIfInBounds k (.string ts[k])) ts (k+1):=by
 intro j hj hjk
 by_cases e:j=k
 ·
  subst e
  simp [Array.getElem?_setIfInBounds]
  omega
 ·
  rw [Array.getElem?_setIfInBounds_ne (by omega)]
  exact h j hj (by omega)
theorem textsAt_in {w:World} {g:Nat} {C:Array Value} {t:TypeId} {ts:List ByteArray} (h:w.heap[g]? = some (.cells C t (0,0))) (hC:TextsIn C ts ts.length):TextsAt w (some ⟨g,0,none⟩) ts:=by
 intro j hj
 refine ⟨g,0,rfl,(Array.getElem?_eq_some_iff.1 h).1,?_⟩
 rw [Nat.zero_add,cell_of_row w g _ C t (0,0) h]
 exact hC j hj hj
def RowText (w:World) (B:Nat) (v:Value) (ts:List ByteArray):Prop:=(v=.slice none 0 0∧ts=[]) ∨
 ∃ (g cap:Nat) (C:Array Value),v=.slice (some ⟨g,0,none⟩) ts.length cap∧B≤g∧w.heap[g]? = some (.cells C 9 (0,0))∧ts.length≤C.size∧TextsIn C ts ts.length
theorem rowText_at {w:World} {B:Nat} {v:Value} {ts:List ByteArray} (h:RowText w B v ts):∃ ao cap,v=.slice ao ts.length cap∧TextsAt w ao ts:=by
 rcases h with ⟨rfl,rfl⟩ | ⟨g,cap,C,rfl,_,hC,_,hI⟩
 · exact ⟨none,0,rfl,fun j hj => absurd hj (by simp)⟩
 · exact ⟨_,cap,rfl,textsAt_in hC hI⟩
theorem rowText_lt {w:World} {B:Nat} {v:Value} {ts:List ByteArray} (h:RowText w B v ts):∀ g,v.ownBlock=some g→B≤g∧g < w.heap.size:=by
 rcases h with ⟨rfl,rfl⟩ | ⟨g,cap,C,rfl,hB,hC,_,hI⟩
 · intro g h;cases h
 ·
  intro g' h
  obtain rfl:g=g':=by simpa [Value.ownBlock] using h
  exact ⟨hB,(Array.getElem?_eq_some_iff.1 hC).1⟩
theorem rowText_keep {w w':World} {B:Nat} {v:Value} {ts:List ByteArray} (h:RowText w B v ts) (hk:∀ g,v.ownBlock=some g→w'.heap[g]? = w.heap[g]?):RowText w' B v ts:=by
 rcases h with ⟨rfl,rfl⟩ | ⟨g,cap,C,rfl,hB,hC,hs,hI⟩
 · exact .inl ⟨rfl,rfl⟩
 · exact .inr ⟨g,cap,C,rfl,hB,(hk g rfl).trans hC,hs,hI⟩
theorem rowText_below {w w':World} {B:Nat} {v:Value} {ts:List ByteArray} (h:RowText w B v ts) (hb:Below w.heap.size w w'):RowText w' B v ts :=
 rowText_keep h (fun g hg => hb.block g (rowText_lt h g hg).2)
theorem rowText_le {w:World} {B B':Nat} {v:Value} {ts:List ByteArray} (h:RowText w B v ts) (hB:B'≤B):RowText w B' v ts:=by
 rcases h with h | ⟨g,cap,C,h1,h2,h3⟩
 · exact .inl h
 · exact .inr ⟨g,cap,C,h1,by omega,h3⟩
theorem rowText_rows {w:World} {B n c:Nat} {a:Option Addr} {ts:List ByteArray} (h:RowText w B (.slice a n c) ts):TextsAt w a ts:=by
 obtain ⟨ao,cap,e,hf⟩:=rowText_at h
 cases e
 exact hf
theorem rowText_one {w:World} {B:Nat} {x:Value} {ts:List ByteArray} (h:RowText w B x ts):x.oneCell' = true:=by
 obtain ⟨a,c,rfl,-⟩:=rowText_at h
 rfl
theorem take_getText {C:Array Value} {xs:List Value} {n:Nat} (h:C.toList.take n=xs) {j:Nat} {u:Value} (hj:j < n) (hu:xs[j]? = some u):C[j]? = some u:=by
 rw [← h,List.getElem?_take_of_lt hj] at hu
 simpa using hu
theorem rowText_own {w:World} {B:Nat} {v:Value} {ts:List ByteArray} (h:w.ownsRow B 9 1 v ts.length (ts.map Value.string)):RowText w B v ts:=by
 rcases h.2 with ⟨rfl,hn⟩ | ⟨g,cap,cur,rfl,hB,hC,hle,_,hs,ht⟩
 · exact .inl ⟨rfl,List.eq_nil_of_length_eq_zero hn⟩
 ·
  refine .inr ⟨g,cap,cur,rfl,hB,hC,by omega,?_⟩
  intro j hj _
  exact take_getText ht (by omega) (by simp [hj])
theorem text_block {w:World} {B:Nat} {x:Value} {ts:List ByteArray} (h:RowText w B x ts) {g:Nat} (hg:x.ownBlock=some g):∃ C,w.heap[g]? = some (.cells C 9 (0,0)):=by
 rcases h with ⟨rfl,rfl⟩ | ⟨g',cap,C,rfl,_,hC,_⟩
 · cases hg
 ·
  obtain rfl:g' = g:=by simpa [Value.ownBlock] using hg
  exact ⟨C,hC⟩
theorem Tryz.infoText:(Tryz.prog.info? 9).map (fun i => (i.zero,i.size,i.bytes))=some (some (.string ⟨#[]⟩),1,16):=by kernel_rfl
theorem texts_one (ts:List ByteArray):∀ u ∈ ts.map Value.string,u.oneCell' = true:=by
 intro u hu
 obtain ⟨b,_,rfl⟩:=List.mem_map.1 hu
 rfl
theorem app_txt {ops:Array Oper} {rest:List Oper} {o:Oper} {a:Act} {Q:Exit→Act→World→Prop} (W:World) (B:Nat) (hgd:o.guard=none) (s y:Operand)
  (ho:o.op=.call { callee:=.builtin .append,args:=#[s,y],argTypes:=#[49,49] }) (v:Value) (l:List ByteArray) (F:ByteArray) (hs:a.eval s=v)
  (hown:W.ownsRow B 9 1 v l.length (l.map Value.string)) (k:Nat) (hx:a.eval y=.slice (some ⟨k,0,none⟩) 1 1) (hblk:W.heap[k]? = some (.cells #[.string F] 9 (0,0)))
  (hlen:l.length≤1048576) (hbase:B≤W.heap.size)
  (h:∀ g cap w',w'.ownsRow B 9 1 (.slice (some ⟨g,0,none⟩) (l.length+1) cap) (l ++ [F]).length ((l ++ [F]).map Value.string)→Below B W w'→W.grownBy w' v.ownBlock→B≤g→g < w'.heap.size→wpList Tryz.prog ops Q rest (a.put o.dst (.slice (some ⟨g,0,none⟩) (l.length+1) cap)) w') :
  wpList Tryz.prog ops Q (o :: rest) a W:=by
 obtain ⟨i0,hi,hz0,hz1,hz2⟩:=info_parts Tryz.infoText
 refine wpList_append_lies W hgd s y 49 ho B 9 i0 (.string ⟨#[]⟩) 1 16 Tryz.underlying49 hi hz0 hz1 hz2 rfl (by decide) v l.length (l.map Value.string) hs hown ⟨k,0,none⟩ 1 1 ([F].map Value.string) hx rfl
  (fun j u hj => World.news_of_block hblk j u hj) (texts_one [F]) (by omega) (by unfold maxLen;omega) (by omega) hbase W.heap.size rfl ?_
 intro g cap w' hown' hgrow hg hgl
 have hlt:=hown.lt
 refine h g cap w' ?_ ((Below.refl B W).grown hgrow hbase (fun k hk => (hlt k hk).1)) hgrow ?_ hgl
 ·
  rw [List.map_append,List.length_append]
  exact hown'
 ·
  rcases hg with hg | rfl
  · exact (hlt g hg).1
  · exact hbase
theorem step_app_txt {ops:Array Oper} {o:Oper} {a:Act} {K:Act→World→Prop} {Q:Exit→Act→World→Prop} {E:Prop} (W:World) (B:Nat) (hgd:o.guard=none) (s y:Operand)
  (ho:o.op=.call { callee:=.builtin .append,args:=#[s,y],argTypes:=#[49,49] }) (v:Value) (l:List ByteArray) (F:ByteArray) (hs:a.eval s=v)
  (hown:W.ownsRow B 9 1 v l.length (l.map Value.string)) (k:Nat) (hx:a.eval y=.slice (some ⟨k,0,none⟩) 1 1) (hblk:W.heap[k]? = some (.cells #[.string F] 9 (0,0)))
  (hlen:l.length≤1048576) (hbase:B≤W.heap.size)
  (h:∀ g cap w',w'.ownsRow B 9 1 (.slice (some ⟨g,0,none⟩) (l.length+1) cap) (l ++ [F]).length ((l ++ [F]).map Value.string)→Below B W w'→W.grownBy w' v.ownBlock→B≤g→g < w'.heap.size→K (a.put o.dst (.slice (some ⟨g,0,none⟩) (l.length+1) cap)) w') :
  if Region.wanted o (yielded ops a.tmps)=true then Oper.wp Tryz.prog o a W K Q else E:=by
 obtain ⟨i0,hi,hz0,hz1,hz2⟩:=info_parts Tryz.infoText
 refine step_append_lies W hgd s y 49 ho B 9 i0 (.string ⟨#[]⟩) 1 16 Tryz.underlying49 hi hz0 hz1 hz2 rfl (by decide) v l.length (l.map Value.string) hs hown ⟨k,0,none⟩ 1 1 ([F].map Value.string) hx rfl
  (fun j u hj => World.news_of_block hblk j u hj) (texts_one [F]) (by omega) (by unfold maxLen;omega) (by omega) hbase W.heap.size rfl ?_
 intro g cap w' hown' hgrow hg hgl
 have hlt:=hown.lt
 refine h g cap w' ?_ ((Below.refl B W).grown hgrow hbase (fun k hk => (hlt k hk).1)) hgrow ?_ hgl
 ·
  rw [List.map_append,List.length_append]
  exact hown'
 ·
  rcases hg with hg | rfl
  · exact (hlt g hg).1
  · exact hbase
theorem isSegmentBelow_any (m:Nat) (nm:ByteArray) (w:World) (hm:m≤100) :
  Calls Tryz.prog 113 #[.int .i64 (m:Int),.string nm] w fun e w' => e=.returned (.bool (isBelow m nm))∧w' = w:=by
 obtain ⟨R,HR⟩:∃ R,Hid (isBelow m nm=R):=⟨_,hide rfl⟩
 rw [HR.out]
 go_enter Tryz.func113,Tryz.ntmps113
 go_wp2_with fail
 go_loopw [7] (fun ii wr => ∃ (k:Nat),ii=.int .i64 k∧k≤m∧Hid (isBelow k nm=false)∧wr=w) (fun ii _ => m - (intOf ii).toNat)
 case atStart => exact ⟨0,rfl,Nat.zero_le _,rfl,rfl⟩
 case round =>
  obtain ⟨k,rfl,hk,HK,rfl⟩:=hrel
  by_cases hlt:k < m
  ·
   have hlt':decide ((k:Int) < (m:Int))=true:=by simp;omega
   obtain ⟨X,HX⟩:∃ X,Hid (segNm (k:Int)=X):=⟨_,hide rfl⟩
   have HN:Hid (∀ W:World,Calls Tryz.prog 114 #[.int .i64 (k:Int)] W fun e w' => e=.returned (.string X)∧w' = W):=fun W => by rw [← HX.out];exact implSegName_any (k:Int) W
   cases hb:(X.toList == nm.toList) with
   | true =>
    have hE:Hid (R=true):=by show _=_;rw [← HR.out];exact isBelow_at hlt (by rw [HX.out];exact hb)
    go_wp2_with fail
    refine (HN.out _).mono ?_
    rintro e w1 ⟨rfl,rfl⟩
    go_wp2
    go_ret
    rw [hE.out]
    exact ⟨rfl,rfl⟩
   | false =>
    have hE:Hid (isBelow (k+1) nm=false):=by show _=_;rw [isBelow_succ,HK.out,HX.out,hb];rfl
    go_wp2_with fail
    refine (HN.out _).mono ?_
    rintro e w1 ⟨rfl,rfl⟩
    go_wp2
    go_roundw
    case rel => exact ⟨k+1,by go_num,by omega,hE,by first | rfl | trivial⟩
    case measure => simp [intOf];omega
  ·
   have hlt':decide ((k:Int) < (m:Int))=false:=by simp;omega
   have hke:k=m:=by omega
   subst hke
   have hE:Hid (R=false):=by show _=_;rw [← HR.out];exact HK.out
   go_wp2
   go_ret
   rw [hE.out]
   exact ⟨rfl,rfl⟩
theorem seven_cells {W:World} {g:Nat} {a b c d e f f':Value} {t:TypeId} (h:W.heap[g]? = some (.cells #[a,b,c,d,e,f,f'] t (0,0))):W.cell? ⟨g,0,none⟩=some a∧W.cell? ⟨g,1,none⟩=some b∧W.cell? ⟨g,2,none⟩=some c∧W.cell? ⟨g,3,none⟩=some d∧W.cell? ⟨g,4,none⟩=some e∧W.cell? ⟨g,5,none⟩=some f∧W.cell? ⟨g,6,none⟩=some f' :=
 ⟨(cell_of_row W g 0 _ _ (0,0) h).trans rfl,(cell_of_row W g 1 _ _ (0,0) h).trans rfl,(cell_of_row W g 2 _ _ (0,0) h).trans rfl,(cell_of_row W g 3 _ _ (0,0) h).trans rfl,(cell_of_row W g 4 _ _ (0,0) h).trans rfl,(cell_of_row W g 5 _ _ (0,0) h).trans rfl,(cell_of_row W g 6 _ _ (0,0) h).trans rfl⟩
theorem lastOf_any (l:List SegD) (v:Value) (B K:Nat) (w:World) (hl:l.length≤100) (h0:0 < l.length) (h:BuildG w B K v l) :
  Calls Tryz.prog 90 #[v] w fun e w' => (∃ a c a' c',e=.returned (.agg #[.int .i64 ((l[l.length - 1]'(by omega)).num:Int),.int .i64 ((l[l.length - 1]'(by omega)).frm:Int),.slice a (l[l.length - 1]'(by omega)).bs.length c,.slice a' (l[l.length - 1]'(by omega)).pls.length c',.int .i64 ((l[l.length - 1]'(by omega)).fin:Int),.bool (l[l.length - 1]'(by omega)).right,.bool (l[l.length - 1]'(by omega)).torn])∧RowBatch w K (.slice a (l[l.length - 1]'(by omega)).bs.length c) (l[l.length - 1]'(by omega)).bs)∧Below w.heap.size w w':=by
 obtain ⟨ao,cap,rfl⟩:=buildG_form h
 obtain ⟨g,hg,hgw,hc0,hc1,⟨a,c,hc2,hrb⟩,⟨a',c',hc3,hrp⟩,hc4,hc5,hc6⟩:=buildG_at h (l.length - 1) (by omega)
 subst hg
 have HRB:=hide hrb
 clear hrb hrp h
 generalize l[l.length - 1]'(by omega)=F at hc0 hc1 hc2 hc3 hc4 hc5 hc6 HRB
 have hj0:(0:Int)≤(l.length:Int) - 1:=by omega
 have hj1:(l.length:Int) - 1 < (l.length:Int):=by omega
 have hjn:((l.length:Int) - 1).toNat=l.length - 1:=by omega
 have hjw:IntKind.i64.wrap ((l.length:Int) - 1)=(l.length:Int) - 1:=by rw [IntKind.wrap_i64];omega
 go_enter Tryz.func90,Tryz.ntmps90
 go_wp2
 obtain ⟨y0,y1,y2,y3,y4,y5,y6⟩:=seven_cells (heap_alloc_new w (.cells #[.int .i64 (F.num:Int),.int .i64 (F.frm:Int),.slice a F.bs.length c,.slice a' F.pls.length c',.int .i64 (F.fin:Int),.bool F.right,.bool F.torn] 162))
 refine bodyPost_ret (v:=.agg #[.int .i64 (F.num:Int),.int .i64 (F.frm:Int),.slice a F.bs.length c,.slice a' F.pls.length c',.int .i64 (F.fin:Int),.bool F.right,.bool F.torn]) ?_ rfl ?_
 · simp [results,Tryz.results90,go_sem,y0,y1,y2,y3,y4,y5,y6]
 · exact ⟨⟨a,c,a',c',rfl,HRB.out⟩,(Below.refl _ w).alloc (Nat.le_refl _) _⟩
theorem newFileActs_any (nm:ByteArray) (ts:List ByteArray) (ao:Option Addr) (cap:Nat) (w:World) (hl:ts.length≤1000000) (hts:TextsAt w ao ts) :
  Calls Tryz.prog 116 #[.string nm,.slice ao ts.length cap] w fun e w' => (∃ a c,e=.returned (.slice a (ts.length+2) c)∧w'.ownsRow w.heap.size 177 4 (.slice a (ts.length+2) c) (newsA nm ts).length (cellsAct (newsA nm ts)))∧Below w.heap.size w w':=by
 have HTS:=hide hts
 clear hts
 go_enter Tryz.func116,Tryz.ntmps116
 go_wp2_with fail
 go_loopw [5,10] (fun vo ii wr => ∃ (k:Nat),ii=.int .i64 k∧k≤ts.length∧Hid (wr.ownsRow w.heap.size 177 4 vo ((ts.take k).map addA).length (cellsAct ((ts.take k).map addA)))∧Hid (Below w.heap.size w wr)) (fun _ ii _ => ts.length - (intOf ii).toNat)
 case atStart => exact ⟨0,rfl,Nat.zero_le _,World.ownsRow_nil _ _ _ _,Below.refl _ _⟩
 case round =>
  obtain ⟨k,rfl,hk,HO,HB⟩:=hrel
  have hws:=HB.out.size
  by_cases hlt:k < ts.length
  ·
   have hlt':decide ((k:Int) < (ts.length:Int))=true:=by simp;omega
   have hi0:(0:Int)≤(k:Int):=by omega
   have hi1:(k:Int) < (ts.length:Int):=by omega
   obtain ⟨b,off,hab,hbw,hc0⟩:=textsAt_keep HTS.out HB.out k hlt
   have htk:=hide (List.take_succ_eq_append_getElem hlt)
   generalize ts[k]=T at hc0 htk
   subst hab
   obtain ⟨L,HL⟩:∃ L,Hid ((ts.take k).map addA=L):=⟨_,hide rfl⟩
   have hLl:L.length≤1048576:=by
    rw [← HL.out,List.length_map,List.length_take]
    omega
   rw [HL.out] at HO
   go_wp2_with fail
   refine (ownText_any ⟨#[109,43]⟩ _ (by decide)).mono ?_
   rintro e w3 ⟨rfl,b3⟩
   have B3:=hide b3
   have hw3:=b3.size
   clear b3
   go_wp2_with (at_builtin;refine app_act _ w.heap.size (by rfl) _ _ (by rfl) _ L (addA T) (by rfl) ((ownsRow_below HO.out B3.out).alloc _) w3.heap.size (by rfl) (heap_alloc_new w3 _) hLl (by simp;omega) ?_;intro g5 cap5 w5 ho5 hb5 hg5 hgl5;have HO5:=hide ho5;have HB5:=hide hb5;clear ho5 hb5 hg5 hgl5)
   go_roundw
   case rel =>
    refine ⟨k+1,by go_num,by omega,?_,((HB.out.trans (B3.out.mono hws)).alloc (by omega) _).trans HB5.out⟩
    show World.ownsRow _ _ _ _ _ _ _
    rw [htk.out,List.map_append,HL.out]
    exact HO5.out
   case measure => simp [intOf];omega
  ·
   have hlt':decide ((k:Int) < (ts.length:Int))=false:=by simp;omega
   have hke:k=ts.length:=by omega
   subst hke
   rw [List.take_length] at HO
   obtain ⟨L,HL⟩:∃ L,Hid (ts.map addA=L):=⟨_,hide rfl⟩
   have hLl:L.length≤1048576:=by
    rw [← HL.out,List.length_map]
    omega
   have hLe:Hid (L.length=ts.length):=by show _=_;rw [← HL.out,List.length_map]
   rw [HL.out] at HO
   have HE:Hid (newsA nm ts=L ++ [⟨2,nmNew,⟨#[]⟩,⟨#[]⟩⟩,⟨3,nmNew,⟨#[]⟩,nm⟩]):=by show _=_;unfold newsA;rw [HL.out]
   go_wp2_with fail
   refine (ownText_any ⟨#[109,43]⟩ _ (by decide)).mono ?_
   rintro e w3 ⟨rfl,b3⟩
   have B3:=hide b3
   have hw3:=b3.size
   clear b3
   go_wp2_with fail
   refine (ownText_any ⟨#[109,43]⟩ _ (by decide)).mono ?_
   rintro e w4 ⟨rfl,b4⟩
   have B4:=hide (B3.out.trans (b4.mono B3.out.size))
   have hw4:=b4.size
   clear b4
   go_wp2_with (at_builtin;refine app_acts _ w.heap.size (by rfl) _ _ (by rfl) _ L [⟨2,nmNew,⟨#[]⟩,⟨#[]⟩⟩,⟨3,nmNew,⟨#[]⟩,nm⟩] (by rfl) ((ownsRow_below HO.out B4.out).alloc _) w4.heap.size 2 (by rfl) (by rfl) (heap_alloc_new w4 _) hLl (by omega) (by omega) (by simp;omega) ?_;intro g5 cap5 w5 ho5 hb5 hg5 hgl5;have HO5:=hide ho5;have HB5:=hide hb5;clear ho5 hb5 hg5 hgl5)
   rw [hLe.out] at HO5 ⊢
   go_ret
   rw [HE.out]
   exact ⟨⟨_,_,rfl,HO5.out⟩,((HB.out.trans (B4.out.mono hws)).alloc (by omega) _).trans HB5.out⟩
theorem newFileActs_one (nm text:ByteArray) (k:Nat) (w:World) (hk:k < w.heap.size) (hc:w.cell? ⟨k,0,none⟩=some (.string text)) :
  Calls Tryz.prog 116 #[.string nm,.slice (some ⟨k,0,none⟩) 1 1] w fun e w' => (∃ a c,e=.returned (.slice a 3 c)∧w'.ownsRow w.heap.size 177 4 (.slice a 3 c) (newA nm text).length (cellsAct (newA nm text)))∧Below w.heap.size w w' :=
 newFileActs_any nm [text] (some ⟨k,0,none⟩) 1 w (by simp) (fun j hj => by
  have hj0:j=0:=by simp at hj;omega
  subst hj0
  exact ⟨k,0,rfl,hk,hc⟩)
theorem mendingActs_any (fs:List FileD) (ao:Option Addr) (cap:Nat) (v:Value) (B K:Nat) (w:World) (hl:fs.length≤1048576) (hfs:FilesAt w ao fs) (hsz:∀ F ∈ fs,F.name.size≤1048576∧F.text.size≤1048576) (h0:0 < (segsL fs).length) (hG:BuildG w B K v (segsL fs)) :
  Calls Tryz.prog 88 #[.agg #[.slice ao fs.length cap],v] w fun e w' => (∃ v,e=.returned v∧w'.ownsRow w.heap.size 177 4 v (actsI fs).length (cellsAct (actsI fs)))∧Below w.heap.size w w':=by
 obtain ⟨a1,c1,rfl⟩:=buildG_form hG
 have HF:=hide hfs
 have HS:=hide hsz
 have HG:=hide hG
 have hll:=segsL_len fs
 clear hfs hsz hG
 obtain ⟨wb,hwb⟩:∃ wb,wb=w.alloc (.cells #[.slice ao fs.length cap] 34):=⟨_,rfl⟩
 have HB0:Hid (Below w.heap.size w wb):=by rw [hwb];exact (Below.refl _ w).alloc (Nat.le_refl _) _
 have hbs:w.heap.size+1≤wb.heap.size:=by rw [hwb];simp
 have hbc:wb.cell? ⟨w.heap.size,0,none⟩=some (.slice ao fs.length cap):=by rw [hwb];exact (cell_of_row _ _ 0 _ _ (0,0) (heap_alloc_new w _)).trans rfl
 go_enter Tryz.func88,Tryz.ntmps88
 go_wp2_with fail
 rw [← hwb]
 clear hwb
 obtain ⟨l,HLL⟩:∃ l,Hid (segsL fs=l):=⟨_,hide rfl⟩
 rw [HLL.out] at HG h0 hll
 rw [HLL.out]
 obtain ⟨m,HM⟩:∃ m,Hid (firstG fs=m):=⟨_,hide rfl⟩
 have hm0:Hid (l[0].num=m):=by
  show _=_
  rw [← HM.out]
  unfold firstG
  rw [HLL.out,List.head?_eq_getElem?,List.getElem?_eq_getElem h0]
  rfl
 have hm1:m≤100:=by
  have:=(segsTo_mem (segsL_mem (fs:=fs) (s:=l[0]) (by rw [HLL.out];exact List.getElem_mem h0))).1
  have:=hm0.out
  omega
 obtain ⟨g0,hg0,hgw0,hz0,-⟩:=buildG_at HG.out 0 h0
 subst hg0
 have HZ0:Hid (w.cell? ⟨g0,0,none⟩=some (.int .i64 (m:Int))):=by show _=_;rw [← hm0.out];simpa using hz0
 clear hz0
 have hs0:(0:Int) < (l.length:Int):=by omega
 go_wp2_with fail
 go_loopw [5,15] (fun vo ii wr => ∃ (k:Nat),ii=.int .i64 k∧k≤fs.length∧Hid (wr.ownsRow wb.heap.size 177 4 vo (dropsI m (fs.take k)).length (cellsAct (dropsI m (fs.take k))))∧Hid (Below wb.heap.size wb wr)) (fun _ ii _ => fs.length - (intOf ii).toNat)
 case atStart => exact ⟨0,rfl,Nat.zero_le _,World.ownsRow_nil _ _ _ _,Below.refl _ _⟩
 case round =>
  obtain ⟨k,rfl,hk,HO,HB⟩:=hrel
  have hws:=HB.out.size
  have HBw:Hid (Below w.heap.size w wr):=HB0.out.trans (HB.out.mono HB0.out.size)
  by_cases hlt:k < fs.length
  ·
   have hlt':decide ((k:Int) < (fs.length:Int))=true:=by simp;omega
   have hi0:(0:Int)≤(k:Int):=by omega
   have hi1:(k:Int) < (fs.length:Int):=by omega
   obtain ⟨b,off,hab,hbw,hc0,hc1,hc2⟩:=filesAt_keep HF.out HBw.out k hlt
   have HX:=(HS.out fs[k] (List.getElem_mem hlt)).1
   have htk:=hide (List.take_succ_eq_append_getElem hlt)
   generalize fs[k]=F at hc0 hc1 hc2 HX htk
   subst hab
   obtain ⟨L,HL⟩:∃ L,Hid (dropsI m (fs.take k)=L):=⟨_,hide rfl⟩
   have hLl:L.length≤1048576:=by
    rw [← HL.out]
    have:=dropsI_len m (fs.take k)
    rw [List.length_take] at this
    omega
   rw [HL.out] at HO
   obtain ⟨wX,hwX⟩:∃ x,x=wr.alloc (.cells #[.string F.name,.string F.text,.int .i64 F.kept] 115):=⟨_,rfl⟩
   have BX:Hid (Below wr.heap.size wr wX):=by rw [hwX];exact (Below.refl _ wr).alloc (Nat.le_refl _) _
   have hxs:wX.heap.size=wr.heap.size+1:=by rw [hwX];simp
   have HXB:Hid (wX.heap[wr.heap.size]? = some (.cells #[.string F.name,.string F.text,.int .i64 F.kept] 115 (0,0))):=by rw [hwX];exact heap_alloc_new wr _
   have hx0:wX.cell? ⟨wr.heap.size,0,none⟩=some (.string F.name):=(cell_of_row wX _ 0 _ _ (0,0) HXB.out).trans rfl
   have hy0:wX.cell? ⟨g0,0,none⟩=some (.int .i64 (m:Int)):=((HBw.out.trans (BX.out.mono HBw.out.size)).cell (p:=⟨g0,0,none⟩) hgw0).trans HZ0.out
   have HOX:=hide (ownsRow_below HO.out BX.out)
   have HIB:=hide (fun W => isSegmentBelow_any m F.name W hm1)
   have HNW:Hid (isNew F.name=(F.name.toList == ([109,43]:List UInt8))):=by show _=_;unfold isNew;rw [show nmNew.toList=[109,43] from by rw [ByteArray.toList_eq]]
   cases hn:(F.name.toList == ([109,43]:List UInt8)) with
   | true =>
    have HGO:Hid (goesB m F=true):=by show _=_;unfold goesB;rw [HNW.out,hn];rfl
    go_wp2_with fail
    rw [← hwX]
    clear hwX
    go_quiet ((go_at_call 113;exact Calls.quiet_of_same (HIB.out _)))
    go_wp2_with fail
    refine (ownText_any F.name _ HX).mono ?_
    rintro e w3 ⟨rfl,b3⟩
    have B3:Hid (Below wX.heap.size wX w3):=(drewN_below wX nq).trans (b3.mono (drewN_below wX nq).size)
    have hw3:wX.heap.size≤w3.heap.size:=B3.out.size
    clear b3
    go_wp2_with (at_builtin;refine app_act _ wb.heap.size (by rfl) _ _ (by rfl) _ L (dropA F.name) (by rfl) ((ownsRow_below HOX.out B3.out).alloc _) w3.heap.size (by rfl) (heap_alloc_new w3 _) hLl (by simp;omega) ?_;intro g5 cap5 w5 ho5 hb5 hg5 hgl5;have HO5:=hide ho5;have HB5:=hide hb5;clear ho5 hb5 hg5 hgl5)
    go_roundw
    case rel =>
     refine ⟨k+1,by go_num,by omega,?_,((HB.out.trans ((BX.out.trans (B3.out.mono BX.out.size)).mono hws)).alloc (by omega) _).trans HB5.out⟩
     show World.ownsRow _ _ _ _ _ _ _
     rw [htk.out,dropsI_snoc_yes HGO.out,HL.out]
     exact HO5.out
    case measure => simp [intOf];omega
   | false =>
    cases hbl:isBelow m F.name with
    | true =>
     have HGO:Hid (goesB m F=true):=by show _=_;unfold goesB;rw [HNW.out,hn,hbl];rfl
     rw [hbl] at HIB
     clear hbl
     go_wp2_with fail
     rw [← hwX]
     clear hwX
     go_quiet ((go_at_call 113;exact Calls.quiet_of_same (HIB.out _)))
     go_wp2_with fail
     refine (ownText_any F.name _ HX).mono ?_
     rintro e w3 ⟨rfl,b3⟩
     have B3:Hid (Below wX.heap.size wX w3):=(drewN_below wX nq).trans (b3.mono (drewN_below wX nq).size)
     have hw3:wX.heap.size≤w3.heap.size:=B3.out.size
     clear b3
     go_wp2_with (at_builtin;refine app_act _ wb.heap.size (by rfl) _ _ (by rfl) _ L (dropA F.name) (by rfl) ((ownsRow_below HOX.out B3.out).alloc _) w3.heap.size (by rfl) (heap_alloc_new w3 _) hLl (by simp;omega) ?_;intro g5 cap5 w5 ho5 hb5 hg5 hgl5;have HO5:=hide ho5;have HB5:=hide hb5;clear ho5 hb5 hg5 hgl5)
     go_roundw
     case rel =>
      refine ⟨k+1,by go_num,by omega,?_,((HB.out.trans ((BX.out.trans (B3.out.mono BX.out.size)).mono hws)).alloc (by omega) _).trans HB5.out⟩
      show World.ownsRow _ _ _ _ _ _ _
      rw [htk.out,dropsI_snoc_yes HGO.out,HL.out]
      exact HO5.out
     case measure => simp [intOf];omega
    | false =>
     have HGO:Hid (goesB m F=false):=by show _=_;unfold goesB;rw [HNW.out,hn,hbl];rfl
     rw [hbl] at HIB
     clear hbl
     go_wp2_with fail
     rw [← hwX]
     clear hwX
     go_quiet ((go_at_call 113;exact Calls.quiet_of_same (HIB.out _)))
     go_wp2_with fail
     go_roundw
     case rel =>
      have bq:=drewN_below wX nq
      refine ⟨k+1,by go_num,by omega,?_,HB.out.trans ((BX.out.trans (bq.mono BX.out.size)).mono hws)⟩
      show World.ownsRow _ _ _ _ _ _ _
      rw [htk.out,dropsI_snoc_no HGO.out,HL.out]
      exact ownsRow_below HOX.out bq
     case measure => simp [intOf];omega
  ·
   have hlt':decide ((k:Int) < (fs.length:Int))=false:=by simp;omega
   have hke:k=fs.length:=by omega
   subst hke
   rw [List.take_length] at HO
   have HLO:=hide (fun W h => lastOf_any l (.slice (some ⟨g0,0,none⟩) l.length c1) B K W hll h0 h)
   obtain ⟨Z,HZ⟩:∃ Z,Hid (l[l.length - 1]'(by omega)=Z):=⟨_,hide rfl⟩
   rw [HZ.out] at HLO
   have HLG:Hid (lastG fs=Z):=by
    show _=_
    unfold lastG
    rw [HLL.out,List.getLast?_eq_getElem?,List.getElem?_eq_getElem (by omega),HZ.out]
    rfl
   obtain ⟨hZ0,-,F,hF1,hF2,hF3⟩:=segsTo_mem (segsL_mem (fs:=fs) (s:=Z) (by rw [HLL.out,← HZ.out];exact List.getElem_mem _))
   have HTX:Hid (Z.torn=true→Z.fin < F.text.size):=fun ht => by
    rw [hF2] at ht ⊢
    unfold segOfFile segTorn at ht
    simp only [Bool.and_eq_true,decide_eq_true_eq] at ht
    exact ht.2
   have HFS:=(HS.out F hF1).2
   have HFD:=hide hF3
   clear hF2 hF1 hF3
   obtain ⟨L,HL⟩:∃ L,Hid (dropsI m fs=L):=⟨_,hide rfl⟩
   have hLl:L.length≤1048576:=by
    rw [← HL.out]
    have:=dropsI_len m fs
    omega
   rw [HL.out] at HO
   obtain ⟨ag,cg,hvo⟩:=slice_form HO.out
   subst hvo
   cases ht:Z.torn with
   | false =>
    have HE:Hid (actsI fs=L):=by show _=_;unfold actsI mendA;rw [HLG.out,ht,HM.out,HL.out];simp
    go_wp2_with fail
    refine (HLO.out _ (buildG_below HG.out HBw.out)).mono ?_
    rintro e w3 ⟨⟨a,c,a',c',rfl,-⟩,b3⟩
    rw [ht]
    have B3:=hide b3
    obtain ⟨wX,hwX⟩:∃ x,x=w3.alloc (.cells #[.int .i64 (Z.num:Int),.int .i64 (Z.frm:Int),.slice a Z.bs.length c,.slice a' Z.pls.length c',.int .i64 (Z.fin:Int),.bool Z.right,.bool false] 162):=⟨_,rfl⟩
    have BX:Hid (Below w3.heap.size w3 wX):=by rw [hwX];exact (Below.refl _ w3).alloc (Nat.le_refl _) _
    obtain ⟨hx0,hx1,hx2,hx3,hx4,hx5,hx6⟩:=seven_cells (W:=wX) (g:=w3.heap.size) (by rw [hwX];exact heap_alloc_new w3 _)
    clear b3
    go_wp2_with fail
    rw [← hwX]
    clear hwX
    go_wp2
    go_ret
    rw [HE.out]
    have B4:Below wr.heap.size wr wX:=B3.out.trans (BX.out.mono B3.out.size)
    exact ⟨⟨_,rfl,ownsRow_mono (ownsRow_below HO.out B4) HB0.out.size⟩,HBw.out.trans (B4.mono HBw.out.size)⟩
   | true =>
    have hlt2:=HTX.out ht
    obtain ⟨NM,HNM⟩:∃ NM,Hid (segNm (Z.num:Int)=NM):=⟨_,hide rfl⟩
    have HN:Hid (∀ W:World,Calls Tryz.prog 114 #[.int .i64 (Z.num:Int)] W fun e w' => e=.returned (.string NM)∧w' = W):=fun W => by rw [← HNM.out];exact implSegName_any (Z.num:Int) W
    rw [HNM.out] at HFD
    obtain ⟨TX,HTT⟩:∃ T,Hid (F.text.extract 0 Z.fin=T):=⟨_,hide rfl⟩
    have hcut:∀ W:World,(Instr.slice 9 (.string F.text) none (some (.int .i64 (Z.fin:Int))) none).run Tryz.prog W=.ok (.string TX) W:=by
     intro W
     rw [run_slice_string_to_if W 9 F.text .i64 (Z.fin:Int) Tryz.underlying9,if_pos (by omega),Int.toNat_natCast,HTT.out]
    have HE:Hid (actsI fs=L ++ newA NM TX):=by
     show _=_
     unfold actsI mendA
     rw [HLG.out,ht,HM.out,HL.out,HNM.out,HFD.out]
     simp only [Option.map_some,Option.getD_some,if_true,HTT.out]
    go_wp2_with fail
    refine (HLO.out _ (buildG_below HG.out HBw.out)).mono ?_
    rintro e w3 ⟨⟨a,c,a',c',rfl,-⟩,b3⟩
    rw [ht]
    have B3:=hide b3
    obtain ⟨wX,hwX⟩:∃ x,x=w3.alloc (.cells #[.int .i64 (Z.num:Int),.int .i64 (Z.frm:Int),.slice a Z.bs.length c,.slice a' Z.pls.length c',.int .i64 (Z.fin:Int),.bool Z.right,.bool true] 162):=⟨_,rfl⟩
    have BX:Hid (Below w3.heap.size w3 wX):=by rw [hwX];exact (Below.refl _ w3).alloc (Nat.le_refl _) _
    have HXB:Hid (wX.heap[w3.heap.size]? = some (.cells #[.int .i64 (Z.num:Int),.int .i64 (Z.frm:Int),.slice a Z.bs.length c,.slice a' Z.pls.length c',.int .i64 (Z.fin:Int),.bool Z.right,.bool true] 162 (0,0))):=by rw [hwX];exact heap_alloc_new w3 _
    obtain ⟨hx0,hx1,hx2,hx3,hx4,hx5,hx6⟩:=seven_cells HXB.out
    have hX3:w3.heap.size < wX.heap.size:=heap_lt HXB.out
    have B4:Hid (Below wr.heap.size wr wX):=B3.out.trans (BX.out.mono B3.out.size)
    have hbX:wX.cell? ⟨w.heap.size,0,none⟩=some (.slice ao fs.length cap):=((HB.out.trans (B4.out.mono hws)).cell (p:=⟨w.heap.size,0,none⟩) (by show w.heap.size < _;omega)).trans hbc
    clear b3
    go_wp2_with fail
    rw [← hwX]
    clear hwX
    go_wp2_with fail
    refine (HN.out _).mono ?_
    rintro e w4 ⟨rfl,hw4⟩
    subst hw4
    have HBX:Hid (Below w.heap.size w w4):=HBw.out.trans (B4.out.mono HBw.out.size)
    go_wp2_with fail
    refine (fileAt_some fs ao cap NM _ F hl (filesAt_keep HF.out HBX.out) HS.out HFD.out).mono ?_
    rintro e w5 ⟨rfl,b5⟩
    have B5:=hide b5
    have hy4:w5.cell? ⟨w3.heap.size,4,none⟩=some (.int .i64 (Z.fin:Int)):=(b5.cell (p:=⟨w3.heap.size,4,none⟩) hX3).trans hx4
    clear b5
    go_wp2_with fail
    have HX8:=hide (heap_alloc_new w5 (.cells #[.string TX] 9))
    refine (newFileActs_one NM TX w5.heap.size _ (heap_lt HX8.out) ((cell_of_row _ _ 0 _ _ (0,0) HX8.out).trans rfl)).mono ?_
    rintro e w6 ⟨⟨a6,c6,rfl,o6⟩,b6⟩
    have B56:Hid (Below w5.heap.size w5 w6):=((Below.refl _ w5).alloc (Nat.le_refl _) _).trans (b6.mono (by simp))
    have B6:Hid (Below wr.heap.size wr w6):=(B4.out.trans (B5.out.mono B4.out.size)).trans (B56.out.mono (by have:=B4.out.size;have:=B5.out.size;omega))
    have HK6:=hide o6
    have HO6:=hide (ownsRow_below HO.out B6.out)
    have hw6:=B6.out.size
    clear b6 o6
    go_wp2_with (at_builtin;refine app_actsR _ wb.heap.size (by rfl) _ _ (by rfl) _ L (newA NM TX) (by rfl) HO6.out _ 3 _ (by rfl) (by rfl) HK6.out hLl (by omega) (by omega) (by omega) ?_;intro g7 cap7 w7 ho7 hb7 hg7 hgl7;have HO7:=hide ho7;have HB7:=hide hb7;clear ho7 hb7 hg7 hgl7)
    go_ret
    rw [HE.out]
    exact ⟨⟨_,rfl,ownsRow_mono HO7.out HB0.out.size⟩,HB0.out.trans (((HB.out.trans (B6.out.mono hws)).trans HB7.out).mono HB0.out.size)⟩
end Go.Proofs.YtbenmgokhklnjaaGreatDoor
