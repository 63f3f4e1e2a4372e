import Derived.Laws.AppendOwnNone
import Derived.Test.YtepdckehokdjlaaGreatDoorMg22
import Derived.Test.YtepdckehokdjlaaGreatDoorMg9
import Derived.Test.YtepdckehokdjlaaGreatDoorMg12
set_option maxRecDepth 100000
set_option maxHeartbeats 3200000
namespace Go.Proofs.YtepdckehokdjlaaGreatDoor
open Go.RowKit
def RowT (w:World) (B:Nat) (v:Value) (ts:List ByteArray):Prop:=(v=.slice none 0 0∧ts=[]) ∨ (0 < ts.length∧w.ownsRow B 9 1 v ts.length (ts.map Value.string))
theorem rowT_below {w w':World} {B:Nat} {v:Value} {ts:List ByteArray} (h:RowT w B v ts) (hb:Below w.heap.size w w'):RowT w' B v ts:=by
 rcases h with h | ⟨h0,h⟩
 · exact .inl h
 · exact .inr ⟨h0,ownsRow_below h hb⟩
theorem rowT_own {w:World} {B:Nat} {v:Value} {ts:List ByteArray} (h:RowT w B v ts):w.ownsRow B 9 1 v ts.length (ts.map Value.string):=by
 rcases h with ⟨rfl,rfl⟩ | ⟨-,h⟩
 · exact World.ownsRow_nil _ _ _ _
 · exact h
theorem rowT_le {w:World} {B B':Nat} {v:Value} {ts:List ByteArray} (h:RowT w B v ts) (hB:B'≤B):RowT w B' v ts:=by
 rcases h with h | ⟨h0,h⟩
 · exact .inl h
 · exact .inr ⟨h0,ownsRow_mono h hB⟩
theorem rowT_form {w:World} {B:Nat} {v:Value} {ts:List ByteArray} (h:RowT w B v ts):∃ a c,v=.slice a ts.length c:=slice_form (rowT_own h)
theorem textsAt_own {w:World} {B n cap:Nat} {ao:Option Addr} {ts:List ByteArray} (h:w.ownsRow B 9 1 (.slice ao n cap) ts.length (ts.map Value.string)):TextsAt w ao ts:=by
 intro j hj
 rcases h.2 with ⟨_,hn⟩ | ⟨g,cap',cur,hv,hB,hC,hle,_,hs,ht⟩
 · omega
 ·
  cases hv
  refine ⟨g,0,rfl,(Array.getElem?_eq_some_iff.1 hC).1,?_⟩
  rw [Nat.zero_add]
  exact (cell_of_row w g j _ _ (0,0) hC).trans (take_getChange ht (by omega) (by simp [hj]))
theorem one_texts (ts:List ByteArray):∀ u ∈ ts.map Value.string,u.oneCell' = true:=by
 intro u hu
 obtain ⟨b,_,rfl⟩:=List.mem_map.1 hu
 rfl
theorem app_tx {ops:Array Oper} {rest:List Oper} {o:Oper} {a:Act} {Q:Exit→Act→World→Prop} (W:World) (B:Nat) (hgd:o.guard=none) (s y:Operand)
  (ho:o.op=.call { callee:=.builtin .append,args:=#[s,y],argTypes:=#[136,136] }) (v:Value) (l:List ByteArray) (x:ByteArray) (hs:a.eval s=v)
  (hown:W.ownsRow B 9 1 v l.length (l.map Value.string)) (k:Nat) (hx:a.eval y=.slice (some ⟨k,0,none⟩) 1 1) (hblk:W.heap[k]? = some (.cells #[.string x] 9 (0,0)))
  (hlen:l.length≤1048576) (hbase:B≤W.heap.size)
  (h:∀ g cap w',w'.ownsRow B 9 1 (.slice (some ⟨g,0,none⟩) (l.length+1) cap) (l ++ [x]).length ((l ++ [x]).map Value.string)→Below B W w'→wpList Tryz.prog ops Q rest (a.put o.dst (.slice (some ⟨g,0,none⟩) (l.length+1) cap)) w') :
  wpList Tryz.prog ops Q (o :: rest) a W:=by
 obtain ⟨i0,hi,hz0,hz1,hz2⟩:=info_parts Tryz.info9
 refine wpList_append_lies W hgd s y 136 ho B 9 i0 (.string ⟨#[]⟩) 1 16 Tryz.underlying136 hi hz0 hz1 hz2 rfl (by decide) v l.length (l.map Value.string) hs hown ⟨k,0,none⟩ 1 1 ([x].map Value.string) hx rfl
  (fun j u hj => World.news_of_block hblk j u hj) (one_texts [x]) (by omega) (by unfold maxLen;omega) (by omega) hbase W.heap.size rfl ?_
 intro g cap w' hown' hgrow hg hgl
 have hlt:=hown.lt
 refine h g cap w' ?_ ((Below.refl B W).grown hgrow hbase (fun k hk => (hlt k hk).1))
 rw [List.map_append,List.length_append]
 exact hown'
theorem app_txs {ops:Array Oper} {rest:List Oper} {o:Oper} {a:Act} {Q:Exit→Act→World→Prop} (W:World) (B:Nat) (hgd:o.guard=none) (s y:Operand)
  (ho:o.op=.call { callee:=.builtin .append,args:=#[s,y],argTypes:=#[136,136] }) (v:Value) (l rs:List ByteArray) (hs:a.eval s=v)
  (hown:W.ownsRow B 9 1 v l.length (l.map Value.string)) (B2:Nat) (v2:Value) (hx:a.eval y=v2) (hrow:RowT W B2 v2 rs)
  (hlen:l.length+rs.length≤1048576) (hbase:B≤W.heap.size)
  (h:∀ v' w',w'.ownsRow B 9 1 v' (l ++ rs).length ((l ++ rs).map Value.string)→Below B W w'→wpList Tryz.prog ops Q rest (a.put o.dst v') w') :
  wpList Tryz.prog ops Q (o :: rest) a W:=by
 obtain ⟨i0,hi,hz0,hz1,hz2⟩:=info_parts Tryz.info9
 rcases hrow with ⟨rfl,rfl⟩ | ⟨h0,hown2⟩
 ·
  refine wpList_append_own_none hgd s y 136 ho B 9 i0 1 Tryz.underlying136 hi v l.length (l.map Value.string) hs hown hx ?_
  refine h v W ?_ (Below.refl _ _)
  rw [List.append_nil]
  exact hown
 ·
  rcases hown2.2 with ⟨rfl,hn⟩ | ⟨g2,cap2,cur2,rfl,-⟩
  · omega
  refine wpList_append_lies W hgd s y 136 ho B 9 i0 (.string ⟨#[]⟩) 1 16 Tryz.underlying136 hi hz0 hz1 hz2 rfl (by decide) v l.length (l.map Value.string) hs hown ⟨g2,0,none⟩ rs.length cap2 (rs.map Value.string) hx (by rw [List.length_map];omega)
   (fun j u hj => hown2.cells (g:=g2) rfl j u hj) (one_texts rs) (by omega) (by unfold maxLen;omega) (by omega) hbase W.heap.size rfl ?_
  intro g cap w' hown' hgrow hg hgl
  have hlt:=hown.lt
  refine h _ w' ?_ ((Below.refl B W).grown hgrow hbase (fun k hk => (hlt k hk).1))
  rw [List.map_append,List.length_append]
  exact hown'
def frameO (t:ByteArray):ByteArray:=if 1≤t.size∧t.size≤9000 then frameB t else ⟨#[]⟩
theorem implFrameO_any (t:ByteArray) (w:World) (hT:SumTab w):Calls Tryz.prog 134 #[.string t] w fun e w' => (∃ b,e=.returned (.tuple #[.string (frameO t),.bool b]))∧Below w.heap.size w w':=by
 by_cases h:1≤t.size∧t.size≤9000
 ·
  refine (frame_yes t w h.1 h.2 hT).mono ?_
  rintro e w' ⟨rfl,b⟩
  unfold frameO
  rw [if_pos h]
  exact ⟨⟨_,rfl⟩,b⟩
 ·
  refine (frame_no t w (by omega)).mono ?_
  rintro e w' ⟨rfl,rfl⟩
  unfold frameO
  rw [if_neg h]
  exact ⟨⟨_,rfl⟩,Below.refl _ _⟩
def livK (D:List SpotD) (S:SegD) (k:Nat):List ChangeD:=match S.bs[k]? with
 | none => []
 | some b => liveI D (S.num:Int) ((S.hd+totD (S.bs.take k):Nat):Int) b.seq b.chs
def seqK (S:SegD) (k:Nat):Int:=match S.bs[k]? with
 | none => 0
 | some b => b.seq
def frmsTo (D:List SpotD) (S:SegD):Nat→List ByteArray
 | 0 => []
 | k+1 => frmsTo D S k ++ (if (livK D S k).length=0 then [] else [frameO (textD (seqK S k) (livK D S k))])
def frms (D:List SpotD) (S:SegD):List ByteArray:=frmsTo D S S.bs.length
theorem frmsTo_len (D:List SpotD) (S:SegD):∀ k,(frmsTo D S k).length≤k
 | 0 => Nat.le_refl _
 | k+1 => by
  unfold frmsTo
  have:=frmsTo_len D S k
  rw [List.length_append]
  split
  · simp;omega
  · simp;omega
theorem livK_at {D:List SpotD} {S:SegD} {k:Nat} (h:k < S.bs.length):livK D S k=liveI D (S.num:Int) (S.pls[k]'(by rw [S.pls_len];exact h):Int) S.bs[k].seq S.bs[k].chs:=by
 unfold livK
 rw [List.getElem?_eq_getElem h]
 have:=plsB_get S.bs S.hd k (by rw [plsB_len];exact h)
 have e:S.pls[k]'(by rw [S.pls_len];exact h)=S.hd+totD (S.bs.take k):=this
 rw [e]
theorem seqK_at {S:SegD} {k:Nat} (h:k < S.bs.length):seqK S k=S.bs[k].seq:=by
 unfold seqK
 rw [List.getElem?_eq_getElem h]
theorem liveFrames_any (D:List SpotD) (S:SegD) (g:Nat) (ar a a':Option Addr) (cr c c' K:Nat) (w:World) (hD:D.length≤1000000) (hsD:srtS D) (hg:g < w.heap.size) (hc6:w.cell? ⟨g,6,none⟩=some (.slice ar D.length cr)) (hds:SpotsAt w ar D) (hjl:S.bs.length≤1000000) (hb:BatchesAt w a S.bs) (hp:RowNat w K (.slice a' S.pls.length c') S.pls) (hok:∀ b ∈ S.bs,textOkD b.seq b.chs=true) (hT:SumTab w) :
  Calls Tryz.prog 97 #[.pointer (some ⟨g,0,none⟩),.agg #[.int .i64 (S.num:Int),.int .i64 (S.frm:Int),.slice a S.bs.length c,.slice a' S.pls.length c',.int .i64 (S.fin:Int),.bool S.right,.bool S.torn]] w fun e w' => (∃ v,e=.returned v∧RowT w' w.heap.size v (frms D S))∧Below w.heap.size w w':=by
 have HLC:Hid (∀ (j:Nat),j < S.bs.length→∀ W:World,g < W.heap.size→W.cell? ⟨g,6,none⟩=some (.slice ar D.length cr)→SpotsAt W ar D→BatchesAt W a S.bs→RowNat W K (.slice a' S.pls.length c') S.pls →
   Calls Tryz.prog 135 #[.pointer (some ⟨g,0,none⟩),.agg #[.int .i64 (S.num:Int),.int .i64 (S.frm:Int),.slice a S.bs.length c,.slice a' S.pls.length c',.int .i64 (S.fin:Int),.bool S.right,.bool S.torn],.int .i64 (j:Int)] W fun e w' => (∃ ao cap,e=.returned (.slice ao (livK D S j).length cap)∧ChangesAt w' ao (livK D S j))∧Below W.heap.size W w'):=fun j hj W h1 h2 h3 h4 h5 => by
  rw [livK_at hj]
  exact liveChanges_any D S j g ar a a' cr c c' K W hD hsD h1 h2 h3 hj h4 h5 (textOk_small (hok S.bs[j] (List.getElem_mem hj))).1
 have HOK:=hide hok
 have HD:=hide hds
 have HB:=hide hb
 have HP:=hide hp
 have HT:=hide hT
 clear hds hb hp hok hT hsD
 obtain ⟨np,HNP⟩:∃ n,Hid (S.pls.length=n):=⟨_,hide rfl⟩
 rw [HNP.out] at HLC HP ⊢
 obtain ⟨wb,hwb⟩:∃ wb,wb=w.alloc (.cells #[.int .i64 (S.num:Int),.int .i64 (S.frm:Int),.slice a S.bs.length c,.slice a' np c',.int .i64 (S.fin:Int),.bool S.right,.bool S.torn] 158):=⟨_,rfl⟩
 have HB0:Hid (Below w.heap.size w wb):=by rw [hwb];exact (Below.refl _ w).alloc (Nat.le_refl _) _
 have HBK:Hid (wb.heap[w.heap.size]? = some (.cells #[.int .i64 (S.num:Int),.int .i64 (S.frm:Int),.slice a S.bs.length c,.slice a' np c',.int .i64 (S.fin:Int),.bool S.right,.bool S.torn] 158 (0,0))):=by rw [hwb];exact heap_alloc_new w _
 go_enter Tryz.func97,Tryz.ntmps97
 go_wp2_with fail
 rw [← hwb]
 clear hwb
 have hgw:g < wb.heap.size:=Nat.lt_of_lt_of_le hg HB0.out.size
 have hw6:wb.cell? ⟨g,6,none⟩=some (.slice ar D.length cr):=(HB0.out.cell (p:=⟨g,6,none⟩) hg).trans hc6
 have hwl:w.heap.size < wb.heap.size:=heap_lt HBK.out
 clear hc6
 go_loopw [5,16] (fun vo ii wr => ∃ (k:Nat),ii=.int .i64 k∧k≤S.bs.length∧Hid (RowT wr wb.heap.size vo (frmsTo D S k))∧Hid (Below wb.heap.size wb wr)) (fun _ ii _ => S.bs.length - (intOf ii).toNat)
 case atStart => exact ⟨0,rfl,Nat.zero_le _,.inl ⟨rfl,rfl⟩,Below.refl _ _⟩
 case round =>
  obtain ⟨k,rfl,hk,HO,HBr⟩:=hrel
  have hws:=HBr.out.size
  have HWr:Hid (Below w.heap.size w wr):=HB0.out.trans (HBr.out.mono HB0.out.size)
  by_cases hlt:k < S.bs.length
  ·
   have hlt':decide ((k:Int) < (S.bs.length:Int))=true:=by simp;omega
   have hk0:(0:Int)≤(k:Int):=by omega
   have hk1:(k:Int) < (S.bs.length:Int):=by omega
   obtain ⟨b,off,hab,hbw2,hd0,a2,c2,hd1,hch⟩:=batchesAt_keep HB.out HWr.out k hlt
   have HOKk:=textOk_small (HOK.out S.bs[k] (List.getElem_mem hlt))
   have HSQ:Hid (seqK S k=S.bs[k].seq):=seqK_at hlt
   have HCL:Hid ((livK D S k).length≤40∧∀ A ∈ livK D S k,A.key.size≤1048576∧A.value.size≤1048576):=by
    rw [livK_at hlt]
    refine ⟨Nat.le_trans (liveI_len _ _ _ _ _) HOKk.1,fun A hA => ?_⟩
    have:=HOKk.2.2 A (List.mem_filter.1 hA).1
    omega
   have HLk:=hide (HLC.out k hlt)
   have HF:Hid (frmsTo D S (k+1)=frmsTo D S k ++ (if (livK D S k).length=0 then [] else [frameO (textD (seqK S k) (livK D S k))])):=rfl
   rw [HSQ.out] at HF
   generalize S.bs[k]=bt at hd0 hd1 HF
   generalize livK D S k=L at HCL HLk HF
   obtain ⟨FT,HFT⟩:∃ F,Hid (frmsTo D S k=F):=⟨_,hide rfl⟩
   have hFl:FT.length≤1048576:=by have:=frmsTo_len D S k;rw [HFT.out] at this;omega
   rw [HFT.out] at HO HF
   have hL40:=HCL.out.1
   obtain ⟨NL,HNL⟩:∃ n,Hid (bt.chs.length=n):=⟨_,hide rfl⟩
   rw [HNL.out] at hd1
   clear hch HOKk
   obtain ⟨wn,hwn⟩:∃ x,x=wr.alloc (.cells #[.int .i64 bt.seq,.slice a2 NL c2] 87):=⟨_,rfl⟩
   have BN0:Hid (Below wr.heap.size wr wn):=by rw [hwn];exact (Below.refl _ _).alloc (Nat.le_refl _) _
   have BN:Hid (Below wb.heap.size wb wn):=HBr.out.trans (BN0.out.mono hws)
   have HBN:Hid (wn.heap[wr.heap.size]? = some (.cells #[.int .i64 bt.seq,.slice a2 NL c2] 87 (0,0))):=by rw [hwn];exact heap_alloc_new _ _
   have HWn:Hid (Below w.heap.size w wn):=HB0.out.trans (BN.out.mono HB0.out.size)
   have HLn:=hide (HLk.out wn (Nat.lt_of_lt_of_le hgw BN.out.size) ((BN.out.cell (p:=⟨g,6,none⟩) hgw).trans hw6) (spotsAt_keep HD.out HWn.out) (batchesAt_keep HB.out HWn.out) (rowNat_below HP.out HWn.out))
   obtain ⟨hz0,hz1,hz2,hz3,hz4,hz5,hz6⟩:=seven_cells ((BN.out.block _ hwl).trans HBK.out)
   subst hab
   subst hwn
   go_wp2_with fail
   refine HLn.out.mono ?_
   rintro e w2 ⟨⟨ao2,cap2,rfl,hat2⟩,b2⟩
   have B2:=hide (BN.out.trans (b2.mono BN.out.size))
   have HAT2:=hide hat2
   have O2:=hide (rowT_below (rowT_below HO.out BN0.out) b2)
   have hq0:w2.cell? ⟨wr.heap.size,0,none⟩=some (.int .i64 bt.seq):=(b2.cell (p:=⟨wr.heap.size,0,none⟩) (heap_lt HBN.out)).trans ((cell_of_row _ _ 0 _ _ (0,0) HBN.out).trans rfl)
   have hs2:wb.heap.size≤w2.heap.size:=B2.out.size
   clear b2 hat2 HLn hz0 hz1 hz2 hz3 hz4 hz5 hz6 hd0 hd1 HLk
   by_cases hL0:L.length=0
   ·
    have hL0':((L.length:Int) == 0)=true:=by rw [beq_iff_eq];omega
    rw [if_pos hL0,List.append_nil] at HF
    clear hL0
    go_wp2_with fail
    go_roundw
    case rel =>
     refine ⟨k+1,by go_num,by omega,?_,B2⟩
     show RowT _ _ _ _
     rw [HF.out]
     exact O2.out
    case measure => simp [intOf];omega
   ·
    have hL0':((L.length:Int) == 0)=false:=by rw [beq_eq_false_iff_ne];omega
    rw [if_neg hL0] at HF
    clear hL0
    go_wp2_with fail
    refine (implBatchText_any bt.seq L ao2 cap2 _ (by omega) HAT2.out HCL.out.2).mono ?_
    rintro e w3 ⟨rfl,b3⟩
    have B3:=hide (B2.out.trans (b3.mono B2.out.size))
    have O3:=hide (rowT_below O2.out b3)
    clear b3
    go_wp2_with fail
    refine (implFrameO_any (textD bt.seq L) _ (sumTab_later (HB0.out.trans (B3.out.mono HB0.out.size)) HT.out)).mono ?_
    rintro e w4 ⟨⟨bb,rfl⟩,b4⟩
    have B4:=hide (B3.out.trans (b4.mono B3.out.size))
    have O4:=hide (rowT_own (rowT_below O3.out b4))
    have hs4:wb.heap.size≤w4.heap.size:=B4.out.size
    clear b4
    generalize frameO (textD bt.seq L)=FX at HF
    go_wp2_with (at_builtin;refine app_tx _ wb.heap.size (by rfl) _ _ (by rfl) _ FT FX (by rfl) (O4.out.alloc _) w4.heap.size (by rfl) (heap_alloc_new w4 _) hFl (by simp;omega) ?_;intro g5 cap5 w5 ho5 hb5;have HO5:=hide ho5;have HB5:=hide hb5;clear ho5 hb5)
    go_roundw
    case rel =>
     refine ⟨k+1,by go_num,by omega,?_,(B4.out.alloc (by omega) _).trans HB5.out⟩
     show RowT _ _ _ _
     rw [HF.out]
     exact .inr ⟨by simp,HO5.out⟩
    case measure => simp [intOf];omega
  ·
   have hlt':decide ((k:Int) < (S.bs.length:Int))=false:=by simp;omega
   have hke:k=S.bs.length:=by omega
   have HO9:Hid (RowT wr wb.heap.size u5 (frms D S)):=by rw [hke] at HO;exact HO.out
   go_wp2
   go_ret
   exact ⟨⟨_,rfl,rowT_le HO9.out HB0.out.size⟩,HWr.out⟩
def SegsAt (w:World) (K:Nat) (ao:Option Addr) (l:List SegD):Prop:=∀ j (hj:j < l.length),∃ g,ao=some ⟨g,0,none⟩∧g < w.heap.size ∧
  w.cell? ⟨g,j * 7,none⟩=some (.int .i64 (l[j].num:Int))∧w.cell? ⟨g,j * 7+1,none⟩=some (.int .i64 (l[j].frm:Int))∧(∃ a c,w.cell? ⟨g,j * 7+2,none⟩=some (.slice a l[j].bs.length c)∧RowBatch w K (.slice a l[j].bs.length c) l[j].bs) ∧
  (∃ a c,w.cell? ⟨g,j * 7+3,none⟩=some (.slice a l[j].pls.length c)∧RowNat w K (.slice a l[j].pls.length c) l[j].pls)∧w.cell? ⟨g,j * 7+4,none⟩=some (.int .i64 (l[j].fin:Int))∧w.cell? ⟨g,j * 7+5,none⟩=some (.bool l[j].right)∧w.cell? ⟨g,j * 7+6,none⟩=some (.bool l[j].torn)
theorem segsAt_of {w:World} {B K cap n:Nat} {ao:Option Addr} {l:List SegD} (h:BuildG w B K (.slice ao n cap) l):SegsAt w K ao l:=fun j hj => buildG_at h j hj
theorem segsAt_keep {w w':World} {K:Nat} {ao:Option Addr} {l:List SegD} (h:SegsAt w K ao l) (hb:Below w.heap.size w w'):SegsAt w' K ao l:=by
 intro j hj
 obtain ⟨g,h1,h2,c0,c1,⟨a,c,c2,r2⟩,⟨a',c',c3,r3⟩,c4,c5,c6⟩:=h j hj
 exact ⟨g,h1,Nat.lt_of_lt_of_le h2 hb.size,(hb.cell (p:=⟨g,j * 7,none⟩) h2).trans c0,(hb.cell (p:=⟨g,j * 7+1,none⟩) h2).trans c1,⟨a,c,(hb.cell (p:=⟨g,j * 7+2,none⟩) h2).trans c2,rowBatch_below r2 hb⟩,⟨a',c',(hb.cell (p:=⟨g,j * 7+3,none⟩) h2).trans c3,rowNat_below r3 hb⟩,(hb.cell (p:=⟨g,j * 7+4,none⟩) h2).trans c4,(hb.cell (p:=⟨g,j * 7+5,none⟩) h2).trans c5,(hb.cell (p:=⟨g,j * 7+6,none⟩) h2).trans c6⟩
theorem segsAt_take {w:World} {K:Nat} {ao:Option Addr} {l:List SegD} (h:SegsAt w K ao l) (n:Nat):SegsAt w K ao (l.take n):=by
 intro j hj
 have e:(l.take n)[j]=l[j]'(by rw [List.length_take] at hj;omega):=List.getElem_take
 rw [e]
 exact h j (by rw [List.length_take] at hj;omega)
theorem lastOf_at (l:List SegD) (ao:Option Addr) (cap K:Nat) (w:World) (hl:l.length≤100) (h0:0 < l.length) (h:SegsAt w K ao l) :
  Calls Tryz.prog 90 #[.slice ao l.length cap] w fun e w' => (∃ a c a' c',e=.returned (.agg #[.int .i64 ((l[l.length - 1]'(by omega)).num:Int),.int .i64 ((l[l.length - 1]'(by omega)).frm:Int),.slice a (l[l.length - 1]'(by omega)).bs.length c,.slice a' (l[l.length - 1]'(by omega)).pls.length c',.int .i64 ((l[l.length - 1]'(by omega)).fin:Int),.bool (l[l.length - 1]'(by omega)).right,.bool (l[l.length - 1]'(by omega)).torn]))∧Below w.heap.size w w':=by
 obtain ⟨g,hg,hgw,hc0,hc1,⟨a,c,hc2,hrb⟩,⟨a',c',hc3,hrp⟩,hc4,hc5,hc6⟩:=h (l.length - 1) (by omega)
 subst hg
 clear hrb hrp h
 generalize l[l.length - 1]'(by omega)=F at hc0 hc1 hc2 hc3 hc4 hc5 hc6
 have hj0:(0:Int)≤(l.length:Int) - 1:=by omega
 have hj1:(l.length:Int) - 1 < (l.length:Int):=by omega
 have hjn:((l.length:Int) - 1).toNat=l.length - 1:=by omega
 have hjw:IntKind.i64.wrap ((l.length:Int) - 1)=(l.length:Int) - 1:=by rw [IntKind.wrap_i64];omega
 go_enter Tryz.func90,Tryz.ntmps90
 go_wp2
 obtain ⟨y0,y1,y2,y3,y4,y5,y6⟩:=seven_cells (heap_alloc_new w (.cells #[.int .i64 (F.num:Int),.int .i64 (F.frm:Int),.slice a F.bs.length c,.slice a' F.pls.length c',.int .i64 (F.fin:Int),.bool F.right,.bool F.torn] 158))
 refine bodyPost_ret (v:=.agg #[.int .i64 (F.num:Int),.int .i64 (F.frm:Int),.slice a F.bs.length c,.slice a' F.pls.length c',.int .i64 (F.fin:Int),.bool F.right,.bool F.torn]) ?_ rfl ?_
 · simp [results,Tryz.results90,go_sem,y0,y1,y2,y3,y4,y5,y6]
 · exact ⟨⟨a,c,a',c',rfl⟩,(Below.refl _ w).alloc (Nat.le_refl _) _⟩
def framesM (D:List SpotD) (l:List SegD):List ByteArray:=l.flatMap (frms D)
theorem framesM_take {D:List SpotD} {l:List SegD} {k:Nat} (h:k < l.length):framesM D (l.take (k+1))=framesM D (l.take k) ++ frms D l[k]:=by
 unfold framesM
 rw [List.take_succ_eq_append_getElem h,List.flatMap_append]
 simp
theorem frmsTo_chs (D:List SpotD) (S:SegD):∀ k,k≤S.bs.length→(frmsTo D S k).length≤chsN (S.bs.take k)
 | 0,_ => Nat.zero_le _
 | k+1,h => by
  have ih:=frmsTo_chs D S k (by omega)
  unfold frmsTo
  rw [List.take_succ_eq_append_getElem (by omega),chsN_snoc,List.length_append]
  have h2:(livK D S k).length≤S.bs[k].chs.length:=by rw [livK_at (by omega)];exact liveI_len _ _ _ _ _
  split
  · simp;omega
  · simp;omega
theorem framesM_len (D:List SpotD):∀ l:List SegD,(framesM D l).length≤segsN l
 | [] => Nat.le_refl _
 | s :: r => by
  have ih:=framesM_len D r
  have h:=frmsTo_chs D s s.bs.length (Nat.le_refl _)
  rw [List.take_length] at h
  unfold framesM at ih ⊢
  rw [List.flatMap_cons,List.length_append]
  unfold segsN
  have h':(frms D s).length≤chsN s.bs:=h
  omega
def dropsM (l:List SegD):List ActD:=l.map fun s => dropA (segNm (s.num:Int))
theorem dropsM_take {l:List SegD} {k:Nat} (h:k < l.length):dropsM (l.take (k+1))=dropsM (l.take k) ++ [dropA (segNm (l[k].num:Int))]:=by
 unfold dropsM
 rw [List.take_succ_eq_append_getElem h,List.map_append]
 rfl
def actsM (D:List SpotD) (l:List SegD) (n:Nat):List ActD:=newsA (segNm (n:Int)) (headT (n:Int) (n:Int) :: framesM D l) ++ dropsM l.dropLast
theorem actsOfMerge_any (D:List SpotD) (l:List SegD) (g:Nat) (ar ag:Option Addr) (cr cs K:Nat) (w:World) (hD:D.length≤1000000) (hsD:srtS D) (hg:g < w.heap.size) (hc6:w.cell? ⟨g,6,none⟩=some (.slice ar D.length cr)) (hc7:w.cell? ⟨g,7,none⟩=some (.slice ag l.length cs)) (hlc:l.length≤cs) (hds:SpotsAt w ar D) (hl:l.length≤100) (h0:0 < l.length) (hsg:SegsAt w K ag l) (hok:∀ S ∈ l,∀ b ∈ S.bs,textOkD b.seq b.chs=true) (hbl:∀ S ∈ l,S.bs.length≤1000000) (hN:segsN l≤900000) (hT:SumTab w) :
  Calls Tryz.prog 64 #[.pointer (some ⟨g,0,none⟩)] w fun e w' => ((l.length=1∧∃ s,e=.returned (.tuple #[.slice none 0 0,.iface 121 (.agg #[.int .i64 1,.string s])])) ∨
   (∃ h:1 < l.length,∃ v,e=.returned (.tuple #[v,.nilIface])∧w'.ownsRow w.heap.size 51 4 v (actsM D l.dropLast (l[l.length - 2]'(by omega)).num).length (cellsAct (actsM D l.dropLast (l[l.length - 2]'(by omega)).num))))∧Below w.heap.size w w':=by
 have HD:=hide hds
 have HSG:=hide hsg
 have HT:=hide hT
 have HOK:=hide hok
 have HBL:=hide hbl
 have HLF:=hide (fun S ao a' c c' W h1 h2 h3 h4 h5 h6 h7 h8 => liveFrames_any D S g ar ao a' cr c c' K W hD hsD h1 h2 h3 h4 h5 h6 h7 h8)
 clear hds hsg hT hok hbl hsD
 by_cases h1:l.length=1
 ·
  have h1':((l.length:Int) - 1 == 0)=true:=by rw [beq_iff_eq];omega
  have hjw:IntKind.i64.wrap ((l.length:Int) - 1)=(l.length:Int) - 1:=by rw [IntKind.wrap_i64];omega
  have H1:=hide h1
  clear h1
  go_enter Tryz.func64,Tryz.ntmps64
  go_wp2
  refine bodyPost_ret (results_tmp2 rfl _ _ _) rfl ?_
  exact ⟨.inl ⟨H1.out,_,rfl⟩,Below.refl _ _⟩
 ·
  obtain ⟨n,hn⟩:∃ n,l.length=n+1+1:=⟨l.length - 2,by omega⟩
  have HNN:=hide hn
  rw [hn] at hc7 hlc
  obtain ⟨O,HO⟩:∃ O,Hid (l.dropLast=O):=⟨_,hide rfl⟩
  have HOL:Hid (O.length=n+1):=by show _=_;rw [← HO.out,List.length_dropLast,hn];omega
  have HOS:Hid (∀ W,Below w.heap.size w W→SegsAt W K ag O):=fun W hW => by
   rw [← HO.out,List.dropLast_eq_take]
   exact segsAt_keep (segsAt_take HSG.out _) hW
  have HOM:Hid (∀ S ∈ O,S ∈ l):=fun S hS => by rw [← HO.out] at hS;exact (List.dropLast_sublist l).subset hS
  have HON:Hid (segsN O≤900000):=by
   show _≤_
   rw [← HO.out,List.dropLast_eq_take]
   exact Nat.le_trans (segsN_take_le l _) hN
  have HLO:Hid (∀ W,SegsAt W K ag O→Calls Tryz.prog 90 #[.slice ag O.length (n+1)] W _):=fun W hW => lastOf_at O ag (n+1) K W (by have:=HOL.out;omega) (by have:=HOL.out;omega) hW
  have hO1:0 < O.length:=by have:=HOL.out;omega
  obtain ⟨Z,HZ⟩:∃ Z,Hid ((O[O.length - 1]'(Nat.sub_lt hO1 Nat.one_pos))=Z):=⟨_,hide rfl⟩
  rw [HZ.out,HOL.out] at HLO
  have hEq:Hid (∃ h:1 < l.length,(l[l.length - 2]'(Nat.sub_lt (Nat.lt_of_succ_lt h) (by decide)))=Z):=⟨by omega,by
   rw [← HZ.out]
   simp only [← HO.out,List.length_dropLast,List.getElem_dropLast]
   congr 1⟩
  clear hn hN HNN HSG
  have hn0:((n:Int)+1 == 0)=false:=by rw [beq_eq_false_iff_ne];omega
  have hn1:n≤98:=by
   have:=HOL.out;have:=HO.out;have h2:O.length=l.length - 1:=by rw [← HO.out,List.length_dropLast]
   omega
  go_enter Tryz.func64,Tryz.ntmps64
  go_wp2_with fail
  refine (HLO.out _ (HOS.out _ (Below.refl _ _))).mono ?_
  rintro e w1 ⟨⟨qa,qc,qa',qc',rfl⟩,b1⟩
  have hfd:∀ (W:World),(Instr.field 158 (.agg #[.int .i64 (Z.num:Int),.int .i64 (Z.frm:Int),.slice qa Z.bs.length qc,.slice qa' Z.pls.length qc',.int .i64 (Z.fin:Int),.bool Z.right,.bool Z.torn]) 0).run Tryz.prog W=.ok (.int .i64 (Z.num:Int)) W:=fun _ => by kernel_rfl
  have B1:=hide b1
  clear b1
  go_wp2_with fail
  refine (implHeadText_any (Z.num:Int) (Z.num:Int) _ (sumTab_later B1.out HT.out)).mono ?_
  rintro e w2 ⟨rfl,b2⟩
  have B2:=hide (B1.out.trans (b2.mono B1.out.size))
  clear b2 hfd
  obtain ⟨HX,HHX⟩:∃ x,Hid (headT (Z.num:Int) (Z.num:Int)=x):=⟨_,hide rfl⟩
  rw [HHX.out]
  obtain ⟨wA,hwA⟩:∃ x,x=w2.alloc (.cells #[.string HX] 9):=⟨_,rfl⟩
  have BA:Hid (Below w.heap.size w wA):=by rw [hwA];exact B2.out.alloc B2.out.size _
  have hsA:w.heap.size≤w2.heap.size:=B2.out.size
  have OA:Hid (wA.ownsRow w2.heap.size 9 1 (.slice (some ⟨w2.heap.size,0,none⟩) 1 1) (HX :: framesM D (O.take 0)).length ((HX :: framesM D (O.take 0)).map Value.string)):=by
   rw [hwA]
   exact World.ownsRow_lit (e:=9) (size:=1) w2 #[.string HX] 1 (Nat.le_refl _) (by unfold maxLen;omega) (by simp)
  have hA2:w2.heap.size < wA.heap.size:=by rw [hwA];simp
  go_wp2_with fail
  rw [← hwA]
  clear hwA
  go_loopg [9,45] (n+1) (fun gg vo ii wr => ∃ k:Nat,k+gg=n+1∧ii=.int .i64 k∧k≤n+1∧Hid (wr.ownsRow w2.heap.size 9 1 vo (HX :: framesM D (O.take k)).length ((HX :: framesM D (O.take k)).map Value.string))∧Hid (Below w2.heap.size wA wr))
  case atStart => exact ⟨0,by omega,rfl,Nat.zero_le _,OA,Below.refl _ _⟩
  case round =>
   obtain ⟨k,hkg,rfl,hk,HOr,HBr⟩:=hrel
   have hws:=HBr.out.size
   have HWr:Hid (Below w.heap.size w wr):=BA.out.trans (HBr.out.mono hsA)
   cases gk with
   | zero =>
    have hlt':decide ((k:Int) < (n:Int)+1)=false:=by rw [decide_eq_false_iff_not];omega
    have hltn:decide (k < n+1)=false:=by rw [decide_eq_false_iff_not];omega
    have hke:k=n+1:=by omega
    rw [List.take_of_length_le (by have:=HOL.out;omega)] at HOr
    obtain ⟨TS,HTS⟩:∃ L,Hid (HX :: framesM D O=L):=⟨_,hide rfl⟩
    have hTl:TS.length≤1000000:=by
     have h1:=framesM_len D O
     have h2:=HON.out
     rw [← HTS.out,List.length_cons]
     omega
    rw [HTS.out] at HOr
    obtain ⟨a9,c9,hv9⟩:=slice_form HOr.out
    subst hv9
    obtain ⟨NM,HNM⟩:∃ N,Hid (segNm (Z.num:Int)=N):=⟨_,hide rfl⟩
    have HSN:Hid (∀ W:World,Calls Tryz.prog 99 #[.int .i64 (Z.num:Int)] W fun e w' => e=.returned (.string NM)∧w' = W):=fun W => by rw [← HNM.out];exact implSegName_any (Z.num:Int) W
    obtain ⟨wO,hwO⟩:∃ wO,wO=wr:=⟨_,rfl⟩
    subst hwO
    go_wp2_with fail
    refine (HSN.out _).mono ?_
    rintro e w3 ⟨rfl,hw3⟩
    subst w3
    go_wp2_with fail
    refine (newFileActs_any NM TS a9 c9 _ hTl (textsAt_own HOr.out)).mono ?_
    rintro e w4 ⟨⟨a4,c4,rfl,o4⟩,b4⟩
    have O4:=hide o4
    have B4:=hide b4
    have HW4:Hid (Below w.heap.size w w4):=HWr.out.trans (b4.mono HWr.out.size)
    clear o4 b4 hlt' hltn
    obtain ⟨NA,HNA⟩:∃ L,Hid (newsA NM TS=L):=⟨_,hide rfl⟩
    have hNA:NA.length=TS.length+2:=by rw [← HNA.out];unfold newsA;simp
    have HNAl:=hide hNA
    rw [HNA.out] at O4
    have hOO:=HW4.out.size
    have hwO4:wO.heap.size≤w4.heap.size:=B4.out.size
    clear hNA
    go_wp2_with fail
    go_loopg [12,64] n (fun gg vo ii wy => ∃ q:Nat,q+gg=n∧ii=.int .i64 q∧q≤n∧Hid (wy.ownsRow wO.heap.size 51 4 vo (NA ++ dropsM (O.take q)).length (cellsAct (NA ++ dropsM (O.take q))))∧Hid (Below wO.heap.size w4 wy))
    case atStart => exact ⟨0,by omega,rfl,Nat.zero_le _,by show World.ownsRow _ _ _ _ _ _ _;rw [List.take_zero,show dropsM []=[] from rfl,List.append_nil];exact O4.out,Below.refl _ _⟩
    case round =>
     clear HOr HBr hkg
     obtain ⟨q,hqg,rfl,hq,HOq,HBq⟩:=hrel
     have hwq:=HBq.out.size
     have HWq:Hid (Below w.heap.size w wr):=HW4.out.trans (HBq.out.mono HWr.out.size)
     cases gk with
     | zero =>
      have hlt':decide ((q:Int) < (n:Int))=false:=by rw [decide_eq_false_iff_not];omega
      have hltn:decide (q < n)=false:=by rw [decide_eq_false_iff_not];omega
      have HFin:Hid (actsM D l.dropLast Z.num=NA ++ dropsM (O.take q)):=by
       show _=_
       unfold actsM
       have h1:HX :: framesM D O=TS:=HTS.out
       rw [HO.out,HNM.out,HHX.out,h1,HNA.out,show q=n from by omega,List.dropLast_eq_take,HOL.out,Nat.add_sub_cancel]
      obtain ⟨hE1,hE2⟩:=hEq.out
      go_wp2
      refine bodyPost_ret (results_tmp2 rfl _ _ _) rfl ?_
      refine ⟨.inr ⟨hE1,_,rfl,?_⟩,HWq.out⟩
      rw [hE2,HFin.out]
      exact ownsRow_mono HOq.out HWr.out.size
     | succ g1 =>
      have hlt':decide ((q:Int) < (n:Int))=true:=by rw [decide_eq_true_eq];omega
      have hltn:decide (q < n)=true:=by rw [decide_eq_true_eq];omega
      have hqO:q < O.length:=by have:=HOL.out;omega
      have hq0:(0:Int)≤(q:Int):=by omega
      have hq1:(q:Int) < (n:Int):=by omega
      obtain ⟨gs,hgs,hgsw,hc0,hc1,⟨a,c,hc2,hrb⟩,⟨a',c',hc3,hrp⟩,hc4,hc5,hc6'⟩:=HOS.out _ HWq.out q hqO
      have HFT:=hide (dropsM_take hqO)
      clear hrb hrp
      generalize O[q]=S at hc0 hc1 hc2 hc3 hc4 hc5 hc6' HFT
      obtain ⟨L,HL⟩:∃ L,Hid (NA ++ dropsM (O.take q)=L):=⟨_,hide rfl⟩
      have hLl:L.length≤1048576:=by
       have:=HNAl.out
       rw [← HL.out,List.length_append]
       unfold dropsM
       rw [List.length_map,List.length_take]
       omega
      rw [HL.out] at HOq
      obtain ⟨NQ,HNQ⟩:∃ N,Hid (segNm (S.num:Int)=N):=⟨_,hide rfl⟩
      have HSQ:Hid (∀ W:World,Calls Tryz.prog 99 #[.int .i64 (S.num:Int)] W fun e w' => e=.returned (.string NQ)∧w' = W):=fun W => by rw [← HNQ.out];exact implSegName_any (S.num:Int) W
      obtain ⟨np,HNP⟩:∃ n,Hid (S.pls.length=n):=⟨_,hide rfl⟩
      obtain ⟨nb,HNB⟩:∃ n,Hid (S.bs.length=n):=⟨_,hide rfl⟩
      rw [HNP.out] at hc3
      rw [HNB.out] at hc2
      obtain ⟨wn,hwn⟩:∃ x,x=wr.alloc (.cells #[.int .i64 (S.num:Int),.int .i64 (S.frm:Int),.slice a nb c,.slice a' np c',.int .i64 (S.fin:Int),.bool S.right,.bool S.torn] 158):=⟨_,rfl⟩
      have BN0:Hid (Below wr.heap.size wr wn):=by rw [hwn];exact (Below.refl _ _).alloc (Nat.le_refl _) _
      have hnn:wr.heap.size≤wn.heap.size:=BN0.out.size
      obtain ⟨hz0,hz1,hz2,hz3,hz4,hz5,hz6⟩:=seven_cells (W:=wn) (g:=wr.heap.size) (by rw [hwn];exact heap_alloc_new wr _)
      have HON:=hide (ownsRow_below HOq.out BN0.out)
      have HBLK:Hid (∀ C:Array Value,(wn.alloc (.cells C 51)).heap[wr.heap.size+1]? = some (.cells C 51 (0,0))):=fun C => by
       have:=heap_alloc_new wn (.cells C 51)
       rwa [show wn.heap.size=wr.heap.size+1 from by rw [hwn];simp] at this
      subst hgs
      subst hwn
      go_wp2_with fail
      refine (HSQ.out _).mono ?_
      rintro e w5 ⟨rfl,hw5⟩
      subst w5
      clear hz0 hz1 hz2 hz3 hz4 hz5 hz6 hc0 hc1 hc2 hc3 hc4 hc5 hc6'
      go_wp2_with (at_builtin;refine app_act _ wO.heap.size (by rfl) _ _ (by rfl) _ L (dropA NQ) (by rfl) (HON.out.alloc _) (wr.heap.size+1) (by rfl) (HBLK.out _) hLl (by simp;omega) ?_;intro g5 cap5 w6 ho5 hb5 hg5 hgl5;have HO5:=hide ho5;have HB5:=hide hb5;clear ho5 hb5 hg5 hgl5)
      go_roundg g1
      case measure => omega
      case rel =>
       refine ⟨q+1,by omega,by go_num,by omega,?_,((HBq.out.trans (BN0.out.mono (by omega))).alloc (by omega) _).trans HB5.out⟩
       show World.ownsRow _ _ _ _ _ _ _
       rw [HFT.out,← List.append_assoc,HL.out,HNQ.out]
       exact HO5.out
   | succ g0 =>
    have hlt':decide ((k:Int) < (n:Int)+1)=true:=by rw [decide_eq_true_eq];omega
    have hltn:decide (k < n+1)=true:=by rw [decide_eq_true_eq];omega
    have hkO:k < O.length:=by have:=HOL.out;omega
    have hk0:(0:Int)≤(k:Int):=by omega
    have hk1:(k:Int) < (n:Int)+1:=by omega
    obtain ⟨gs,hgs,hgsw,hc0,hc1,⟨a,c,hc2,hrb⟩,⟨a',c',hc3,hrp⟩,hc4,hc5,hc6'⟩:=HOS.out _ HWr.out k hkO
    have HFT:=hide (framesM_take (D:=D) hkO)
    have HSl:=HOM.out O[k] (List.getElem_mem hkO)
    have HLk:=hide (fun W h1 h2 h3 h4 h5 h6 => HLF.out (O[k]'hkO) a a' c c' W h1 h2 h3 (HBL.out _ HSl) h4 h5 (HOK.out _ HSl) h6)
    have hfl:=framesM_len D (O.take (k+1))
    have hfl2:=segsN_take_le O (k+1)
    have hfl3:=HON.out
    rw [HFT.out,List.length_append] at hfl
    clear HSl
    generalize O[k]=S at hc0 hc1 hc2 hc3 hc4 hc5 hc6' hrb hrp HFT HLk hfl
    obtain ⟨L,HL⟩:∃ L,Hid (framesM D (O.take k)=L):=⟨_,hide rfl⟩
    rw [HL.out] at HOr HFT hfl
    obtain ⟨R,HR⟩:∃ L,Hid (frms D S=L):=⟨_,hide rfl⟩
    rw [HR.out] at HFT hfl HLk
    have HRB:=hide (rowBatch_rows hrb).2
    have HRP:=hide hrp
    clear hrb hrp
    obtain ⟨np,HNP⟩:∃ n,Hid (S.pls.length=n):=⟨_,hide rfl⟩
    obtain ⟨nb,HNB⟩:∃ n,Hid (S.bs.length=n):=⟨_,hide rfl⟩
    rw [HNP.out] at hc3 HRP HLk
    rw [HNB.out] at hc2 HLk
    obtain ⟨wn,hwn⟩:∃ x,x=wr.alloc (.cells #[.int .i64 (S.num:Int),.int .i64 (S.frm:Int),.slice a nb c,.slice a' np c',.int .i64 (S.fin:Int),.bool S.right,.bool S.torn] 158):=⟨_,rfl⟩
    have BN0:Hid (Below wr.heap.size wr wn):=by rw [hwn];exact (Below.refl _ _).alloc (Nat.le_refl _) _
    have BN:Hid (Below w2.heap.size wA wn):=HBr.out.trans (BN0.out.mono (by omega))
    have HWn:Hid (Below w.heap.size w wn):=HWr.out.trans (BN0.out.mono HWr.out.size)
    have HLn:=hide (HLk.out wn (Nat.lt_of_lt_of_le hg HWn.out.size) ((HWn.out.cell (p:=⟨g,6,none⟩) hg).trans hc6) (spotsAt_keep HD.out HWn.out) (batchesAt_keep HRB.out BN0.out) (rowNat_below HRP.out BN0.out) (sumTab_later HWn.out HT.out))
    obtain ⟨hz0,hz1,hz2,hz3,hz4,hz5,hz6⟩:=seven_cells (W:=wn) (g:=wr.heap.size) (by rw [hwn];exact heap_alloc_new wr _)
    subst hgs
    subst hwn
    go_wp2_with fail
    refine HLn.out.mono ?_
    rintro e w3 ⟨⟨v3,rfl,r3⟩,b3⟩
    obtain ⟨a3,c3,hv3⟩:=rowT_form r3
    subst hv3
    have B3:=hide (BN.out.trans (b3.mono (Nat.le_trans (Nat.le_of_lt hA2) BN.out.size)))
    have R3:=hide r3
    have O3:=hide (ownsRow_below (ownsRow_below HOr.out BN0.out) b3)
    have hs3:wA.heap.size≤w3.heap.size:=B3.out.size
    clear b3 r3 HLn HLk hz0 hz1 hz2 hz3 hz4 hz5 hz6 hc0 hc1 hc2 hc3 hc4 hc5 hc6'
    go_wp2_with (at_builtin;refine app_txs _ w2.heap.size (by rfl) _ _ (by rfl) _ (HX :: L) R (by rfl) O3.out _ _ (by rfl) R3.out (by simp;omega) (by omega) ?_;intro v5 w5 ho5 hb5;have HO5:=hide ho5;have HB5:=hide hb5;clear ho5 hb5)
    go_roundg g0
    case measure => omega
    case rel =>
     refine ⟨k+1,by omega,by go_num,by omega,?_,B3.out.trans HB5.out⟩
     show World.ownsRow _ _ _ _ _ _ _
     rw [HFT.out]
     exact HO5.out
end Go.Proofs.YtepdckehokdjlaaGreatDoor
