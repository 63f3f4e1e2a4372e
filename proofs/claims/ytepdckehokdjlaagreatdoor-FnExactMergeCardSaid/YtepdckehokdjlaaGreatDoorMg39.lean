import Derived.Test.YtepdckehokdjlaaGreatDoorMg38
import Derived.Test.YtepdckehokdjlaaGreatDoorMg35
import Derived.Test.YtepdckehokdjlaaGreatDoorMg3
set_option maxRecDepth 100000
set_option maxHeartbeats 6400000
namespace Go.Proofs.YtepdckehokdjlaaGreatDoor
open Go.RowKit
def lastNum (l:List SegD):Nat:=(l[l.length - 2]?.map SegD.num).getD 0
theorem lastNum_at {l:List SegD} (h:1 < l.length):(l[l.length - 2]'(by omega)).num=lastNum l:=by
 unfold lastNum
 rw [List.getElem?_eq_getElem (by omega)]
 rfl
def mergOk (fs:List FileD) (room act seq:Int) (dir:List SpotD):Bool:=engOkB fs room act seq dir && decide (1 < (segsL fs).length)
def mergE (fs:List FileD) (room act seq:Int) (dir:List SpotD):List ActD:=bif mergOk fs room act seq dir then actsM (dirD fs) (segsL fs).dropLast (lastNum (segsL fs)) else []
theorem mergE_yes {fs:List FileD} {room act seq:Int} {dir:List SpotD} (h:mergOk fs room act seq dir=true):mergE fs room act seq dir=actsM (dirD fs) (segsL fs).dropLast (lastNum (segsL fs)):=by
 unfold mergE
 rw [h]
 rfl
theorem mergE_no {fs:List FileD} {room act seq:Int} {dir:List SpotD} (h:mergOk fs room act seq dir=false):mergE fs room act seq dir=[]:=by
 unfold mergE
 rw [h]
 rfl
theorem actsM_len (fs:List FileD) (n:Nat):(actsM (dirD fs) (segsL fs).dropLast n).length≤700000:=by
 unfold actsM newsA dropsM
 have h1:=framesM_len (dirD fs) (segsL fs).dropLast
 have h2:segsN (segsL fs).dropLast≤segsN (segsL fs):=by rw [List.dropLast_eq_take];exact segsN_take_le _ _
 have h3:=segsL_N fs
 have h4:=segsL_len fs
 simp only [List.length_append,List.length_map,List.length_cons,List.length_nil,List.length_dropLast]
 omega
theorem mergE_len (fs:List FileD) (room act seq:Int) (dir:List SpotD):(mergE fs room act seq dir).length≤1000000:=by
 cases h:mergOk fs room act seq dir with
 | false => rw [mergE_no h];exact Nat.zero_le _
 | true => rw [mergE_yes h];have:=actsM_len fs (lastNum (segsL fs));omega
theorem owns_cap {w:World} {B:Nat} {e:TypeId} {s n cap m:Nat} {ao:Option Addr} {xs:List Value} (h:w.ownsRow B e s (.slice ao m cap) n xs):n≤cap:=by
 rcases h.2 with ⟨hv,hn⟩ | ⟨g,cap',cur,hv,hB,hC,hle,_⟩
 · cases hv;omega
 · cases hv;exact hle
theorem grow_step {a b c d:World} {r s:Option Nat} (h1:a.grownBy b r) (h2:Below b.heap.size b c) (h3:c.grownBy d s) (hs:∀ g,s=some g→r=some g ∨ a.heap.size≤g):a.grownBy d r :=
 ⟨h3.os.trans (h2.os.trans h1.os),h3.tape.trans (h2.tape.trans h1.tape),h3.output.trans (h2.output.trans h1.output),Nat.le_trans h1.size (Nat.le_trans h2.size h3.size),fun k hk hr => by
  rw [h3.block k (Nat.lt_of_lt_of_le hk (Nat.le_trans h1.size h2.size)) ?_,h2.block k (Nat.lt_of_lt_of_le hk h1.size),h1.block k hk hr]
  intro e
  rcases hs k e.symm with h | h
  · exact hr h.symm
  · omega⟩
theorem app_actG {ops:Array Oper} {rest:List Oper} {o:Oper} {a:Act} {Q:Exit→Act→World→Prop} (W:World) (B:Nat) (hgd:o.guard=none) (s y:Operand)
  (ho:o.op=.call { callee:=.builtin .append,args:=#[s,y],argTypes:=#[35,35] }) (v:Value) (l:List ActD) (F:ActD) (hs:a.eval s=v)
  (hown:W.ownsRow B 51 4 v l.length (cellsAct l)) (k:Nat) (hx:a.eval y=.slice (some ⟨k,0,none⟩) 1 1) (hblk:W.heap[k]? = some (.cells #[.int .i64 F.kind,.string F.name,.string F.text,.string F.toN] 51 (0,0)))
  (hlen:l.length≤1048576) (hbase:B≤W.heap.size)
  (h:∀ g cap w',w'.ownsRow B 51 4 (.slice (some ⟨g,0,none⟩) (l.length+1) cap) (l ++ [F]).length (cellsAct (l ++ [F]))→Below B W w'→W.grownBy w' v.ownBlock→(v.ownBlock=some g ∨ g=W.heap.size)→wpList Tryz.prog ops Q rest (a.put o.dst (.slice (some ⟨g,0,none⟩) (l.length+1) cap)) w') :
  wpList Tryz.prog ops Q (o :: rest) a W:=by
 obtain ⟨i0,hi,hz0,hz1,hz2⟩:=info_parts Tryz.infoAct
 refine wpList_append_lies W hgd s y 35 ho B 51 i0 (.agg #[.int .i64 0,.string ⟨#[]⟩,.string ⟨#[]⟩,.string ⟨#[]⟩]) 4 56 Tryz.underlying35 hi hz0 hz1 hz2 rfl (by decide) v l.length (cellsAct l) hs hown ⟨k,0,none⟩ 1 1 (cellsAct [F]) hx (by rw [cellsAct_length];rfl)
  (fun j u hj => World.news_of_block hblk j u hj) (cellsAct_one [F]) (by omega) (by unfold maxLen;omega) (by omega) hbase W.heap.size rfl ?_
 intro g cap w' hown' hgrow hg hgl
 have hlt:=hown.lt
 refine h g cap w' ?_ ((Below.refl B W).grown hgrow hbase (fun k hk => (hlt k hk).1)) hgrow hg
 rw [cellsAct_append,List.length_append]
 exact hown'
theorem specFrameO_any (t:ByteArray) (w:World):Calls Tryz.prog 43 #[.string t] w fun e w' => (∃ b,e=.returned (.tuple #[.string (frameO t),.bool b]))∧Below w.heap.size w w':=by
 by_cases h:1≤t.size∧t.size≤9000
 ·
  refine (specFrame_yes t w h.1 h.2).mono ?_
  rintro e w' ⟨rfl,b⟩
  unfold frameO
  rw [if_pos h]
  exact ⟨⟨_,rfl⟩,b⟩
 ·
  refine (specFrame_no t w (by omega)).mono ?_
  rintro e w' ⟨rfl,rfl⟩
  unfold frameO
  rw [if_neg h]
  exact ⟨⟨_,rfl⟩,Below.refl _ _⟩
theorem specMergeActs_any (fs:List FileD) (ao ad:Option Addr) (cap cd:Nat) (room act seq:Int) (dir:List SpotD) (w:World) (hl:fs.length≤1048576) (hfs:FilesAt w ao fs) (hsz:∀ F ∈ fs,F.name.size≤1048576∧F.text.size≤1048576) (hld:dir.length≤1048576) (hds:SpotsAt w ad dir) :
  Calls Tryz.prog 16 #[.agg #[.slice ao fs.length cap,.int .i64 room,.int .i64 act,.int .i64 seq,.slice ad dir.length cd]] w fun e w' => (∃ v,e=.returned (.tuple #[v,.bool (mergOk fs room act seq dir)])∧RowAct w' w.heap.size v (mergE fs room act seq dir))∧Below w.heap.size w w':=by
 have HEO:=hide (fun W h1 h2 => specEngineOk_any fs ao ad cap cd room act seq dir W hl h1 hsz hld h2)
 have HSG:=hide (fun W hW => specSegments_any fs ao cap W hl hW hsz)
 have HS:=hide hsz
 have HF:=hide hfs
 have HD:=hide hds
 clear hfs hds hsz
 obtain ⟨wb,hwb⟩:∃ wb,wb=(w.alloc (.cells #[.slice ao fs.length cap,.int .i64 room,.int .i64 act,.int .i64 seq,.slice ad dir.length cd] 34)).alloc (.cells #[] 51):=⟨_,rfl⟩
 have HB0:Hid (Below w.heap.size w wb):=by rw [hwb];exact ((Below.refl _ w).alloc (Nat.le_refl _) _).alloc (by simp) _
 have hbs:wb.heap.size=w.heap.size+2:=by rw [hwb];simp
 have HBK:Hid (wb.heap[w.heap.size]? = some (.cells #[.slice ao fs.length cap,.int .i64 room,.int .i64 act,.int .i64 seq,.slice ad dir.length cd] 34 (0,0))):=by
  show _=_
  rw [hwb]
  exact (Below.heap_alloc _ _ _ (by simp)).trans (heap_alloc_new w _)
 have HO0:Hid (RowAct wb w.heap.size (.slice (some ⟨w.heap.size+1,0,none⟩) 0 0) []):=by
  rw [hwb]
  have:=World.ownsRow_lit (e:=51) (size:=4) (w.alloc (.cells #[.slice ao fs.length cap,.int .i64 room,.int .i64 act,.int .i64 seq,.slice ad dir.length cd] 34)) #[] 0 (Nat.le_refl _) (by unfold maxLen;omega) (by simp)
  refine rowAct_le (B:=w.heap.size+1) (rowAct_own ?_) (Nat.le_succ _)
  simpa [cellsAct] using this
 obtain ⟨R,HR⟩:∃ R,Hid (mergE fs room act seq dir=R):=⟨_,hide rfl⟩
 obtain ⟨OK,HOK⟩:∃ K,Hid (mergOk fs room act seq dir=K):=⟨_,hide rfl⟩
 rw [HR.out,HOK.out]
 have hll:=segsL_len fs
 obtain ⟨l,HL⟩:∃ l,Hid (segsL fs=l):=⟨_,hide rfl⟩
 obtain ⟨NS,HNS⟩:∃ n,Hid (l.map SegD.num=n):=⟨_,hide rfl⟩
 have HNL:Hid (NS.length=l.length):=by show _=_;rw [← HNS.out,List.length_map]
 have HNG:Hid (∀ k (h:k < l.length) (h':k < NS.length),NS[k]=l[k].num):=by intro k h h';have:=HNS.out;subst this;simp
 rw [HL.out,HNS.out] at HSG
 rw [HL.out] at hll
 generalize segsOk fs=sok at HSG
 obtain ⟨K,HK⟩:∃ K,Hid (engOkB fs room act seq dir=K):=⟨_,hide rfl⟩
 rw [HK.out] at HEO
 obtain ⟨hz0,hz1,hz2,hz3,hz4,-⟩:=five_cells HBK.out
 go_enter Tryz.func16,Tryz.ntmps16
 go_wp2_with fail
 rw [← hwb]
 clear hwb
 go_wp2_with fail
 refine (HSG.out _ (filesAt_keep HF.out HB0.out)).mono ?_
 rintro e w1 ⟨⟨v1,rfl,g1⟩,b1⟩
 obtain ⟨a1,c1,rfl⟩:=slice_form g1
 have G1:Hid (RowNat w1 wb.heap.size (.slice a1 NS.length c1) NS):=g1
 have B1:=hide b1
 have HBK1:=hide ((b1.block _ (heap_lt HBK.out)).trans HBK.out)
 have HO1:=hide (rowAct_below HO0.out b1)
 have HW1:Hid (Below w.heap.size w w1):=HB0.out.trans (b1.mono HB0.out.size)
 have hw1:wb.heap.size≤w1.heap.size:=b1.size
 rw [HNL.out] at G1
 rw [HNL.out]
 clear g1 b1 hz0 hz1 hz2 hz3 hz4
 obtain ⟨hz0,hz1,hz2,hz3,hz4,-⟩:=five_cells HBK1.out
 have hbl:w.heap.size < w1.heap.size:=heap_lt HBK1.out
 go_wp2_with fail
 refine (HEO.out _ (filesAt_keep HF.out HW1.out) (spotsAt_keep HD.out HW1.out)).mono ?_
 rintro e w2 ⟨rfl,b2⟩
 have HW2:Hid (Below w.heap.size w w2):=HW1.out.trans (b2.mono HW1.out.size)
 have HBK2:=hide ((b2.block _ (heap_lt HBK1.out)).trans HBK1.out)
 have HO2:=hide (rowAct_below HO1.out b2)
 have G2:=hide (rowNat_below G1.out b2)
 have hw2:w1.heap.size≤w2.heap.size:=b2.size
 clear b2 hz0 hz1 hz2 hz3 hz4
 cases K with
 | false =>
  have hO:Hid (OK=false):=by show _=_;rw [← HOK.out];unfold mergOk;rw [HK.out];rfl
  have hR:Hid (R=[]):=by show _=_;rw [← HR.out];exact mergE_no (HOK.out.trans hO.out)
  go_wp2_with fail
  first | go_quiet (fail) | skip
  go_wp2
  refine bodyPost_ret (results_tmp2 rfl _ _ _) rfl ?_
  rw [hO.out,hR.out]
  exact ⟨⟨_,rfl,HO2.out⟩,HW2.out⟩
 | true =>
  by_cases h1:1 < l.length
  ·
   have hO:Hid (OK=true):=by show _=_;rw [← HOK.out];unfold mergOk;rw [HK.out,HL.out,decide_eq_true h1];rfl
   have hR:Hid (R=actsM dir l.dropLast (lastNum l)):=by
    show _=_
    rw [← HR.out,mergE_yes (HOK.out.trans hO.out),HL.out,(engOkB_iff.1 HK.out).2.2.2.2.2]
   obtain ⟨n,hn⟩:∃ n,l.length=n+1+1:=⟨l.length - 2,by omega⟩
   have hn2:decide ((n:Int)+1+1 < 2)=false:=by rw [decide_eq_false_iff_not];omega
   have HNN:=hide hn
   rw [hn]
   rw [hn] at G2
   obtain ⟨Z,HZ⟩:∃ Z,Hid ((l[l.length - 2]'(by omega)).num=Z):=⟨_,hide rfl⟩
   have HLN:Hid (lastNum l=Z):=(lastNum_at h1).symm.trans HZ.out
   obtain ⟨g,hg,hgw,hgc⟩:=rowNat_at G2.out n (by rw [HNL.out];omega)
   subst hg
   have hgZ:w2.cell? ⟨g,n,none⟩=some (.int .i64 (Z:Int)):=by
    rw [hgc,HNG.out n (by omega) (by rw [HNL.out];omega),← HZ.out]
    congr 3
    simp only [hn]
    rfl
   clear hgc
   have hn0:(0:Int)≤(n:Int):=by omega
   have hcap:n+1+1≤c1:=by have:=owns_cap G2.out;rw [HNL.out] at this;omega
   obtain ⟨O,HO⟩:∃ O,Hid (l.dropLast=O):=⟨_,hide rfl⟩
   have HOL:Hid (O.length=n+1):=by show _=_;rw [← HO.out,List.length_dropLast,hn];omega
   have HOM:Hid (∀ S ∈ O,S ∈ segsL fs):=fun S hS => by rw [← HO.out] at hS;rw [HL.out];exact (List.dropLast_sublist l).subset hS
   have HON:Hid (∀ k (h:k < O.length),w2.cell? ⟨g,k,none⟩=some (.int .i64 (O[k].num:Int))):=fun k h => by
    have hk:k < l.length:=by have:=HOL.out;omega
    obtain ⟨g',hg',-,hc⟩:=rowNat_at G2.out k (by rw [HNL.out];omega)
    cases hg'
    rw [hc,HNG.out k hk (by rw [HNL.out];omega)]
    congr 3
    simp only [← HO.out,List.getElem_dropLast]
   have HSN:Hid (segsN O≤666700):=by
    show _≤_
    rw [← HO.out,List.dropLast_eq_take,← HL.out]
    exact Nat.le_trans (segsN_take_le _ _) (segsL_N fs)
   have hn98:n≤98:=by omega
   rw [HO.out] at hR
   clear HZ hn h1 hll HNN G1 G2
   go_wp2_with fail
   refine (specHeadText_any (Z:Int) (Z:Int) _).mono ?_
   rintro e w3 ⟨rfl,b3⟩
   obtain ⟨HX,HHX⟩:∃ x,Hid (headT (Z:Int) (Z:Int)=x):=⟨_,hide rfl⟩
   rw [HHX.out]
   have HW3:Hid (Below w.heap.size w w3):=HW2.out.trans (b3.mono HW2.out.size)
   have B23:=hide b3
   have hw3:w2.heap.size≤w3.heap.size:=b3.size
   obtain ⟨wA,hwA⟩:∃ x,x=w3.alloc (.cells #[.int .i64 1,.string ⟨#[109,43]⟩,.string HX,.string ⟨#[]⟩] 51):=⟨_,rfl⟩
   have B2A:Hid (Below w2.heap.size w2 wA):=by rw [hwA];exact B23.out.alloc B23.out.size _
   have BA:Hid (Below w.heap.size w wA):=HW2.out.trans (B2A.out.mono HW2.out.size)
   have OA:Hid (wA.ownsRow w3.heap.size 51 4 (.slice (some ⟨w3.heap.size,0,none⟩) 1 1) ((HX :: framesM dir (O.take 0)).map addA).length (cellsAct ((HX :: framesM dir (O.take 0)).map addA))):=by
    rw [hwA]
    exact World.ownsRow_lit (e:=51) (size:=4) w3 #[.int .i64 1,.string ⟨#[109,43]⟩,.string HX,.string ⟨#[]⟩] 1 (Nat.le_refl _) (by unfold maxLen;omega) (by simp)
   have hA3:w3.heap.size < wA.heap.size:=by rw [hwA];simp
   have HBKA:=hide ((B2A.out.block _ (heap_lt HBK2.out)).trans HBK2.out)
   clear b3
   go_wp2_with fail
   rw [← hwA]
   clear hwA
   have HSF:Hid (∀ s ∈ segsL fs,s.num≤99∧s.frm≤s.num∧∃ F ∈ fs,fileD fs (segNm s.num)=some F∧segFrom (s.num:Int) F.text=s.frm∧segBatches (s.num:Int) F.text=s.bs):=fun s hs => segsL_file hs
   have HTK:Hid (∀ s ∈ segsL fs,∀ j (hj:j < s.bs.length),toldB dir (s.num:Int) ((s.hd+totD (s.bs.take j):Nat):Int)=decide (0 < (livK dir s j).length)∧keptS dir (s.num:Int) ((s.hd+totD (s.bs.take j):Nat):Int) s.bs[j].chs=livK dir s j):=fun s hs j hj => by
    have hd:=(engOkB_iff.1 HK.out).2.2.2.2.2
    have e:livK (dirD fs) s j=liveI (dirD fs) (s.num:Int) ((s.hd+totD (s.bs.take j):Nat):Int) s.bs[j].seq s.bs[j].chs:=by unfold livK;rw [List.getElem?_eq_getElem hj]
    rw [← hd,e]
    exact ⟨told_live_at hs hj,kept_live_at hs hj⟩
   have hdl:dir.length≤1000000:=by
    have hd:=(engOkB_iff.1 HK.out).2.2.2.2.2
    rw [← hd]
    have:=dirD_len fs
    omega
   go_loopg [11,12] (n+1) (fun gg vo ii wr => ∃ k:Nat,k+gg=n+1∧ii=.int .i64 k∧k≤n+1∧Hid (wr.ownsRow w3.heap.size 51 4 vo ((HX :: framesM dir (O.take k)).map addA).length (cellsAct ((HX :: framesM dir (O.take k)).map addA)))∧Hid (Below w3.heap.size wA wr))
   case atStart => exact ⟨0,by omega,rfl,Nat.zero_le _,OA,Below.refl _ _⟩
   case round =>
    obtain ⟨k,hkg,rfl,hk,HOr,HBr⟩:=hrel
    have hws:=HBr.out.size
    have B2r:Hid (Below w2.heap.size w2 wr):=B2A.out.trans (HBr.out.mono hw3)
    have HWr:Hid (Below w.heap.size w wr):=HW2.out.trans (B2r.out.mono HW2.out.size)
    cases gk with
    | zero =>
     have hlt':decide ((k:Int) < (n:Int)+1)=false:=by rw [decide_eq_false_iff_not];omega
     have hltn:decide (k < n+1)=false:=by rw [decide_eq_false_iff_not];omega
     rw [List.take_of_length_le (by have:=HOL.out;omega)] at HOr
     obtain ⟨M,HM⟩:∃ M,Hid ((HX :: framesM dir O).map addA=M):=⟨_,hide rfl⟩
     have hMl:M.length≤700000:=by
      have h1:=framesM_len dir O
      have h2:=HSN.out
      rw [← HM.out]
      simp only [List.length_map,List.length_cons]
      omega
     rw [HM.out] at HOr
     obtain ⟨NM,HNM⟩:∃ NM,Hid (segNm (Z:Int)=NM):=⟨_,rfl⟩
     have HNa:Hid (∀ W:World,Calls Tryz.prog 38 #[.int .i64 (Z:Int)] W fun e w' => e=.returned (.string NM)∧Below W.heap.size W w'):=fun W => by rw [← HNM.out];exact specSegName_any (Z:Int) W
     obtain ⟨wO,hwO⟩:∃ wO,wO=wr:=⟨_,rfl⟩
     subst hwO
     go_wp2_with fail
     refine (HNa.out _).mono ?_
     rintro e w5 ⟨rfl,b5⟩
     have B5:=hide b5
     have hs5:wO.heap.size≤w5.heap.size:=b5.size
     clear b5
     go_wp2_with (at_builtin;refine app_acts _ w3.heap.size (by rfl) _ _ (by rfl) _ M [⟨2,nmNew,⟨#[]⟩,⟨#[]⟩⟩,⟨3,nmNew,⟨#[]⟩,NM⟩] (by rfl) ((ownsRow_below HOr.out B5.out).alloc _) w5.heap.size 2 (by rfl) (by rfl) (heap_alloc_new w5 _) (by omega) (by omega) (by omega) (by simp;omega) ?_;intro g7 cap7 w7 ho7 hb7 hg7 hgl7;have HO7:=hide ho7;have HB7:Hid (Below w3.heap.size wO w7):=(((B5.out.mono (by omega)).alloc (by omega) _).trans hb7);clear ho7 hb7 hg7 hgl7)
     obtain ⟨NA,HNA⟩:∃ L,Hid (M ++ [⟨2,nmNew,⟨#[]⟩,⟨#[]⟩⟩,⟨3,nmNew,⟨#[]⟩,NM⟩]=L):=⟨_,hide rfl⟩
     have HNAl:Hid (NA.length=M.length+2):=by show _=_;rw [← HNA.out];simp
     rw [HNA.out] at HO7
     clear hlt' hltn
     have HW7:Hid (Below w2.heap.size w2 w7):=B2r.out.trans (HB7.out.mono hw3)
     go_wp2_with fail
     go_loopg [11,27] n (fun gg vo ii wy => ∃ q:Nat,q+gg=n∧ii=.int .i64 q∧q≤n∧Hid (wy.ownsRow w3.heap.size 51 4 vo (NA ++ dropsM (O.take q)).length (cellsAct (NA ++ dropsM (O.take q))))∧Hid (Below w3.heap.size w7 wy))
     case atStart => exact ⟨0,by omega,rfl,Nat.zero_le _,by show World.ownsRow _ _ _ _ _ _ _;rw [List.take_zero,show dropsM []=[] from rfl,List.append_nil];exact HO7.out,Below.refl _ _⟩
     case round =>
      clear HOr hkg
      obtain ⟨q,hqg,rfl,hq,HOq,HBq⟩:=hrel
      have hwq:=HBq.out.size
      have HWq:Hid (Below w2.heap.size w2 wr):=HW7.out.trans (HBq.out.mono hw3)
      cases gk with
      | zero =>
       have hlt':decide ((q:Int)+1 < (n:Int)+1)=false:=by rw [decide_eq_false_iff_not];omega
       have hltm:decide ((q:Int) < (n:Int))=false:=by rw [decide_eq_false_iff_not];omega
       have hltn:decide (q < n)=false:=by rw [decide_eq_false_iff_not];omega
       have HFin:Hid (R=NA ++ dropsM (O.take q)):=by
        show _=_
        rw [hR.out,HLN.out]
        unfold actsM newsA
        have h1:(headT (Z:Int) (Z:Int) :: framesM dir O).map addA=M:=by rw [HHX.out];exact HM.out
        rw [HNM.out,h1,HNA.out,show q=n from by omega,List.dropLast_eq_take,HOL.out,Nat.add_sub_cancel]
       go_wp2
       refine bodyPost_ret (results_tmp2 rfl _ _ _) rfl ?_
       rw [hO.out,HFin.out]
       exact ⟨⟨_,rfl,rowAct_own (ownsRow_mono HOq.out HW3.out.size)⟩,HW2.out.trans (HWq.out.mono HW2.out.size)⟩
      | succ g1 =>
       have hlt':decide ((q:Int)+1 < (n:Int)+1)=true:=by rw [decide_eq_true_eq];omega
       have hltm:decide ((q:Int) < (n:Int))=true:=by rw [decide_eq_true_eq];omega
       have hltn:decide (q < n)=true:=by rw [decide_eq_true_eq];omega
       have hqO:q < O.length:=by have:=HOL.out;omega
       have hq0:(0:Int)≤(q:Int):=by omega
       have hq1:(q:Int) < (n:Int)+1:=by omega
       have hc0:=(HWq.out.cell (p:=⟨g,q,none⟩) hgw).trans (HON.out q hqO)
       have HFT:=hide (dropsM_take hqO)
       generalize O[q]=S at hc0 HFT
       obtain ⟨L,HLL⟩:∃ L,Hid (NA ++ dropsM (O.take q)=L):=⟨_,hide rfl⟩
       have hLl:L.length≤1048576:=by
        have:=HNAl.out
        rw [← HLL.out,List.length_append]
        unfold dropsM
        rw [List.length_map,List.length_take]
        omega
       rw [HLL.out] at HOq
       obtain ⟨NQ,HNQ⟩:∃ N,Hid (segNm (S.num:Int)=N):=⟨_,hide rfl⟩
       have HSQ:Hid (∀ W:World,Calls Tryz.prog 38 #[.int .i64 (S.num:Int)] W fun e w' => e=.returned (.string NQ)∧Below W.heap.size W w'):=fun W => by rw [← HNQ.out];exact specSegName_any (S.num:Int) W
       obtain ⟨wP,hwP⟩:∃ wO,wO=wr:=⟨_,rfl⟩
       subst hwP
       go_wp2_with fail
       refine (HSQ.out _).mono ?_
       rintro e w8 ⟨rfl,b8⟩
       have B8:=hide b8
       have hs8:wP.heap.size≤w8.heap.size:=b8.size
       have hs7:w3.heap.size≤w7.heap.size:=by have:=HB7.out.size;omega
       clear b8 hc0
       go_wp2_with (at_builtin;refine app_act _ w3.heap.size (by rfl) _ _ (by rfl) _ L (dropA NQ) (by rfl) ((ownsRow_below HOq.out B8.out).alloc _) w8.heap.size (by rfl) (heap_alloc_new w8 _) hLl (by simp;omega) ?_;intro g5 cap5 w9 ho5 hb5 hg5 hgl5;have HO5:=hide ho5;have HB5:=hide hb5;clear ho5 hb5 hg5 hgl5)
       go_roundg g1
       case measure => omega
       case rel =>
        refine ⟨q+1,by omega,by go_num,by omega,?_,((HBq.out.trans (B8.out.mono (by omega))).alloc (by omega) _).trans HB5.out⟩
        show World.ownsRow _ _ _ _ _ _ _
        rw [HFT.out,← List.append_assoc,HLL.out,HNQ.out]
        exact HO5.out
    | succ g0 =>
     obtain ⟨wO,hwO⟩:∃ wO,wO=wr:=⟨_,rfl⟩
     subst hwO
     have hlt':decide ((k:Int) < (n:Int)+1)=true:=by rw [decide_eq_true_eq];omega
     have hltn:decide (k < n+1)=true:=by rw [decide_eq_true_eq];omega
     have hkO:k < O.length:=by have:=HOL.out;omega
     have hi0:(0:Int)≤(k:Int):=by omega
     have hi1:(k:Int) < (n:Int)+1:=by omega
     have hc0:=HON.out k hkO
     have HFT:=hide (framesM_take (D:=dir) hkO)
     have HAl:=HOM.out O[k] (List.getElem_mem hkO)
     obtain ⟨hn99,hfn,F,hFm,hfd,hsf,hsb⟩:=HSF.out O[k] HAl
     have HOKk:Hid (∀ b ∈ O[k].bs,textOkD b.seq b.chs=true):=segsL_ok HAl
     have HTKk:=hide (HTK.out O[k] HAl)
     have hbl3:=segsL_three HAl
     have hfl:=framesM_len dir (O.take (k+1))
     have hfl2:=segsN_take_le O (k+1)
     have hfl3:=HSN.out
     rw [HFT.out,List.length_append] at hfl
     clear HAl
     generalize O[k]=A at hc0 HFT hn99 hfn hfd hsf hsb HOKk hbl3 HTKk hfl
     have hFz:=(HS.out F hFm).2
     have HRS:=hide (fun W => specReadSegment_any (A.num:Int) F.text W hFz)
     unfold SegLeft at HRS
     rw [hsf,hsb] at HRS
     generalize segEnd (A.num:Int) F.text=en0 at HRS
     generalize segOk (A.num:Int) F.text=ok0 at HRS
     have hhd:=headT_hd hn99 hfn
     have HHT:=hide (fun W => specHeadText_any (A.num:Int) (A.frm:Int) W)
     obtain ⟨HT,HHTT⟩:∃ t,Hid (headT (A.num:Int) (A.frm:Int)=t):=⟨_,hide rfl⟩
     rw [HHTT.out] at HHT hhd
     generalize (decide (0≤(A.num:Int)∧(A.num:Int)≤99∧0≤(A.frm:Int)∧(A.frm:Int)≤(A.num:Int)))=okh at HHT
     have HHD:=hide hhd
     clear hhd
     obtain ⟨NM,HNM⟩:∃ NM,Hid (segNm (A.num:Int)=NM):=⟨_,rfl⟩
     have HNa:Hid (∀ W:World,Calls Tryz.prog 38 #[.int .i64 (A.num:Int)] W fun e w' => e=.returned (.string NM)∧Below W.heap.size W w'):=fun W => by rw [← HNM.out];exact specSegName_any (A.num:Int) W
     have HAT:Hid (∀ W,Below wO.heap.size wO W→Calls Tryz.prog 37 #[.agg #[.slice ao fs.length cap],.string NM] W fun e w' => e=.returned (.tuple #[.string F.text,.bool true])∧Below W.heap.size W w'):=fun W hW => specFileAt_some' fs ao cap NM W F hl (filesAt_keep HF.out (HWr.out.trans (hW.mono HWr.out.size))) (by rw [← HNM.out];exact hfd)
     clear hfd hsf hsb hFm
     obtain ⟨L,HLL⟩:∃ L,Hid (framesM dir (O.take k)=L):=⟨_,hide rfl⟩
     rw [HLL.out] at HOr HFT hfl
     obtain ⟨ax,cx,hvx⟩:=slice_form HOr.out
     subst hvx
     have hd0:wO.cell? ⟨w.heap.size,0,none⟩=some (.slice ao fs.length cap):=(cell_of_row wO _ 0 _ _ (0,0) ((B2r.out.block _ (heap_lt HBK2.out)).trans HBK2.out)).trans rfl
     have hd1:=(B2r.out.cell (p:=⟨g,k,none⟩) hgw).trans hc0
     have hz0:w.heap.size < wO.heap.size:=by have:=heap_lt HBK2.out;have:=B2r.out.size;omega
     have hz1:g < wO.heap.size:=by have:=B2r.out.size;omega
     go_wp2_with fail
     go_region_held3 (fun w' => w'.cell? ⟨w.heap.size,0,none⟩=some (.slice ao fs.length cap)∧w'.cell? ⟨g,k,none⟩=some (.int .i64 (A.num:Int))) (first | go_keep | (exact ⟨hd0,hd1⟩) | (exact ⟨(b2.cell (p:=⟨w.heap.size,0,none⟩) hz0).trans hd0,(b2.cell (p:=⟨g,k,none⟩) hz1).trans hd1⟩) | (exact ⟨((b2.trans (b3.mono b2.size)).cell (p:=⟨w.heap.size,0,none⟩) hz0).trans hd0,((b2.trans (b3.mono b2.size)).cell (p:=⟨g,k,none⟩) hz1).trans hd1⟩)) ((first | (go_at_call 38;refine (HNa.out _).mono ?_;rintro e w5 ⟨rfl,b2⟩) | (go_at_call 37;refine (HAT.out _ (by first | exact b2 | exact (Below.refl _ _).drew.trans b2)).mono ?_;rintro e w6 ⟨rfl,b3⟩)))
     have B6:Hid (Below wO.heap.size wO w6):=(Below.refl _ _).drew.trans (b2.trans (b3.mono b2.size))
     clear b2 b3 hd0 hd1
     have hd1:w6.cell? ⟨g,k,none⟩=some (.int .i64 (A.num:Int)):=((B2r.out.trans (B6.out.mono (by have:=B2r.out.size;omega))).cell (p:=⟨g,k,none⟩) hgw).trans hc0
     go_wp2_with fail
     refine (HRS.out _).mono ?_
     rintro e w7 ⟨⟨v7,rfl,r7⟩,b7⟩
     obtain ⟨a7,c7,rfl,-⟩:=rowBatch_at r7
     have R7:=hide r7
     have B7:=hide (B6.out.trans (b7.mono B6.out.size))
     clear r7 b7 hd1
     have hd1:w7.cell? ⟨g,k,none⟩=some (.int .i64 (A.num:Int)):=((B2r.out.trans (B7.out.mono (by have:=B2r.out.size;omega))).cell (p:=⟨g,k,none⟩) hgw).trans hc0
     go_wp2_with fail
     refine (HHT.out _).mono ?_
     rintro e w8 ⟨rfl,b8⟩
     have R8:=hide (rowBatch_below R7.out b8)
     have B8:=hide (B7.out.trans (b8.mono B7.out.size))
     clear b8 hd1 R7
     have H8:Hid (Below w2.heap.size w2 w8):=B2r.out.trans (B8.out.mono (by have:=B2r.out.size;omega))
     have hw8:wO.heap.size≤w8.heap.size:=B8.out.size
     have HO8:=hide (ownsRow_below HOr.out B8.out)
     have hbln:A.bs.length≤6667:=by have:=chsN_len A.bs (fun b hb => textOk_one (HOKk.out b hb));omega
     have HF0:Hid (frmsTo dir A 0=[]):=rfl
     obtain ⟨r0,HR0⟩:∃ r,Hid ((Value.slice ax ((HX :: L).map addA).length cx).ownBlock=r):=⟨_,hide rfl⟩
     have HRF:Hid (∀ X,w8.grownBy X r0→BatchesAt X a7 A.bs):=fun X hX => by
      refine (rowBatch_rows (rowBatch_far R8.out hX (fun g hg => ?_))).2
      obtain ⟨C,hC⟩:=owns_block HO8.out (HR0.out.trans hg)
      exact ⟨C,_,hC,by decide,by decide⟩
     clear B6 B7 HOr hlt' hltn
     go_wp2_with fail
     go_loopg [11,21,22] A.bs.length (fun g2 vo va ii wy => ∃ (j:Nat),j+g2=A.bs.length∧va=.int .i64 ((A.hd+totD (A.bs.take j):Nat):Int)∧ii=.int .i64 j∧j≤A.bs.length∧Hid (wy.ownsRow w3.heap.size 51 4 vo ((HX :: (L ++ frmsTo dir A j)).map addA).length (cellsAct ((HX :: (L ++ frmsTo dir A j)).map addA)))∧Hid (Below w3.heap.size w8 wy)∧Hid (w8.grownBy wy r0)∧Hid (∀ g,vo.ownBlock=some g→r0=some g ∨ w8.heap.size≤g))
     case atStart => exact ⟨0,by omega,by rw [HHD.out];rfl,rfl,Nat.zero_le _,by show World.ownsRow _ _ _ _ _ _ _;rw [HF0.out,List.append_nil];have h:=HO8.out;rw [show ((HX :: L).map addA).length=L.length+1 from by simp] at h ⊢;exact h,Below.refl _ _,World.grownBy.refl _ _,fun g hg => .inl (HR0.out.symm.trans (by rw [show ((HX :: L).map addA).length=L.length+1 from by simp];exact hg))⟩
     case round =>
      obtain ⟨j,hjg,rfl,rfl,hj,HOy,HBy,HGy,HVy⟩:=hrel
      have hwy:=HBy.out.size
      cases gk with
      | zero =>
       have hjt':decide ((j:Int) < (A.bs.length:Int))=false:=by rw [decide_eq_false_iff_not];omega
       have hjtn:decide (j < A.bs.length)=false:=by rw [decide_eq_false_iff_not];omega
       have hje:j=A.bs.length:=by omega
       have HOz:Hid (wr.ownsRow w3.heap.size 51 4 u11 ((HX :: framesM dir (O.take (k+1))).map addA).length (cellsAct ((HX :: framesM dir (O.take (k+1))).map addA))):=by
        rw [HFT.out]
        rw [hje] at HOy
        exact HOy.out
       clear hje
       go_wp2_with fail
       go_roundg g0
       case measure => omega
       case rel => exact ⟨k+1,by omega,by go_num,by omega,HOz,HBr.out.trans ((B8.out.mono (by omega)).trans HBy.out)⟩
      | succ g2 =>
       obtain ⟨wP,hwP⟩:∃ wP,wP=wr:=⟨_,rfl⟩
       subst hwP
       have hjt:j < A.bs.length:=by omega
       have hjt':decide ((j:Int) < (A.bs.length:Int))=true:=by rw [decide_eq_true_eq];omega
       have hjtn:decide (j < A.bs.length)=true:=by rw [decide_eq_true_eq];omega
       have hj0:(0:Int)≤(j:Int):=by omega
       have hj1:(j:Int) < (A.bs.length:Int):=by omega
       obtain ⟨b,off,hab,hbw,he0,a2,c2,he1,hch⟩:=HRF.out wP HGy.out j hjt
       have htj:=hide (List.take_succ_eq_append_getElem hjt)
       have hokb:=HOKk.out A.bs[j] (List.getElem_mem hjt)
       obtain ⟨hto,hke⟩:=HTKk.out j hjt
       have HFj:Hid (frmsTo dir A (j+1)=frmsTo dir A j ++ (if (livK dir A j).length=0 then [] else [frameO (textD (seqK A j) (livK dir A j))])):=rfl
       rw [seqK_at hjt] at HFj
       have hfy:=frmsTo_len dir A j
       have hlc:(livK dir A j).length≤A.bs[j].chs.length∧∀ B ∈ livK dir A j,B ∈ A.bs[j].chs:=by
        rw [livK_at hjt]
        exact ⟨liveI_len _ _ _ _ _,fun B hB => (List.mem_filter.1 hB).1⟩
       obtain ⟨C,HC9⟩:∃ C,Hid (A.bs[j]=C):=⟨_,hide rfl⟩
       rw [HC9.out] at he0 he1 hch htj hokb hke HFj hlc
       subst hab
       have hsm:=textOk_small hokb
       have HCS:Hid (∀ B ∈ livK dir A j,B.key.size≤1048576∧B.value.size≤1048576):=fun B hB => by have:=hsm.2.2 B (hlc.2 B hB);omega
       obtain ⟨ps,HPS⟩:∃ p:Nat,Hid (A.hd+totD (A.bs.take j)=p):=⟨_,hide rfl⟩
       have hpsb:ps≤100000000:=by
        rw [← HPS.out]
        have h1:=hd_le A
        have h2:=totD_le (A.bs.take j)
        have h3:(A.bs.take j).length≤j:=by rw [List.length_take];omega
        omega
       rw [HPS.out] at hto hke ⊢
       have HNj:Hid (A.hd+totD (A.bs.take (j+1))=ps+sizeD C.seq C.chs):=by
        show _=_
        rw [htj.out,totD_snoc]
        have:=HPS.out
        omega
       obtain ⟨M,HM⟩:∃ M,Hid ((HX :: (L ++ frmsTo dir A j)).map addA=M):=⟨_,hide rfl⟩
       have hMl:M.length≤1048576:=by
        rw [← HM.out]
        simp only [List.length_map,List.length_cons,List.length_append]
        omega
       have HMj:Hid ((HX :: (L ++ frmsTo dir A (j+1))).map addA=M ++ (if (livK dir A j).length=0 then [] else [frameO (textD C.seq (livK dir A j))]).map addA):=by
        show _=_
        rw [HFj.out,← HM.out,← List.append_assoc,← List.cons_append,List.map_append]
       rw [HM.out] at HOy
       generalize livK dir A j=K9 at hto hke HMj hlc HCS
       have HWP:Hid (Below w.heap.size w wP):=HWr.out.trans (((B8.out.mono HWr.out.size)).trans (HBy.out.mono (by have:=HW3.out.size;omega)))
       have HDP:=hide (spotsAt_keep HD.out HWP.out)
       have hP0:wP.cell? ⟨w.heap.size,4,none⟩=some (.slice ad dir.length cd):=(cell_of_row wP _ 4 _ _ (0,0) (((HBr.out.trans ((B8.out.mono (by omega)).trans HBy.out)).block _ (by have:=heap_lt HBK2.out;omega)).trans HBKA.out)).trans rfl
       have hP1:wP.cell? ⟨g,k,none⟩=some (.int .i64 (A.num:Int)):=((B2A.out.trans (((HBr.out.trans ((B8.out.mono (by omega)).trans HBy.out))).mono hw3)).cell (p:=⟨g,k,none⟩) hgw).trans hc0
       have hzP0:w.heap.size < wP.heap.size:=by omega
       have hzP1:g < wP.heap.size:=by omega
       have HTO:Hid (∀ X,Below wP.heap.size wP X→Calls Tryz.prog 40 #[.slice ad dir.length cd,.int .i64 (A.num:Int),.int .i64 (ps:Int)] X fun e w' => e=.returned (.bool (decide (0 < K9.length)))∧Below X.heap.size X w'):=fun X hX => by
        refine (l09Told_any dir ad cd (A.num:Int) (ps:Int) X hdl (spotsAt_keep HDP.out hX)).mono ?_
        rintro e w' ⟨rfl,rfl⟩
        rw [hto]
        exact ⟨rfl,Below.refl _ _⟩
       have HSZ:Hid (∀ X a c,ChangesAt X a C.chs→Calls Tryz.prog 44 #[.agg #[.int .i64 C.seq,.slice a C.chs.length c]] X fun e w' => e=.returned (.int .i64 (sizeD C.seq C.chs:Nat))∧Below X.heap.size X w'):=fun X a c hX => l07Size_any C.seq C.chs a c X (by omega) hX (fun B hB => by have:=hsm.2.2 B hB;omega)
       have hsd:=sizeD_le C.seq C.chs
       have HCH:=hide hch
       clear hch
       generalize sizeD C.seq C.chs=sd at HSZ HNj hsd
       have KS:Hid (∀ X,Below wP.heap.size wP X→(X.cell? ⟨w.heap.size,4,none⟩=some (.slice ad dir.length cd)∧X.cell? ⟨g,k,none⟩=some (.int .i64 (A.num:Int))∧X.cell? ⟨b,off+j * 2,none⟩=some (.int .i64 C.seq)∧X.cell? ⟨b,off+j * 2+1,none⟩=some (.slice a2 C.chs.length c2))):=fun X hX => ⟨(hX.cell (p:=⟨w.heap.size,4,none⟩) hzP0).trans hP0,(hX.cell (p:=⟨g,k,none⟩) hzP1).trans hP1,(hX.cell (p:=⟨b,off+j * 2,none⟩) hbw).trans he0,(hX.cell (p:=⟨b,off+j * 2+1,none⟩) hbw).trans he1⟩
       go_wp2_with fail
       go_region_held3 (fun w' => w'.cell? ⟨w.heap.size,4,none⟩=some (.slice ad dir.length cd)∧w'.cell? ⟨g,k,none⟩=some (.int .i64 (A.num:Int))∧w'.cell? ⟨b,off+j * 2,none⟩=some (.int .i64 C.seq)∧w'.cell? ⟨b,off+j * 2+1,none⟩=some (.slice a2 C.chs.length c2)) ((refine KS.out _ ?_;first | (exact e9) | (exact (Below.refl _ _).drew) | fail)) ((go_at_call 40;refine (HTO.out _ ?_).mono ?_;exact (Below.refl _ _).drew;rintro e w9 ⟨rfl,b9⟩;have e9:Below wP.heap.size wP w9:=((Below.refl _ _).drew).trans b9))
       have E9:=hide e9
       clear b9 e9 hto
       by_cases hK0:K9.length=0
       ·
        have hK0':decide (0 < K9.length)=false:=by rw [decide_eq_false_iff_not];omega
        rw [hK0']
        rw [if_pos hK0,List.map_nil,List.append_nil] at HMj
        obtain ⟨hq0,hq1,hq2,hq3⟩:=KS.out _ E9.out
        clear hK0 hK0'
        go_wp2_with fail
        refine (HSZ.out _ _ _ (changesAt_keep HCH.out E9.out)).mono ?_
        rintro e w10 ⟨rfl,b10⟩
        have E10:=hide (E9.out.trans (b10.mono E9.out.size))
        clear b10 hq0 hq1 hq2 hq3
        go_wp2_with fail
        go_roundg g2
        case measure => omega
        case rel =>
         refine ⟨j+1,by omega,by rw [HNj.out];go_num,by go_num,by omega,?_,HBy.out.trans (E10.out.mono (by omega)),grow_step HGy.out E10.out (World.grownBy.refl _ none) (fun g h => by cases h),HVy⟩
         show World.ownsRow _ _ _ _ _ _ _
         rw [HMj.out]
         exact ownsRow_below HOy.out E10.out
       ·
        have hK0':decide (0 < K9.length)=true:=by rw [decide_eq_true_eq];omega
        rw [hK0']
        rw [if_neg hK0] at HMj
        clear hK0 hK0'
        have hkl:(keptS dir (A.num:Int) (ps:Int) C.chs).length≤1000:=by rw [hke];omega
        have HKE:Hid (∀ X,Below w9.heap.size w9 X→Calls Tryz.prog 42 #[.slice ad dir.length cd,.agg #[.int .i64 C.seq,.slice a2 C.chs.length c2],.int .i64 (A.num:Int),.int .i64 (ps:Int)] X fun e w' => (∃ v,e=.returned v∧RowChange w' X.heap.size v K9)∧Below X.heap.size X w'):=fun X hX => by
         have hPX:=E9.out.trans (hX.mono E9.out.size)
         have h:=l09Kept_any dir ad cd C.seq C.chs a2 c2 (A.num:Int) (ps:Int) X hdl (by omega) hkl (spotsAt_keep HDP.out hPX) (changesAt_keep HCH.out hPX)
         rw [hke] at h
         exact h
        have HBT:Hid (∀ X a c,ChangesAt X a K9→Calls Tryz.prog 41 #[.agg #[.int .i64 C.seq,.slice a K9.length c]] X fun e w' => e=.returned (.tuple #[.string (textD C.seq K9),.bool (textOkD C.seq K9)])∧Below X.heap.size X w'):=fun X a c hX => specBatchText_any C.seq K9 a c X (by omega) hX HCS.out
        have KS9:Hid (∀ X,Below w9.heap.size w9 X→(X.cell? ⟨w.heap.size,4,none⟩=some (.slice ad dir.length cd)∧X.cell? ⟨g,k,none⟩=some (.int .i64 (A.num:Int))∧X.cell? ⟨b,off+j * 2,none⟩=some (.int .i64 C.seq)∧X.cell? ⟨b,off+j * 2+1,none⟩=some (.slice a2 C.chs.length c2))):=fun X hX => KS.out X (E9.out.trans (hX.mono E9.out.size))
        generalize textOkD C.seq K9=tok at HBT
        generalize textD C.seq K9=TX at HBT HMj
        clear hkl hke KS HTO
        go_wp2_with fail
        go_region_held3 (fun w' => w'.cell? ⟨w.heap.size,4,none⟩=some (.slice ad dir.length cd)∧w'.cell? ⟨g,k,none⟩=some (.int .i64 (A.num:Int))∧w'.cell? ⟨b,off+j * 2,none⟩=some (.int .i64 C.seq)∧w'.cell? ⟨b,off+j * 2+1,none⟩=some (.slice a2 C.chs.length c2)) ((refine KS9.out _ ?_;first | (exact e11) | (exact e10) | (exact (Below.refl _ _).drew) | fail)) ((first | (go_at_call 42;refine (HKE.out _ ?_).mono ?_;exact (Below.refl _ _).drew;rintro e w10 ⟨⟨v10,rfl,r10⟩,b10⟩;have e10:Below w9.heap.size w9 w10:=((Below.refl _ _).drew).trans b10;obtain ⟨a10,c10,hv10,hat10⟩:=rowChange_at r10;subst hv10) | (go_at_call 41;refine (HBT.out _ _ _ hat10).mono ?_;rintro e w11 ⟨rfl,b11⟩;have e11:Below w9.heap.size w9 w11:=e10.trans (b11.mono e10.size))))
        have E11:=hide (E9.out.trans (e11.mono E9.out.size))
        clear e10 e11 b10 b11 r10 hat10 HKE HBT KS9
        go_wp2_with fail
        refine (specFrameO_any TX _).mono ?_
        rintro e w12 ⟨⟨bb,rfl⟩,b12⟩
        have E12:=hide (E11.out.trans (b12.mono E11.out.size))
        have hs12:wP.heap.size≤w12.heap.size:=E12.out.size
        generalize frameO TX=FX at HMj
        have HMj2:Hid ((HX :: (L ++ frmsTo dir A (j+1))).map addA=M ++ [addA FX]):=HMj
        clear b12 HMj
        have E12a:Hid (∀ Y,Below wP.heap.size wP (w12.alloc Y)):=fun Y => E12.out.alloc hs12 _
        go_wp2_with (at_builtin;refine app_actG _ w3.heap.size (by rfl) _ _ (by rfl) _ M (addA FX) (by rfl) ((ownsRow_below HOy.out E12.out).alloc _) w12.heap.size (by rfl) (heap_alloc_new w12 _) hMl (by simp;omega) ?_;intro g5 cap5 w13 ho5 hb5 hgr5 hgg5;have HO13:=hide ho5;have HBB:=hide hb5;have HG13:=hide (grow_step HGy.out (E12a.out _) hgr5 HVy.out);have HV13:Hid (∀ gq,(Value.slice (some ⟨g5,0,none⟩) (M.length+1) cap5).ownBlock=some gq→r0=some gq ∨ w8.heap.size≤gq):=(fun gq hq => by (have hq2:g5=gq:=(by simpa [Value.ownBlock] using hq);subst hq2;rcases hgg5 with h | h;exact HVy.out _ h;right;rw [h,World.size_alloc];omega));have HB13:=hide (HBy.out.trans (((E12a.out _).mono (by omega)).trans hb5));clear ho5 hb5 hgr5 hgg5;obtain ⟨bq,offq,habq,hbwq,heq0,aq,cq,heq1,hchq⟩:=HRF.out _ HG13.out j hjt;rw [HC9.out] at heq0 heq1 hchq;cases habq)
        refine (HSZ.out _ _ _ hchq).mono ?_
        rintro e w14 ⟨rfl,b14⟩
        have E14:=hide b14
        clear b14 heq0 heq1 hchq
        go_wp2_with fail
        go_roundg g2
        case measure => omega
        case rel =>
         refine ⟨j+1,by omega,by rw [HNj.out];go_num,by go_num,by omega,?_,HB13.out.trans (E14.out.mono (by have:=HB13.out.size;omega)),grow_step HG13.out E14.out (World.grownBy.refl _ none) (fun g h => by cases h),HV13⟩
         show World.ownsRow _ _ _ _ _ _ _
         rw [HMj2.out]
         exact ownsRow_below HO13.out E14.out
  ·
   have hO:Hid (OK=false):=by show _=_;rw [← HOK.out];unfold mergOk;rw [HK.out,HL.out,decide_eq_false h1];rfl
   have hR:Hid (R=[]):=by show _=_;rw [← HR.out];exact mergE_no (HOK.out.trans hO.out)
   have hl2:decide ((l.length:Int) < 2)=true:=by rw [decide_eq_true_eq];omega
   have hl2n:decide (l.length < 2)=true:=by rw [decide_eq_true_eq];omega
   go_wp2_with fail
   first | go_quiet (fail) | skip
   go_wp2
   refine bodyPost_ret (results_tmp2 rfl _ _ _) rfl ?_
   rw [hO.out,hR.out]
   exact ⟨⟨_,rfl,HO2.out⟩,HW2.out⟩
end Go.Proofs.YtepdckehokdjlaaGreatDoor
