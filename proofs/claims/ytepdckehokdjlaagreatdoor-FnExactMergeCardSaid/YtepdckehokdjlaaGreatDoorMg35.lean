import Derived.Deep.LoopGhost
import Derived.Test.YtepdckehokdjlaaGreatDoorMg10
import Derived.Test.YtepdckehokdjlaaGreatDoorMg24
import Derived.Test.YtepdckehokdjlaaGreatDoorMg13
import Derived.Test.YtepdckehokdjlaaGreatDoorMg21
import Derived.Test.YtepdckehokdjlaaGreatDoorMg11
set_option maxRecDepth 100000
set_option maxHeartbeats 6400000
namespace Go.Proofs.YtepdckehokdjlaaGreatDoor
open Go.RowKit
theorem segsL_right {fs:List FileD} {s:SegD} (h:s ∈ segsL fs):s.right=true:=by
 unfold segsL at h
 split at h
 ·
  rename_i hok
  unfold segsOk at hok
  simp only [Bool.and_eq_true] at hok
  exact List.all_eq_true.1 hok.2.1 s h
 · exact absurd h List.not_mem_nil
theorem segsL_file {fs:List FileD} {s:SegD} (h:s ∈ segsL fs):s.num≤99∧s.frm≤s.num∧∃ F ∈ fs,fileD fs (segNm s.num)=some F∧segFrom (s.num:Int) F.text=s.frm∧segBatches (s.num:Int) F.text=s.bs:=by
 have hr:=segsL_right h
 obtain ⟨h1,h2,F,hF,hs,hf⟩:=segsTo_mem (segsL_mem h)
 have e1:segFrom (s.num:Int) F.text=s.frm:=(congrArg SegD.frm hs).symm
 have e2:segBatches (s.num:Int) F.text=s.bs:=(congrArg SegD.bs hs).symm
 have e3:segOk (s.num:Int) F.text=true:=(congrArg SegD.right hs).symm.trans hr
 refine ⟨by omega,?_,F,hF,hf,e1,e2⟩
 unfold segOk at e3
 cases hq:segRead (s.num:Int) F.text with
 | none => rw [hq] at e3;cases e3
 | some q =>
  obtain ⟨f,bs,e⟩:=q
  rw [(seg_some hq).1] at e1
  cases hu:unf F.text with
  | nil => rw [segRead_nil hu] at hq;simp at hq
  | cons x r =>
   cases hh:hdFrom (s.num:Int) (F.text.extract x.1 x.2) with
   | none => rw [segRead_head hu hh] at hq;simp at hq
   | some f' =>
    rw [segRead_some hu hh] at hq
    simp only [Option.some.injEq,Prod.mk.injEq] at hq
    have:=(hdFrom_le hh).2.2
    omega
theorem sizeD_le (q:Int) (cs:List ChangeD):sizeD q cs≤9009:=by
 have h1:=textD_small q cs
 unfold sizeD
 split
 ·
  rw [frameB_size]
  have:=Wd.varF_len 5 (textD q cs).size
  omega
 · exact Nat.zero_le _
theorem totD_le:∀ l:List BatchD,totD l≤9009 * l.length
 | [] => Nat.le_refl _
 | b :: r => by
  have h1:=totD_le r
  have h2:=sizeD_le b.seq b.chs
  simp only [totD,List.length_cons]
  omega
theorem hd_le (s:SegD):s.hd≤30:=by
 unfold SegD.hd
 rw [frameB_size]
 have h1:=Wd.varF_len 5 (⟨(headL s.num s.frm).toArray⟩:ByteArray).size
 have h2:(⟨(headL s.num s.frm).toArray⟩:ByteArray).size≤11:=by
  show (headL s.num s.frm).toArray.size≤11
  unfold headL
  have h3:=Wd.varF_len 5 s.num
  have h4:=Wd.varF_len 5 s.frm
  simp
  omega
 omega
theorem headT_hd {s:SegD} (h1:s.num≤99) (h2:s.frm≤s.num):(headT (s.num:Int) (s.frm:Int)).size=s.hd:=by
 unfold headT SegD.hd
 rw [if_pos (by omega)]
 rfl
theorem textOk_one {q:Int} {cs:List ChangeD} (h:textOkD q cs=true):1≤cs.length:=by
 unfold textOkD at h
 simp only [Bool.and_eq_true] at h
 exact (batchOkD_bounds h.1).2.2.1
theorem chsN_len:∀ (l:List BatchD),(∀ b ∈ l,1≤b.chs.length)→l.length≤chsN l
 | [],_ => Nat.le_refl _
 | b :: r,h => by
  have h1:=chsN_len r (fun c hc => h c (List.mem_cons_of_mem _ hc))
  have h2:=h b (List.mem_cons_self ..)
  simp only [chsN,List.length_cons]
  omega
theorem specDirOf_any (fs:List FileD) (ao:Option Addr) (cap:Nat) (w:World) (hl:fs.length≤1048576) (hfs:FilesAt w ao fs) (hsz:∀ F ∈ fs,F.name.size≤1048576∧F.text.size≤1048576) :
  Calls Tryz.prog 55 #[.agg #[.slice ao fs.length cap]] w fun e w' => (∃ v,e=.returned (.tuple #[v,.bool (segsOk fs)])∧RowSpot w' w.heap.size v (dirD fs))∧Below w.heap.size w w':=by
 have HSG:=hide (fun W hW => specSegments_any fs ao cap W hl hW hsz)
 obtain ⟨wb,hwb⟩:∃ wb,wb=(w.alloc (.cells #[.slice ao fs.length cap] 31)).alloc (.cells #[] 106):=⟨_,rfl⟩
 have HB0:Hid (Below w.heap.size w wb):=by rw [hwb];exact ((Below.refl _ w).alloc (Nat.le_refl _) _).alloc (by simp) _
 have hbs:wb.heap.size=w.heap.size+2:=by rw [hwb];simp
 have HC0:Hid (wb.heap[w.heap.size]? = some (.cells #[.slice ao fs.length cap] 31 (0,0))):=by
  show _=_
  rw [hwb]
  exact (Below.heap_alloc _ _ _ (by simp)).trans (heap_alloc_new w _)
 have HO0:Hid (RowSpot wb w.heap.size (.slice (some ⟨w.heap.size+1,0,none⟩) 0 0) []):=by
  have h:=World.ownsRow_lit (e:=106) (size:=4) (w.alloc (.cells #[.slice ao fs.length cap] 31)) #[] 0 (Nat.le_refl _) (by unfold maxLen;omega) (by simp)
  show RowSpot _ _ _ _
  rw [hwb]
  refine rowSpot_le (B:=w.heap.size+1) (rowSpot_own ?_) (by omega)
  simpa [cellsSpot] using h
 have HF:=hide (filesAt_keep hfs HB0.out)
 have HS:=hide hsz
 clear hfs hsz
 cases hok:segsOk fs with
 | false =>
  have HE:Hid (dirD fs=[]):=by show _=_;unfold dirD segsL;rw [hok];rfl
  rw [hok] at HSG
  clear hok
  go_enter Tryz.func55,Tryz.ntmps55
  go_wp2_with fail
  rw [← hwb]
  clear hwb
  refine (HSG.out _ HF.out).mono ?_
  rintro e w1 ⟨⟨v1,rfl,g1⟩,b1⟩
  obtain ⟨a1,c1,rfl⟩:=slice_form g1
  go_wp2
  go_ret2
  rw [HE.out]
  exact ⟨⟨_,rfl,rowSpot_below HO0.out b1⟩,HB0.out.trans (b1.mono (by omega))⟩
 | true =>
  rw [hok] at HSG
  clear hok
  have HDD:Hid (dirD fs=dirSegs [] (segsL fs)):=rfl
  have hll:=segsL_len fs
  have HN:=segsL_N fs
  have HSF:Hid (∀ s ∈ segsL fs,s.num≤99∧s.frm≤s.num∧∃ F ∈ fs,fileD fs (segNm s.num)=some F∧segFrom (s.num:Int) F.text=s.frm∧segBatches (s.num:Int) F.text=s.bs):=fun s hs => segsL_file hs
  have HOK:Hid (∀ s ∈ segsL fs,∀ b ∈ s.bs,textOkD b.seq b.chs=true):=fun s hs => segsL_ok hs
  have HBL:Hid (∀ s ∈ segsL fs,3 * chsN s.bs≤20000):=fun s hs => segsL_three hs
  obtain ⟨l,HL⟩:∃ l,Hid (segsL fs=l):=⟨_,hide rfl⟩
  rw [HL.out] at HSG HDD hll HN HSF HOK HBL
  obtain ⟨NS,HNS⟩:∃ n,Hid (l.map SegD.num=n):=⟨_,hide rfl⟩
  have HNL:Hid (NS.length=l.length):=by show _=_;rw [← HNS.out,List.length_map]
  have HNG:Hid (∀ k (h:k < l.length) (h':k < NS.length),NS[k]=l[k].num):=by intro k h h';have:=HNS.out;subst this;simp
  rw [HNS.out] at HSG
  go_enter Tryz.func55,Tryz.ntmps55
  go_wp2_with fail
  rw [← hwb]
  clear hwb
  refine (HSG.out _ HF.out).mono ?_
  rintro e w1 ⟨⟨v1,rfl,g1⟩,b1⟩
  obtain ⟨a1,c1,rfl⟩:=slice_form g1
  have G1:Hid (RowNat w1 wb.heap.size (.slice a1 NS.length c1) NS):=g1
  have B1:=hide b1
  have HC1:Hid (w1.heap[w.heap.size]? = some (.cells #[.slice ao fs.length cap] 31 (0,0))):=(b1.block _ (heap_lt HC0.out)).trans HC0.out
  have HO1:=hide (rowSpot_below HO0.out b1)
  have HF1:=hide (filesAt_keep HF.out b1)
  have hw1:w.heap.size+2≤w1.heap.size:=by have:=b1.size;omega
  have HBw:Hid (Below w.heap.size w w1):=HB0.out.trans (b1.mono (by omega))
  rw [HNL.out] at G1
  rw [HNL.out]
  clear g1 b1
  go_wp2_with fail
  go_loopg [4,7] l.length (fun gg vo ii wr => ∃ (k:Nat),k+gg=l.length∧ii=.int .i64 k∧k≤l.length∧Hid (RowSpot wr w.heap.size vo (dirSegs [] (l.take k)))∧Hid (Below w1.heap.size w1 wr))
  case atStart => exact ⟨0,by omega,rfl,Nat.zero_le _,HO1,Below.refl _ _⟩
  case round =>
   obtain ⟨k,hkg,rfl,hk,HO,HB⟩:=hrel
   have hws:=HB.out.size
   cases gk with
   | zero =>
    have hlt':decide ((k:Int) < (l.length:Int))=false:=by simp;omega
    have hltn:decide (k < l.length)=false:=by simp;omega
    rw [show l.take k=l from List.take_of_length_le (by omega)] at HO
    obtain ⟨ax,cx,hvx,-⟩:=rowSpot_at HO.out
    subst hvx
    go_wp2
    go_ret2
    rw [HDD.out]
    exact ⟨⟨_,rfl,HO.out⟩,HBw.out.trans (HB.out.mono (by omega))⟩
   | succ g0 =>
    obtain ⟨wO,rfl⟩:∃ wO,wO=wr:=⟨_,rfl⟩
    have hlt:k < l.length:=by omega
    have hlt':decide ((k:Int) < (l.length:Int))=true:=by simp;omega
    have hltn:decide (k < l.length)=true:=by simp;omega
    have hi0:(0:Int)≤(k:Int):=by omega
    have hi1:(k:Int) < (l.length:Int):=by omega
    obtain ⟨g,hg,hgw,hc0⟩:=rowNat_at G1.out k (by rw [HNL.out];exact hlt)
    subst hg
    rw [HNG.out k hlt (by rw [HNL.out];exact hlt)] at hc0
    have htk:=hide (List.take_succ_eq_append_getElem hlt)
    have htN:segsN (l.take k)≤segsN l:=segsN_take_le l k
    obtain ⟨hn99,hfn,F,hFm,hfd,hsf,hsb⟩:=HSF.out l[k] (List.getElem_mem hlt)
    have HOKk:=hide (HOK.out l[k] (List.getElem_mem hlt))
    have hbl3:=HBL.out l[k] (List.getElem_mem hlt)
    generalize l[k]=A at hc0 htk hn99 hfn hfd hsf hsb HOKk hbl3
    have hFz:=(HS.out F hFm).2
    have HRS:=hide (fun W => specReadSegment_any (A.num:Int) F.text W hFz)
    unfold SegLeft at HRS
    rw [hsf,hsb] at HRS
    generalize segEnd (A.num:Int) F.text=en0 at HRS
    generalize segOk (A.num:Int) F.text=ok0 at HRS
    have hhd:=headT_hd hn99 hfn
    have HHT:=hide (fun W => specHeadText_any (A.num:Int) (A.frm:Int) W)
    obtain ⟨HT,HHTT⟩:∃ t,Hid (headT (A.num:Int) (A.frm:Int)=t):=⟨_,hide rfl⟩
    rw [HHTT.out] at HHT hhd
    generalize (decide (0≤(A.num:Int)∧(A.num:Int)≤99∧0≤(A.frm:Int)∧(A.frm:Int)≤(A.num:Int)))=okh at HHT
    have HHD:=hide hhd
    clear hhd
    obtain ⟨NM,HNM⟩:∃ NM,Hid (segNm (A.num:Int)=NM):=⟨_,rfl⟩
    have HNa:Hid (∀ W:World,Calls Tryz.prog 38 #[.int .i64 (A.num:Int)] W fun e w' => e=.returned (.string NM)∧Below W.heap.size W w'):=fun W => by rw [← HNM.out];exact specSegName_any (A.num:Int) W
    have HAT:Hid (∀ W,Below wO.heap.size wO W→Calls Tryz.prog 37 #[.agg #[.slice ao fs.length cap],.string NM] W fun e w' => e=.returned (.tuple #[.string F.text,.bool true])∧Below W.heap.size W w'):=fun W hW => specFileAt_some' fs ao cap NM W F hl (filesAt_keep (filesAt_keep HF1.out HB.out) hW) (by rw [← HNM.out];exact hfd)
    clear hfd hsf hsb hFm
    obtain ⟨ax,cx,hvx,-⟩:=rowSpot_at HO.out
    subst hvx
    have hd0:=(cell_of_row wO _ 0 _ _ (0,0) ((HB.out.block _ (by omega)).trans HC1.out)).trans (show (#[Value.slice ao fs.length cap]:Array Value)[0]? = some (.slice ao fs.length cap) from rfl)
    have hd1:=(HB.out.cell (p:=⟨g,k,none⟩) hgw).trans hc0
    have hz0:w.heap.size < wO.heap.size:=by omega
    have hz1:g < wO.heap.size:=by omega
    go_wp2_with fail
    go_region_held3 (fun w' => w'.cell? ⟨w.heap.size,0,none⟩=some (.slice ao fs.length cap)∧w'.cell? ⟨g,k,none⟩=some (.int .i64 (A.num:Int))) (first | go_keep | (exact ⟨hd0,hd1⟩) | (exact ⟨(b2.cell (p:=⟨w.heap.size,0,none⟩) hz0).trans hd0,(b2.cell (p:=⟨g,k,none⟩) hz1).trans hd1⟩) | (exact ⟨((b2.trans (b3.mono b2.size)).cell (p:=⟨w.heap.size,0,none⟩) hz0).trans hd0,((b2.trans (b3.mono b2.size)).cell (p:=⟨g,k,none⟩) hz1).trans hd1⟩)) ((first | (go_at_call 38;refine (HNa.out _).mono ?_;rintro e w2 ⟨rfl,b2⟩) | (go_at_call 37;refine (HAT.out _ (by first | exact b2 | exact (Below.refl _ _).drew.trans b2)).mono ?_;rintro e w3 ⟨rfl,b3⟩)))
    have B3:Hid (Below wO.heap.size wO w3):=(Below.refl _ _).drew.trans (b2.trans (b3.mono b2.size))
    clear b2 b3 hd0 hd1
    have hd1:w3.cell? ⟨g,k,none⟩=some (.int .i64 (A.num:Int)):=((HB.out.trans (B3.out.mono hws)).cell (p:=⟨g,k,none⟩) hgw).trans hc0
    go_wp2_with fail
    refine (HRS.out _).mono ?_
    rintro e w4 ⟨⟨v4,rfl,r4⟩,b4⟩
    obtain ⟨a4,c4,rfl,-⟩:=rowBatch_at r4
    have HBAT:=hide (rowBatch_rows r4).2
    have B4:=hide (B3.out.trans (b4.mono B3.out.size))
    clear r4 b4 hd1
    have hd1:w4.cell? ⟨g,k,none⟩=some (.int .i64 (A.num:Int)):=((HB.out.trans (B4.out.mono hws)).cell (p:=⟨g,k,none⟩) hgw).trans hc0
    go_wp2_with fail
    refine (HHT.out _).mono ?_
    rintro e w5 ⟨rfl,b5⟩
    have HBAT5:=hide (batchesAt_keep HBAT.out b5)
    have B5:=hide (B4.out.trans (b5.mono B4.out.size))
    clear b5 hd1 HBAT
    have H5:Hid (Below w1.heap.size w1 w5):=HB.out.trans (B5.out.mono hws)
    have hw5:w1.heap.size≤w5.heap.size:=H5.out.size
    obtain ⟨D0,HD0⟩:∃ n,Hid (dirSegs [] (l.take k)=n):=⟨_,hide rfl⟩
    have HO5:Hid (RowSpot w5 w.heap.size (.slice ax (dirSegs [] (l.take k)).length cx) D0):=by show RowSpot _ _ _ _;rw [← HD0.out];exact rowSpot_below HO.out B5.out
    have hD0l:D0.length≤segsN l:=by
     rw [← HD0.out]
     have:=dirSegs_len (l.take k) []
     simp at this
     omega
    have HNX:Hid (dirSegs [] (l.take (k+1))=batsIn (A.num:Int) D0 A.hd A.bs):=by
     show _=_
     rw [htk.out,dirSegs_snoc,HD0.out]
    have hbln:A.bs.length≤6667:=by have:=chsN_len A.bs (fun b hb => textOk_one (HOKk.out b hb));omega
    clear B3 B4 HO
    go_wp2_with fail
    go_loopg [4,16,17] A.bs.length (fun g2 vo va ii wy => ∃ (j:Nat),j+g2=A.bs.length∧va=.int .i64 ((A.hd+totD (A.bs.take j):Nat):Int)∧ii=.int .i64 j∧j≤A.bs.length∧Hid (RowSpot wy w.heap.size vo (batsIn (A.num:Int) D0 A.hd (A.bs.take j)))∧Hid (Below w5.heap.size w5 wy))
    case atStart => exact ⟨0,by omega,by rw [HHD.out];rfl,rfl,Nat.zero_le _,HO5,Below.refl _ _⟩
    case round =>
     obtain ⟨j,hjg,rfl,rfl,hj,HOy,HBy⟩:=hrel
     have hwy:=HBy.out.size
     cases gk with
     | zero =>
      have hjt':decide ((j:Int) < (A.bs.length:Int))=false:=by simp;omega
      have hjtn:decide (j < A.bs.length)=false:=by simp;omega
      rw [show A.bs.take j=A.bs from List.take_of_length_le (by omega)] at HOy
      go_wp2
      go_roundg g0
      case measure => omega
      case rel => exact ⟨k+1,by omega,by go_num,by omega,by show RowSpot _ _ _ _;rw [HNX.out];exact HOy.out,H5.out.trans (HBy.out.mono hw5)⟩
     | succ g2 =>
      obtain ⟨wP,rfl⟩:∃ wP,wP=wr:=⟨_,rfl⟩
      have hjt:j < A.bs.length:=by omega
      have hjt':decide ((j:Int) < (A.bs.length:Int))=true:=by simp;omega
      have hjtn:decide (j < A.bs.length)=true:=by simp;omega
      have hj0:(0:Int)≤(j:Int):=by omega
      have hj1:(j:Int) < (A.bs.length:Int):=by omega
      obtain ⟨b,off,hab,hbw,he0,a2,c2,he1,hch⟩:=HBAT5.out j hjt
      have htj:=hide (List.take_succ_eq_append_getElem hjt)
      have hokb:=HOKk.out A.bs[j] (List.getElem_mem hjt)
      have htn2:chsN (A.bs.take j)+A.bs[j].chs.length≤chsN A.bs:=by
       rw [← chsN_snoc,← htj.out]
       exact chsN_take_le A.bs (j+1)
      generalize A.bs[j]=C at he0 he1 hch htj hokb htn2
      subst hab
      have hsm:=textOk_small hokb
      obtain ⟨ps,HPS⟩:∃ p:Nat,Hid (A.hd+totD (A.bs.take j)=p):=⟨_,hide rfl⟩
      have hpsb:ps≤100000000:=by
       rw [← HPS.out]
       have h1:=hd_le A
       have h2:=totD_le (A.bs.take j)
       have h3:(A.bs.take j).length≤j:=by rw [List.length_take];omega
       omega
      rw [HPS.out]
      have HNj:Hid (batsIn (A.num:Int) D0 A.hd (A.bs.take (j+1))=chsIn (A.num:Int) (ps:Int) C.seq (batsIn (A.num:Int) D0 A.hd (A.bs.take j)) C.chs∧A.hd+totD (A.bs.take (j+1))=ps+sizeD C.seq C.chs):=by
       show _∧_
       rw [htj.out,batsIn_snoc,totD_snoc,HPS.out]
       exact ⟨rfl,by have:=HPS.out;omega⟩
      have hDl:(batsIn (A.num:Int) D0 A.hd (A.bs.take j)).length≤D0.length+chsN (A.bs.take j):=batsIn_len _ _ _ _
      generalize chsN (A.bs.take j)=nj at htn2 hDl
      generalize batsIn (A.num:Int) D0 A.hd (A.bs.take j)=Dj at HOy HNj hDl
      have hy0:=(HBy.out.cell (p:=⟨b,off+j * 2,none⟩) hbw).trans he0
      have hy1:=(HBy.out.cell (p:=⟨b,off+j * 2+1,none⟩) hbw).trans he1
      clear he0 he1
      obtain ⟨ax,cx,hvx,-⟩:=rowSpot_at HOy.out
      subst hvx
      obtain ⟨wY,hwY⟩:∃ x,x=wP.alloc (.cells #[.int .i64 C.seq,.slice a2 C.chs.length c2] 87):=⟨_,rfl⟩
      have BY:Hid (Below wP.heap.size wP wY):=by rw [hwY];exact (Below.refl _ wP).alloc (Nat.le_refl _) _
      have hYs:wY.heap.size=wP.heap.size+1:=by rw [hwY];simp
      have HYB:Hid (wY.heap[wP.heap.size]? = some (.cells #[.int .i64 C.seq,.slice a2 C.chs.length c2] 87 (0,0))):=by rw [hwY];exact heap_alloc_new wP _
      have HOY:=hide (rowSpot_below HOy.out BY.out)
      have HCY:Hid (ChangesAt wY a2 C.chs):=changesAt_keep hch (HBy.out.trans (BY.out.mono hwy))
      have HB5Y:Hid (Below w5.heap.size w5 wY):=HBy.out.trans (BY.out.mono hwy)
      have HGY:Hid (wY.cell? ⟨g,k,none⟩=some (.int .i64 (A.num:Int))):=((H5.out.trans (HB5Y.out.mono hw5)).cell (p:=⟨g,k,none⟩) hgw).trans hc0
      have hgY:g < wY.heap.size:=by omega
      have hzc1:wY.cell? ⟨wP.heap.size,1,none⟩=some (.slice a2 C.chs.length c2):=(cell_of_row wY _ 1 _ _ (0,0) HYB.out).trans rfl
      clear hch
      go_wp2_with fail
      rw [← hwY]
      clear hwY hy0 hy1 hzc1
      go_loopg [4,19] C.chs.length (fun g3 vo ii wz => ∃ (i:Nat),i+g3=C.chs.length∧ii=.int .i64 i∧i≤C.chs.length∧Hid (RowSpot wz w.heap.size vo (chsIn (A.num:Int) (ps:Int) C.seq Dj (C.chs.take i)))∧Hid (Below wY.heap.size wY wz))
      case atStart => exact ⟨0,by omega,rfl,Nat.zero_le _,HOY,Below.refl _ _⟩
      case round =>
       obtain ⟨i,hig,rfl,hi,HOz,HBz⟩:=hrel
       have hwz:=HBz.out.size
       have HZB:=hide ((HBz.out.block _ (heap_lt HYB.out)).trans HYB.out)
       have hzc0:wr.cell? ⟨wP.heap.size,0,none⟩=some (.int .i64 C.seq):=(cell_of_row wr _ 0 _ _ (0,0) HZB.out).trans rfl
       have hzc1:wr.cell? ⟨wP.heap.size,1,none⟩=some (.slice a2 C.chs.length c2):=(cell_of_row wr _ 1 _ _ (0,0) HZB.out).trans rfl
       cases gk with
       | zero =>
        have hit':decide ((i:Int) < (C.chs.length:Int))=false:=by simp;omega
        have hitn:decide (i < C.chs.length)=false:=by simp;omega
        rw [show C.chs.take i=C.chs from List.take_of_length_le (by omega)] at HOz
        have HSZ:=hide (l07Size_any C.seq C.chs a2 c2 wr (by omega) (changesAt_keep HCY.out HBz.out) (fun B hB => by have:=hsm.2.2 B hB;omega))
        have hsd:=sizeD_le C.seq C.chs
        generalize sizeD C.seq C.chs=sd at HSZ HNj hsd
        go_wp2_with fail
        refine HSZ.out.mono ?_
        rintro e w8 ⟨rfl,b8⟩
        have HO8:=hide (rowSpot_below HOz.out b8)
        have B8:Hid (Below w5.heap.size w5 w8):=HB5Y.out.trans ((HBz.out.trans (b8.mono hwz)).mono (by omega))
        clear b8
        go_wp2
        go_roundg g2
        case measure => omega
        case rel => exact ⟨j+1,by omega,by rw [HNj.out.2];go_num,by go_num,by omega,by show RowSpot _ _ _ _;rw [HNj.out.1];exact HO8.out,B8⟩
       | succ g3 =>
        have hit:i < C.chs.length:=by omega
        have hit':decide ((i:Int) < (C.chs.length:Int))=true:=by simp;omega
        have hitn:decide (i < C.chs.length)=true:=by simp;omega
        have hii0:(0:Int)≤(i:Int):=by omega
        have hii1:(i:Int) < (C.chs.length:Int):=by omega
        obtain ⟨b',off',hab',hbw',hq0,hq1,hq2⟩:=changesAt_keep HCY.out HBz.out i hit
        subst hab'
        have hti:=hide (List.take_succ_eq_append_getElem hit)
        generalize C.chs[i]=E at hq0 hq1 hq2 hti
        obtain ⟨Di,HDi⟩:∃ D,Hid (chsIn (A.num:Int) (ps:Int) C.seq Dj (C.chs.take i)=D):=⟨_,hide rfl⟩
        have HNi:Hid (chsIn (A.num:Int) (ps:Int) C.seq Dj (C.chs.take (i+1))=setD Di ⟨E.key,A.num,ps,C.seq⟩ E.gone):=by
         show _=_
         rw [hti.out,chsIn_snoc,HDi.out]
        have hDil:Di.length≤1000000:=by
         rw [← HDi.out]
         have h1:=chsIn_len (A.num:Int) (ps:Int) C.seq (C.chs.take i) Dj
         have h2:(C.chs.take i).length≤C.chs.length:=by rw [List.length_take];omega
         omega
        rw [HDi.out] at HOz
        obtain ⟨ay,cy,hvy,hsa⟩:=rowSpot_at HOz.out
        subst hvy
        have HSA:=hide hsa
        have hgz:wr.cell? ⟨g,k,none⟩=some (.int .i64 (A.num:Int)):=(HBz.out.cell (p:=⟨g,k,none⟩) hgY).trans HGY.out
        have HST:Hid (∀ W,Below wr.heap.size wr W→Calls Tryz.prog 85 #[.slice ay Di.length cy,.agg #[.string E.key,.int .i64 (A.num:Int),.int .i64 (ps:Int),.int .i64 C.seq],.bool E.gone] W fun e w' => (∃ v,e=.returned v∧w'.ownsRow W.heap.size 106 4 v (setD Di ⟨E.key,A.num,ps,C.seq⟩ E.gone).length (cellsSpot (setD Di ⟨E.key,A.num,ps,C.seq⟩ E.gone)))∧Below W.heap.size W w'):=fun W hW => l07Set_any Di ay cy ⟨E.key,A.num,ps,C.seq⟩ E.gone W hDil (spotsAt_keep HSA.out hW)
        have hm1:wP.heap.size < wr.heap.size:=by omega
        have hm2:g < wr.heap.size:=by omega
        clear hsa
        generalize setD Di ⟨E.key,A.num,ps,C.seq⟩ E.gone=Dn at HNi HST
        go_wp2_with fail
        go_region_held3 (fun w' => w'.cell? ⟨wP.heap.size,0,none⟩=some (.int .i64 C.seq)∧w'.cell? ⟨wP.heap.size,1,none⟩=some (.slice (some ⟨b',off',none⟩) C.chs.length c2)∧w'.cell? ⟨g,k,none⟩=some (.int .i64 (A.num:Int))∧w'.cell? ⟨b',off'+i * 3,none⟩=some (.string E.key)∧w'.cell? ⟨b',off'+i * 3+2,none⟩=some (.bool E.gone)) (first | go_keep | (exact ⟨hzc0,hzc1,hgz,hq0,hq2⟩) | (exact ⟨(b9.cell (p:=⟨wP.heap.size,0,none⟩) hm1).trans hzc0,(b9.cell (p:=⟨wP.heap.size,1,none⟩) hm1).trans hzc1,(b9.cell (p:=⟨g,k,none⟩) hm2).trans hgz,(b9.cell (p:=⟨b',off'+i * 3,none⟩) hbw').trans hq0,(b9.cell (p:=⟨b',off'+i * 3+2,none⟩) hbw').trans hq2⟩)) ((go_at_call 85;refine (HST.out _ (by first | exact Below.refl _ _ | exact (Below.refl _ _).drew)).mono ?_;rintro e w9 ⟨⟨v9,rfl,o9⟩,b9⟩;obtain ⟨a9,c9,rfl⟩:=slice_form o9))
        have HO9:Hid (RowSpot w9 w.heap.size (.slice a9 Dn.length c9) Dn):=rowSpot_le (rowSpot_own o9) (by show w.heap.size≤wr.heap.size;omega)
        have B9:Hid (Below wY.heap.size wY w9):=HBz.out.trans (((Below.refl _ wr).drew.trans b9).mono hwz)
        clear o9 b9
        go_wp2
        go_roundg g3
        case measure => omega
        case rel => exact ⟨i+1,by omega,by go_num,by omega,by show RowSpot _ _ _ _;rw [HNi.out];exact HO9.out,B9⟩
end Go.Proofs.YtepdckehokdjlaaGreatDoor
