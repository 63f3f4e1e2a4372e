import Derived.Laws.StructEq
import Derived.Lib.AppendStr
import Derived.Test.YtepdckehokdjlaaGreatDoorMg20
import Derived.Test.YtepdckehokdjlaaGreatDoorMg11
import Derived.Test.YtepdckehokdjlaaGreatDoorMg21
import Derived.Test.YtepdckehokdjlaaGreatDoorMg5
import Derived.Test.YtepdckehokdjlaaGreatDoorMg18
import Derived.Test.YtepdckehokdjlaaGreatDoorMg7
import Derived.Test.YtepdckehokdjlaaGreatDoorMg19
import Derived.Test.YtepdckehokdjlaaGreatDoorMg0
import Derived.Test.YtepdckehokdjlaaGreatDoorMg10
import Derived.Test.YtepdckehokdjlaaGreatDoorMg8
import Derived.Test.YtepdckehokdjlaaGreatDoorMg2
import Derived.Test.YtepdckehokdjlaaGreatDoorMg16
import Derived.Test.YtepdckehokdjlaaGreatDoorMg3
set_option maxRecDepth 100000
set_option maxHeartbeats 3200000
namespace Go.Proofs.YtepdckehokdjlaaGreatDoor
open Go.RowKit
def LiveAt (w:World) (B:Nat) (v:Value) (L:List ChangeD):Prop:=(∃ ao,v=.slice ao 0 0∧L=[]) ∨ (0 < L.length∧w.ownsRow B 145 3 v L.length (cellsChange L))
theorem liveAt_below {w w':World} {B:Nat} {v:Value} {L:List ChangeD} (h:LiveAt w B v L) (hb:Below w.heap.size w w'):LiveAt w' B v L:=by
 rcases h with h | ⟨h0,h⟩
 · exact .inl h
 · exact .inr ⟨h0,ownsRow_below h hb⟩
theorem liveAt_at {w:World} {B:Nat} {v:Value} {L:List ChangeD} (h:LiveAt w B v L):∃ ao cap,v=.slice ao L.length cap∧ChangesAt w ao L:=by
 rcases h with ⟨ao,rfl,rfl⟩ | ⟨-,h⟩
 · exact ⟨ao,0,rfl,fun j hj => absurd hj (by simp)⟩
 · exact rowChange_at (rowChange_own h)
theorem eql_spot4 (k1 k2:ByteArray) (a1 a2 b1 b2 q1 q2:Int) (r:Bool) (h:((k1.toList == k2.toList) && ((a1 == a2) && ((b1 == b2) && (q1 == q2))))=r):∀ W:World,(binOp .eql 106 (.agg #[.string k1,.int .i64 a1,.int .i64 b1,.int .i64 q1]) (.agg #[.string k2,.int .i64 a2,.int .i64 b2,.int .i64 q2])).run Tryz.prog W=.ok (.bool r) W:=by
 intro W
 have hst:Tryz.prog.stoodInHeld 106=false:=by kernel_rfl
 have hfl:Tryz.prog.underlying 106=some (.struct (Tryz.prog.fieldsOf 106)):=by kernel_rfl
 rw [run_eql_struct,run_equalIn_struct W 9999 106 _ _ hfl hst]
 clear hfl hst
 subst h
 cases h1:(k1.toList == k2.toList) <;> cases h2:(a1 == a2) <;> cases h3:(b1 == b2) <;> cases h4:(q1 == q2) <;> simp [go_sem,h1,h2,h3,h4]
def SpotG (wn wx:World) (β:Nat) (T:SpotD):Prop:=wx.heap[β]? = some (.cells #[.string T.key,.int .i64 T.seg,.int .i64 T.pos,.int .i64 T.seq] 106 (0,0))∧wn.heap.size≤β∧Below wn.heap.size wn wx
theorem spotG_new {wn w2:World} (T:SpotD) (e2:Below wn.heap.size wn w2):SpotG wn (w2.alloc (.cells #[.string T.key,.int .i64 T.seg,.int .i64 T.pos,.int .i64 T.seq] 106)) w2.heap.size T :=
 ⟨heap_alloc_new w2 _,e2.size,e2.alloc e2.size _⟩
theorem spotG_old {wn w2:World} {β:Nat} {c0 c1 c2 c3:Value} (T:SpotD) (e2:Below wn.heap.size wn w2) (hb:w2.heap[β]? = some (.cells #[c0,c1,c2,c3] 106 (0,0))) (wb:wn.heap.size≤β) :
  SpotG wn ((((w2.setCell ⟨β,0,none⟩ (.string T.key)).setCell ⟨β,1,none⟩ (.int .i64 T.seg)).setCell ⟨β,2,none⟩ (.int .i64 T.pos)).setCell ⟨β,3,none⟩ (.int .i64 T.seq)) β T:=by
 obtain ⟨y0,y1⟩:=box4s (.string T.key) (.int .i64 T.seg) (.int .i64 T.pos) (.int .i64 T.seq) hb e2 wb _ rfl
 exact ⟨y0,wb,y1⟩
theorem liveChanges_any (D:List SpotD) (S:SegD) (j g:Nat) (ar a a':Option Addr) (cr c c' K:Nat) (w:World) (hD:D.length≤1000000) (hsD:srtS D) (hg:g < w.heap.size) (hc6:w.cell? ⟨g,6,none⟩=some (.slice ar D.length cr)) (hds:SpotsAt w ar D) (hj:j < S.bs.length) (hb:BatchesAt w a S.bs) (hp:RowNat w K (.slice a' S.pls.length c') S.pls) (hl:S.bs[j].chs.length≤40) :
  Calls Tryz.prog 135 #[.pointer (some ⟨g,0,none⟩),.agg #[.int .i64 (S.num:Int),.int .i64 (S.frm:Int),.slice a S.bs.length c,.slice a' S.pls.length c',.int .i64 (S.fin:Int),.bool S.right,.bool S.torn],.int .i64 (j:Int)] w fun e w' => (∃ ao cap,e=.returned (.slice ao (liveI D (S.num:Int) (S.pls[j]'(by rw [S.pls_len];exact hj):Int) S.bs[j].seq S.bs[j].chs).length cap)∧ChangesAt w' ao (liveI D (S.num:Int) (S.pls[j]'(by rw [S.pls_len];exact hj):Int) S.bs[j].seq S.bs[j].chs))∧Below w.heap.size w w':=by
 have HD:=hide hds
 have HPL:=hide S.pls_len
 obtain ⟨gp,hgp,hgpw,hgc⟩:=rowNat_at hp j (by have:=HPL.out;omega)
 obtain ⟨b0,off0,hab,hbw,hc0,a2,c2,hc1,hch⟩:=hb j hj
 subst hab hgp
 have HCH:=hide hch
 have HSO:=hide (fun key W h => spotOf_any D ar cr key W hD hsD h)
 obtain ⟨P,HP⟩:∃ P,Hid ((S.pls[j]'(by have:=HPL.out;omega):Nat)=P):=⟨_,hide rfl⟩
 rw [HP.out] at hgc ⊢
 obtain ⟨q,HQ⟩:∃ q,Hid (S.bs[j].seq=q):=⟨_,hide rfl⟩
 obtain ⟨cs,HCS⟩:∃ q,Hid (S.bs[j].chs=q):=⟨_,hide rfl⟩
 rw [HQ.out] at hc0 ⊢
 rw [HCS.out] at hc1 HCH hl ⊢
 clear hb hp hds hch hsD
 obtain ⟨np,HNP⟩:∃ n,Hid (S.pls.length=n):=⟨_,hide rfl⟩
 rw [HNP.out]
 have hjp:j < np:=by have:=HPL.out;have:=HNP.out;omega
 obtain ⟨nb,HNB⟩:∃ n,Hid (S.bs.length=n):=⟨_,hide rfl⟩
 rw [HNB.out] at hj ⊢
 obtain ⟨wb,hwb⟩:∃ wb,wb=(w.alloc (.cells #[.int .i64 (S.num:Int),.int .i64 (S.frm:Int),.slice (some ⟨b0,off0,none⟩) nb c,.slice (some ⟨gp,0,none⟩) np c',.int .i64 (S.fin:Int),.bool S.right,.bool S.torn] 158)).alloc (.cells #[.int .i64 q,.slice a2 cs.length c2] 87):=⟨_,rfl⟩
 have HB0:Hid (Below w.heap.size w wb):=by rw [hwb];exact ((Below.refl _ w).alloc (Nat.le_refl _) _).alloc (by simp) _
 have hbs:wb.heap.size=w.heap.size+2:=by rw [hwb];simp
 have HBK:Hid (wb.heap[w.heap.size]? = some (.cells #[.int .i64 (S.num:Int),.int .i64 (S.frm:Int),.slice (some ⟨b0,off0,none⟩) nb c,.slice (some ⟨gp,0,none⟩) np c',.int .i64 (S.fin:Int),.bool S.right,.bool S.torn] 158 (0,0))):=by rw [hwb];exact (Below.heap_alloc _ _ _ (by simp)).trans (heap_alloc_new w _)
 have HBB:Hid (wb.heap[w.heap.size+1]? = some (.cells #[.int .i64 q,.slice a2 cs.length c2] 87 (0,0))):=by
  rw [hwb]
  have:=heap_alloc_new (w.alloc (.cells #[.int .i64 (S.num:Int),.int .i64 (S.frm:Int),.slice (some ⟨b0,off0,none⟩) nb c,.slice (some ⟨gp,0,none⟩) np c',.int .i64 (S.fin:Int),.bool S.right,.bool S.torn] 158)) (.cells #[.int .i64 q,.slice a2 cs.length c2] 87)
  rwa [World.size_alloc] at this
 have hi0:(0:Int)≤(j:Int):=by omega
 have hi1:(j:Int) < (nb:Int):=by omega
 have hi2:(j:Int) < (np:Int):=by omega
 go_enter Tryz.func135,Tryz.ntmps135
 go_wp2_with fail
 rw [← hwb]
 clear hwb hc0 hc1
 have hw6:wb.cell? ⟨g,6,none⟩=some (.slice ar D.length cr):=(HB0.out.cell (p:=⟨g,6,none⟩) hg).trans hc6
 have hwp:wb.cell? ⟨gp,j,none⟩=some (.int .i64 (P:Int)):=(HB0.out.cell (p:=⟨gp,j,none⟩) hgpw).trans hgc
 have hgw:g < wb.heap.size:=by omega
 have hgpw2:gp < wb.heap.size:=by omega
 obtain ⟨hz0,-,-,hz3,-⟩:=seven_cells HBK.out
 have hz8:wb.cell? ⟨w.heap.size+1,0,none⟩=some (.int .i64 q):=(cell_of_row wb _ 0 _ _ (0,0) HBB.out).trans rfl
 clear hc6 hgc
 go_loopw [8,24] (fun vo ii wr => ∃ (k:Nat),ii=.int .i64 k∧k≤cs.length∧Hid (LiveAt wr wb.heap.size vo (liveI D (S.num:Int) (P:Int) q (cs.take k)))∧Hid (Below wb.heap.size wb wr)) (fun _ ii _ => cs.length - (intOf ii).toNat)
 case atStart => exact ⟨0,rfl,Nat.zero_le _,.inl ⟨_,rfl,rfl⟩,Below.refl _ _⟩
 case round =>
  obtain ⟨k,rfl,hk,HO,HB⟩:=hrel
  have hws:=HB.out.size
  by_cases hlt:k < cs.length
  ·
   have hlt':decide ((k:Int) < (cs.length:Int))=true:=by simp;omega
   obtain ⟨b,off,rfl,hbw2,hd0,hd1,hd2⟩:=changesAt_keep HCH.out (HB0.out.trans (HB.out.mono HB0.out.size)) k hlt
   have htk:=hide (liveI_take (dir:=D) (seg:=(S.num:Int)) (pos:=(P:Int)) (q:=q) hlt)
   generalize cs[k]=A at hd0 hd1 hd2 htk
   obtain ⟨L,HL⟩:∃ L,Hid (liveI D (S.num:Int) (P:Int) q (cs.take k)=L):=⟨_,hide rfl⟩
   have hLl:L.length≤1048576:=by
    have:=liveI_len D (S.num:Int) (P:Int) q (cs.take k)
    rw [HL.out,List.length_take] at this
    omega
   rw [HL.out] at HO htk
   have hk0:(0:Int)≤(k:Int):=by omega
   have hk1:(k:Int) < (cs.length:Int):=by omega
   obtain ⟨wn,hwn⟩:∃ x,x=wr.alloc (.cells #[.string A.key,.string A.value,.bool A.gone] 145):=⟨_,rfl⟩
   have BN0:Hid (Below wr.heap.size wr wn):=by rw [hwn];exact (Below.refl _ _).alloc (Nat.le_refl _) _
   have BN:Hid (Below wb.heap.size wb wn):=HB.out.trans (BN0.out.mono hws)
   have HBN:Hid (wn.heap[wr.heap.size]? = some (.cells #[.string A.key,.string A.value,.bool A.gone] 145 (0,0))):=by rw [hwn];exact heap_alloc_new _ _
   have hnl:wr.heap.size < wn.heap.size:=heap_lt HBN.out
   have hwbn:wb.heap.size≤wn.heap.size:=BN.out.size
   have HON:=hide (liveAt_below HO.out BN0.out)
   have KS:Hid (∀ X,Below wn.heap.size wn X→(X.cell? ⟨g,6,none⟩=some (.slice ar D.length cr)∧X.cell? ⟨wr.heap.size,0,none⟩=some (.string A.key))):=fun X hX => ⟨((BN.out.trans (hX.mono BN.out.size)).cell (p:=⟨g,6,none⟩) hgw).trans hw6,(hX.cell (p:=⟨wr.heap.size,0,none⟩) hnl).trans ((cell_of_row wn _ 0 _ _ (0,0) HBN.out).trans rfl)⟩
   obtain ⟨T,HTT⟩:∃ T,Hid (outSp (findS D A.key)=T):=⟨_,hide rfl⟩
   obtain ⟨bt,HBT⟩:∃ T,Hid ((findS D A.key).isSome=T):=⟨_,hide rfl⟩
   have HSA:Hid (∀ X,Below wn.heap.size wn X→Calls Tryz.prog 159 #[.slice ar D.length cr,.string A.key] X fun e w' => e=.returned (.tuple #[.agg #[.string T.key,.int .i64 T.seg,.int .i64 T.pos,.int .i64 T.seq],.bool bt])∧Below X.heap.size X w'):=fun X hX => by
    have h:=HSO.out A.key X (spotsAt_keep HD.out (HB0.out.trans ((BN.out.trans (hX.mono BN.out.size)).mono HB0.out.size)))
    rw [HTT.out,HBT.out] at h
    exact h
   obtain ⟨hkq0,hkq1⟩:=KS.out wn (Below.refl _ _)
   go_upto_region 20 with fail
   rw [← hwn]
   clear hwn hd0 hd1 hd2
   go_cut [11,12] from 99 (fun s11 s12 wx => ∃ β,s11=.pointer (some ⟨β,0,none⟩)∧s12=.bool bt∧SpotG wn wx β T)
   case first =>
    rename_i hJ9 hK9
    go_region_held3 (fun w' => w'.cell? ⟨g,6,none⟩=some (.slice ar D.length cr)∧w'.cell? ⟨wr.heap.size,0,none⟩=some (.string A.key)) ((refine KS.out _ ?_;first | (exact (((e2.setCell (p:=⟨_,0,none⟩) wbb _).setCell (p:=⟨_,1,none⟩) wbb _).setCell (p:=⟨_,2,none⟩) wbb _).setCell (p:=⟨_,3,none⟩) wbb _) | (exact e2) | (exact e2.alloc e2.size _) | (exact (Below.refl _ _).drew) | (exact ((Below.refl _ wn).alloc (Nat.le_refl _) _).drew) | fail)) ((first | (go_at_call 159;refine (HSA.out _ ?_).mono ?_;exact (Below.refl _ _).drew;rintro e w2 ⟨rfl,b2⟩;have e2:Below wn.heap.size wn w2:=((Below.refl _ _).drew).trans b2) | (go_at_call 159;refine (HSA.out _ ?_).mono ?_;exact ((Below.refl _ wn).alloc (Nat.le_refl _) _).drew;rintro e w2 ⟨rfl,b2⟩;have e2:Below wn.heap.size wn w2:=(((Below.refl _ wn).alloc (Nat.le_refl _) _).drew).trans (b2.mono (by simp));have q2:Hid (w2.heap[wn.heap.size]? = some (.cells #[.string ⟨#[]⟩,.int .i64 0,.int .i64 0,.int .i64 0] 106 (0,0))):=(b2.block _ (by simp)).trans (heap_alloc_new wn _);have wbb:=Nat.le_refl wn.heap.size;obtain ⟨xx0,xx1,xx2,xx3,ff0,ff1,ff2,ff3⟩:=fourC q2.out)))
    all_goals (refine hK9 _ _ (Met.intro (hJ9 _ _ ?_));(repeat apply Exists.intro);refine ⟨?_,rfl⟩)
    all_goals (refine ⟨_,rfl,rfl,?_⟩;first | (have qq:=q2.out;exact spotG_old T e2 qq wbb) | (exact spotG_new T e2))
   case rest =>
    obtain ⟨β,rfl,rfl,hG1,hG2,hG3⟩:=hcut
    have B9:=hide hG3
    have hG9:=hide hG1
    obtain ⟨hx0,hx1,hx2,hx3,-⟩:=fourC hG1
    have BW:=hide (BN.out.trans (hG3.mono BN.out.size))
    have hn0:=(hG3.cell (p:=⟨wr.heap.size,0,none⟩) hnl).trans ((cell_of_row wn _ 0 _ _ (0,0) HBN.out).trans rfl)
    have hn1:=(hG3.cell (p:=⟨wr.heap.size,1,none⟩) hnl).trans ((cell_of_row wn _ 1 _ _ (0,0) HBN.out).trans rfl)
    have hn2:=(hG3.cell (p:=⟨wr.heap.size,2,none⟩) hnl).trans ((cell_of_row wn _ 2 _ _ (0,0) HBN.out).trans rfl)
    have hs0:=(BW.out.cell (p:=⟨w.heap.size,0,none⟩) (heap_lt HBK.out)).trans hz0
    have hs3:=(BW.out.cell (p:=⟨w.heap.size,3,none⟩) (heap_lt HBK.out)).trans hz3
    have hs8:=(BW.out.cell (p:=⟨w.heap.size+1,0,none⟩) (heap_lt HBB.out)).trans hz8
    have hsp:=(BW.out.cell (p:=⟨gp,j,none⟩) hgpw2).trans hwp
    have hgd:Tryz.prog.eqGuardType Tryz.prog.depth 106=false:=by kernel_rfl
    have HO9:=hide (liveAt_below HON.out hG3)
    clear hG1 hG3 hkq0 hkq1 KS HSA
    obtain ⟨r,HRR⟩:∃ r,Hid (((T.key.toList == A.key.toList) && ((T.seg == (S.num:Int)) && ((T.pos == (P:Int)) && (T.seq == q))))=r):=⟨_,hide rfl⟩
    have heql:=eql_spot4 T.key A.key T.seg (S.num:Int) T.pos (P:Int) T.seq q r HRR.out
    have HLB:Hid (liveB D (S.num:Int) (P:Int) q A=(bt && r)):=by
     show _=_
     rw [← HRR.out,← HBT.out,← HTT.out]
     unfold liveB
     cases hf:findS D A.key with
     | none => rfl
     | some Z =>
      have hkz:=List.find?_some hf
      simp only [outSp,Option.map_some,Option.getD_some,Option.isSome_some,Bool.true_and,hkz]
    cases bt with
    | false =>
     rw [HLB.out,Bool.false_and,if_neg (by decide),List.append_nil] at htk
     go_wp2_with fail
     go_quiet (fail)
     go_wp2_with fail
     go_roundw
     case rel =>
      refine ⟨k+1,by go_num,by omega,?_,below_drewN BW.out _⟩
      show LiveAt _ _ _ _
      rw [htk.out]
      exact liveAt_below HO9.out (drewN_below _ _)
     case measure => simp [intOf];omega
    | true =>
     cases r with
     | false =>
      rw [HLB.out,Bool.true_and,if_neg (by decide),List.append_nil] at htk
      go_wp2_with fail
      go_quiet (fail)
      go_wp2_with fail
      go_roundw
      case rel =>
       refine ⟨k+1,by go_num,by omega,?_,below_drewN BW.out _⟩
       show LiveAt _ _ _ _
       rw [htk.out]
       exact liveAt_below HO9.out (drewN_below _ _)
      case measure => simp [intOf];omega
     | true =>
      rw [HLB.out,Bool.true_and,if_pos rfl] at htk
      rcases HO9.out with ⟨ao5,hu5,hL5⟩ | ⟨h05,ho5⟩
      ·
       subst hu5
       have HL5:=hide hL5
       clear hL5
       go_wp2_with fail
       go_quiet (fail)
       have B9d:=hide (below_drewN BW.out nq)
       have hs9:wb.heap.size≤wc.heap.size:=BW.out.size
       go_wp2_with (at_builtin;refine app_change0 _ wb.heap.size (by rfl) _ _ (by rfl) ao5 A (by rfl) wc.heap.size (by rfl) (heap_alloc_new (wc.drewN nq) _) (by simp;omega) ?_;intro g5 cap5 w5 ho5 hb5 hg5 hgl5;have HO5:=hide ho5;have HB5:=hide hb5;clear ho5 hb5 hg5 hgl5)
       go_roundw
       case rel =>
        refine ⟨k+1,by go_num,by omega,?_,(B9d.out.alloc (by show _≤wc.heap.size;omega) _).trans HB5.out⟩
        show LiveAt _ _ _ _
        rw [htk.out,HL5.out]
        exact .inr ⟨by simp,HO5.out⟩
       case measure => simp [intOf];omega
      ·
       have HO6:=hide ho5
       clear ho5
       go_wp2_with fail
       go_quiet (fail)
       have B9d:=hide (below_drewN BW.out nq)
       have HO7:=hide (ownsRow_below HO6.out (drewN_below _ nq))
       have hs9:wb.heap.size≤wc.heap.size:=BW.out.size
       go_wp2_with (at_builtin;refine app_change _ wb.heap.size (by rfl) _ _ (by rfl) _ L A (by rfl) (HO7.out.alloc _) wc.heap.size (by rfl) (heap_alloc_new (wc.drewN nq) _) hLl (by simp;omega) ?_;intro g5 cap5 w5 ho5 hb5 hg5 hgl5;have HO5:=hide ho5;have HB5:=hide hb5;clear ho5 hb5 hg5 hgl5)
       go_roundw
       case rel =>
        refine ⟨k+1,by go_num,by omega,?_,(B9d.out.alloc (by show _≤wc.heap.size;omega) _).trans HB5.out⟩
        show LiveAt _ _ _ _
        rw [htk.out]
        exact .inr ⟨by simp,HO5.out⟩
       case measure => simp [intOf];omega
  ·
   have hlt':decide ((k:Int) < (cs.length:Int))=false:=by simp;omega
   have hke:k=cs.length:=by omega
   subst hke
   rw [List.take_length] at HO
   obtain ⟨ao9,cap9,hv9,hat9⟩:=liveAt_at HO.out
   subst hv9
   have HAT:=hide hat9
   clear hat9
   go_wp2
   go_ret
   exact ⟨⟨_,_,rfl,HAT.out⟩,HB0.out.trans (HB.out.mono HB0.out.size)⟩
theorem strCells_bv (s:ByteArray):Lib.strCells s=s.data.toList.map bv:=rfl
theorem app_text {P:Program} {ops:Array Oper} {rest:List Oper} {o:Oper} {a:Act} {Q:Exit→Act→World→Prop} (wr:World) (ts tx te:TypeId) (hts:P.underlying ts=some (.slice te)) (htx:P.underlying tx=some .string)
  (hinfo:(P.info? te).map (fun i => (i.zero,i.size,i.bytes))=some (some (.int .u8 0),1,1)) (w:World) (B:Nat) (hgd:o.guard=none) (s x:Operand)
  (ho:o.op=.call { callee:=.builtin .append,args:=#[s,x],argTypes:=#[ts,tx] }) (v:Value) (l:List UInt8) (t:ByteArray) (hs:a.eval s=v)
  (hown:wr.ownsRow B te 1 v l.length (l.map bv)) (hx:a.eval x=.string t)
  (hlen:l.length+t.size≤70368744177664) (hbel:Below B w wr) (hbase:B≤wr.heap.size)
  (h:∀ v' w',w'.ownsRow B te 1 v' (l ++ t.data.toList).length ((l ++ t.data.toList).map bv)→Below B w w'→wr.heap.size≤w'.heap.size→wpList P ops Q rest (a.put o.dst v') w') :
  wpList P ops Q (o :: rest) a wr:=by
 obtain ⟨i0,hi,hz0,hz1,hz2⟩:=info_parts hinfo
 refine Lib.wpList_append_own_string wr hgd s x ts tx ho B te i0 hts htx hi hz0 hz1 hz2 v l.length (l.map bv) hs hown t hx (by unfold maxLen;omega) (by omega) hbase ?_
 intro v' w' hown' hgrow _
 have hlt:=hown.lt
 refine h v' w' ?_ (hbel.grown hgrow (by omega) (fun k hk => (hlt k hk).1)) hgrow.size
 rw [List.length_append,List.map_append,← strCells_bv]
 exact hown'
theorem implShort_yes (s:ByteArray) (w:World) (h:s.size≤20000) :
  Calls Tryz.prog 174 #[.string s] w fun e w' => e=.returned (.tuple #[.string (⟨(Wd.varF 5 s.size).toArray⟩ ++ s),.bool true])∧Below w.heap.size w w':=by
 have hl:=Wd.varF_length 5 s.size
 go_enter Tryz.func174,Tryz.ntmps174
 go_wp2_with (first | (go_at_call 133;refine (implVar_yes s.size _ (by omega)).mono ?_;rintro e w1 ⟨rfl,hb1⟩))
 go_ret2
 exact ⟨rfl,hb1⟩
theorem byte_text (b:UInt8):∀ W:World,(convert 133 9 (.slice (some ⟨W.heap.size,0,none⟩) 1 1)).run Tryz.prog (W.alloc (.cells #[bv b] 5))=.ok (.string ⟨#[b]⟩) (W.alloc (.cells #[bv b] 5)):=by
 intro W
 refine run_convert_bytes_back (P:=Tryz.prog) _ 133 9 5 ⟨W.heap.size,0,none⟩ 1 [b] Tryz.underlying133 Tryz.underlying5 Tryz.underlying9 ?_
 intro j hj
 have:j=0:=by simp at hj;omega
 subst this
 exact cells_new W #[bv b] 5 0 _ rfl
theorem changeText_any (A:ChangeD) (w:World) (h1:A.key.size≤20000) (h2:A.value.size≤20000) :
  Calls Tryz.prog 161 #[.agg #[.string A.key,.string A.value,.bool A.gone]] w fun e w' => e=.returned (.string (changeB A))∧Below w.heap.size w w':=by
 obtain ⟨s,v,g⟩:=A
 simp only at h1 h2 ⊢
 obtain ⟨G1,H1⟩:∃ G,Hid (G=shortB s):=⟨_,rfl⟩
 obtain ⟨G2,H2⟩:∃ G,Hid (G=shortB v):=⟨_,rfl⟩
 have C1:Hid (∀ W,Calls Tryz.prog 174 #[.string s] W fun e w' => e=.returned (.tuple #[.string G1,.bool true])∧Below W.heap.size W w'):=fun W => by rw [H1.out];exact implShort_yes s W h1
 have C2:Hid (∀ W,Calls Tryz.prog 174 #[.string v] W fun e w' => e=.returned (.tuple #[.string G2,.bool true])∧Below W.heap.size W w'):=fun W => by rw [H2.out];exact implShort_yes v W h2
 have hz1:G1.size≤20005:=by rw [H1.out];have:=shortB_size s;omega
 have hz2:G2.size≤20005:=by rw [H2.out];have:=shortB_size v;omega
 have HE:Hid (changeB ⟨s,v,g⟩=G1 ++ flagB g ++ G2):=by show _=_;rw [H1.out,H2.out];rfl
 have hc0:∀ W:World,(convert 133 9 (.slice (some ⟨W.heap.size,0,none⟩) 1 1)).run Tryz.prog (W.alloc (.cells #[.int .u8 0] 5))=.ok (.string ⟨#[0]⟩) (W.alloc (.cells #[.int .u8 0] 5)):=fun W => byte_text 0 W
 have hc1:∀ W:World,(convert 133 9 (.slice (some ⟨W.heap.size,0,none⟩) 1 1)).run Tryz.prog (W.alloc (.cells #[.int .u8 1] 5))=.ok (.string ⟨#[1]⟩) (W.alloc (.cells #[.int .u8 1] 5)):=fun W => byte_text 1 W
 have b0:Hid (Below w.heap.size w (w.alloc (.cells #[.string s,.string v,.bool g] 145))):=(Below.refl _ w).alloc (Nat.le_refl _) _
 have hbs:(w.alloc (.cells #[.string s,.string v,.bool g] 145)).heap.size=w.heap.size+1:=by simp
 have hbox:=heap_alloc_new w (.cells #[.string s,.string v,.bool g] 145)
 go_enter Tryz.func161,Tryz.ntmps161
 go_wp2_with fail
 generalize w.alloc (.cells #[.string s,.string v,.bool g] 145)=wb at b0 hbs hbox
 refine (C1.out _).mono ?_
 rintro e w1 ⟨rfl,b1⟩
 have hbx1:=(b1.block w.heap.size (by omega)).trans hbox
 have hd1:w1.cell? ⟨w.heap.size,1,none⟩=some (.string v):=(cell_of_row w1 _ 1 _ _ (0,0) hbx1).trans rfl
 have B1:=hide b1
 have HBS:=hide hbs
 clear b1 hbx1 hbs
 go_wp2_with fail
 refine (C2.out _).mono ?_
 rintro e w2 ⟨rfl,b2⟩
 have B2:=hide (B1.out.trans (b2.mono B1.out.size))
 clear b2 hd1
 have hbx2:=(B2.out.block w.heap.size (by have:=HBS.out;omega)).trans hbox
 have hd2:w2.cell? ⟨w.heap.size,2,none⟩=some (.bool g):=(cell_of_row w2 _ 2 _ _ (0,0) hbx2).trans rfl
 clear hbx2 hbox
 have BE:Hid (∀ o,Below w.heap.size w (w2.alloc o)):=fun o => (b0.out.trans (B2.out.mono b0.out.size)).alloc (by have h1:=B2.out.size;have h2:=HBS.out;omega) o
 have hk0:¬ (9223372036854775807 < G1.size+(⟨#[0]⟩:ByteArray).size):=by have e:(⟨#[0]⟩:ByteArray).size=1:=rfl;omega
 have hk1:¬ (9223372036854775807 < G1.size+(⟨#[1]⟩:ByteArray).size):=by have e:(⟨#[1]⟩:ByteArray).size=1:=rfl;omega
 have hk2:¬ (9223372036854775807 < G1.size+1+G2.size):=by omega
 have hk3:¬ (9223372036854775807 < G1.size+1):=by omega
 cases g
 all_goals
  go_wp2
  go_ret
  rw [HE.out]
  exact ⟨rfl,BE.out _⟩
theorem implBatchText_any (q:Int) (fs:List ChangeD) (ao:Option Addr) (cap:Nat) (w:World) (hl:fs.length≤1048576) (hfs:ChangesAt w ao fs) (hsz:∀ A ∈ fs,A.key.size≤1048576∧A.value.size≤1048576) :
  Calls Tryz.prog 136 #[.agg #[.int .i64 q,.slice ao fs.length cap]] w fun e w' => e=.returned (.tuple #[.string (textD q fs),.bool (textOkD q fs)])∧Below w.heap.size w w':=by
 have HF:=hide hfs
 have HS:=hide hsz
 clear hfs hsz
 have b0:Hid (Below w.heap.size w (w.alloc (.cells #[.int .i64 q,.slice ao fs.length cap] 87))):=(Below.refl _ w).alloc (Nat.le_refl _) _
 cases hok:batchOkD q fs
 ·
  have hT:Hid (textOkD q fs=false):=by show _=_;rw [textOkD,hok];rfl
  have hX:Hid (textD q fs=⟨#[]⟩):=by show _=_;rw [textD,hT.out];rfl
  go_enter Tryz.func136,Tryz.ntmps136
  go_wp2_with fail
  refine (implBatchOk_any q fs ao cap _ hl (changesAt_keep HF.out b0.out) HS.out).mono ?_
  rintro e w1 ⟨rfl,b1⟩
  rw [hok]
  go_wp2
  go_ret2
  rw [hT.out,hX.out]
  exact ⟨rfl,b0.out.trans (b1.mono b0.out.size)⟩
 ·
  obtain ⟨hq0,hq1,hn1,hn2⟩:=batchOkD_bounds hok
  have hchg:okChg none fs=true:=by have h:=hok;unfold batchOkD at h;simp only [Bool.and_eq_true] at h;exact h.2.2
  have HSM:=hide (okChg_small0 fs none hchg)
  obtain ⟨m,rfl⟩:=Int.eq_ofNat_of_zero_le hq0
  have HT:Hid (textOkD (m:Int) fs=decide ((batchL m fs).length≤9000)):=by show _=_;rw [textOkD,hok];rfl
  have hbs:(w.alloc (.cells #[.int .i64 (m:Int),.slice ao fs.length cap] 87)).heap.size=w.heap.size+1:=by simp
  have hbox:=heap_alloc_new w (.cells #[.int .i64 (m:Int),.slice ao fs.length cap] 87)
  go_enter Tryz.func136,Tryz.ntmps136
  go_wp2_with fail
  refine (implBatchOk_any (m:Int) fs ao cap _ hl (changesAt_keep HF.out b0.out) HS.out).mono ?_
  rintro e w1 ⟨rfl,b1⟩
  rw [hok]
  generalize w.alloc (.cells #[.int .i64 (m:Int),.slice ao fs.length cap] 87)=wb at b0 hbs hbox b1
  have HB1:Hid (Below (w.heap.size+1) wb w1):=hbs ▸ b1
  have HBX:Hid (wb.heap[w.heap.size]? = some (.cells #[.int .i64 (m:Int),.slice ao fs.length cap] 87 (0,0))):=hbox
  have HBC:Hid (∀ W,Below (w.heap.size+1) wb W→W.cell? ⟨w.heap.size,0,none⟩=some (.int .i64 (m:Int))∧W.cell? ⟨w.heap.size,1,none⟩=some (.slice ao fs.length cap)):=fun W hW => ⟨(cell_of_row W _ 0 _ _ (0,0) ((hW.block w.heap.size (by omega)).trans HBX.out)).trans rfl,(cell_of_row W _ 1 _ _ (0,0) ((hW.block w.heap.size (by omega)).trans HBX.out)).trans rfl⟩
  have HBS:=hide hbs
  clear b1 hbox hbs
  obtain ⟨hc0,hc1⟩:=HBC.out _ HB1.out
  obtain ⟨V1,HV1⟩:∃ V,Hid (V=(⟨(Wd.varF 5 m).toArray⟩:ByteArray)):=⟨_,rfl⟩
  obtain ⟨V2,HV2⟩:∃ V,Hid (V=(⟨(Wd.varF 5 fs.length).toArray⟩:ByteArray)):=⟨_,rfl⟩
  have hz1:V1.size≤5:=by rw [HV1.out];exact Wd.varF_length 5 m
  have hz2:V2.size≤5:=by rw [HV2.out];exact Wd.varF_length 5 fs.length
  have CV1:Hid (∀ W,Calls Tryz.prog 133 #[.int .i64 (m:Int)] W fun e w' => e=.returned (.tuple #[.string V1,.bool true])∧Below W.heap.size W w'):=fun W => by rw [HV1.out];exact implVar_yes m W (by omega)
  have CV2:Hid (∀ W,Calls Tryz.prog 133 #[.int .i64 (fs.length:Int)] W fun e w' => e=.returned (.tuple #[.string V2,.bool true])∧Below W.heap.size W w'):=fun W => by rw [HV2.out];exact implVar_yes fs.length W (by omega)
  have HH:Hid ([66] ++ V1.data.toList ++ V2.data.toList=(headB m fs.length).data.toList):=by
   show _=_
   rw [HV1.out,HV2.out]
   unfold headB
   rw [ByteArray.data_append,ByteArray.data_append,Array.toList_append,Array.toList_append]
  go_wp2_with fail
  refine (CV1.out _).mono ?_
  rintro e w2 ⟨rfl,b2⟩
  have HB2:=hide (HB1.out.trans (b2.mono (by have h1:=HB1.out.size;have h2:=HBS.out;omega)))
  clear b2 hc0 hc1
  obtain ⟨hc0,hc1⟩:=HBC.out _ HB2.out
  go_wp2_with fail
  refine (CV2.out _).mono ?_
  rintro e w3 ⟨rfl,b3⟩
  have hw2:w.heap.size+1≤w2.heap.size:=by have h1:=HB2.out.size;have h2:=HBS.out;omega
  have HB3:=hide (HB2.out.trans (b3.mono hw2))
  have hw3:w.heap.size+1≤w3.heap.size:=Nat.le_trans hw2 b3.size
  clear b3 hc0 hc1
  have ho3:(w3.alloc (.cells #[.int .u8 66] 5)).ownsRow (w.heap.size+1) 5 1 (.slice (some ⟨w3.heap.size,0,none⟩) 1 1) [(66:UInt8)].length ([(66:UInt8)].map bv) :=
   ⟨rfl,.inr ⟨w3.heap.size,1,#[.int .u8 66],rfl,hw3,heap_alloc_new w3 _,Nat.le_refl _,by unfold maxLen;omega,rfl,rfl⟩⟩
  have hb3:Below (w.heap.size+1) wb (w3.alloc (.cells #[.int .u8 66] 5)):=HB3.out.alloc hw3 _
  have hs3:w.heap.size+1≤(w3.alloc (.cells #[.int .u8 66] 5)).heap.size:=by simp;omega
  have HO3:=hide ho3
  have HB3:=hide hb3
  have HS3:=hide hs3
  clear ho3 hb3 hs3 hw2 hw3
  go_wp2_with (first | (at_builtin;refine app_text _ 133 9 5 Tryz.underlying133 Tryz.underlying9 Tryz.info5 wb (w.heap.size+1) rfl _ _ rfl _ ([66] ++ V1.data.toList) V2 rfl HO4.out rfl (by have e:V1.data.toList.length=V1.size:=rfl;simp only [List.length_append,List.length_cons,List.length_nil,e];omega) HB4.out HS4.out ?_;intro v5 w5 ho5 hb5 hs5;rw [HH.out] at ho5;have HO5:=hide ho5;have HB5:=hide hb5;clear ho5 hb5 hs5;obtain ⟨hc0,hc1⟩:=HBC.out _ HB5.out) | (at_builtin;refine app_text _ 133 9 5 Tryz.underlying133 Tryz.underlying9 Tryz.info5 wb (w.heap.size+1) rfl _ _ rfl _ [66] V1 rfl HO3.out rfl (by simp;omega) HB3.out HS3.out ?_;intro v4 w4 ho4 hb4 hs4;have HO4:=hide ho4;have HB4:=hide hb4;have HS4:=hide (Nat.le_trans HS3.out hs4);clear ho4 hb4 hs4))
  go_loopw [8,37] (fun vo ii wr => ∃ (k:Nat),ii=.int .i64 k∧k≤fs.length∧Hid (wr.ownsRow (w.heap.size+1) 5 1 vo ((headB m fs.length).data.toList ++ changesL (fs.take k)).length (((headB m fs.length).data.toList ++ changesL (fs.take k)).map bv))∧Hid (Below (w.heap.size+1) wb wr)) (fun _ ii _ => fs.length - (intOf ii).toNat)
  case atStart =>
   refine ⟨0,rfl,Nat.zero_le _,?_,HB5⟩
   rw [List.take_zero,changesL,List.append_nil]
   exact HO5
  case round =>
   clear HO3 HO4 HO5 HB3 HB4 HB5 HS3 HS4
   obtain ⟨k,rfl,hk,HO,HB⟩:=hrel
   have hws:w.heap.size+1≤wr.heap.size:=by have h1:=HB.out.size;have h2:=HBS.out;omega
   have HB0:Hid (Below w.heap.size w wr):=b0.out.trans (HB.out.mono (by omega))
   by_cases hlt:k < fs.length
   ·
    have hlt':decide ((k:Int) < (fs.length:Int))=true:=by simp;omega
    obtain ⟨b,off,rfl,hbw,hd0,hd1,hd2⟩:=changesAt_keep HF.out HB0.out k hlt
    obtain ⟨hs1,hs2⟩:=HSM.out fs[k] (List.getElem_mem hlt)
    obtain ⟨F,HFk⟩:∃ F,Hid (fs[k]=F):=⟨fs[k],hide rfl⟩
    rw [HFk.out] at hd0 hd1 hd2 hs1 hs2
    have hi0:(0:Int)≤(k:Int):=by omega
    have hi1:(k:Int) < (fs.length:Int):=by omega
    obtain ⟨LL,HLL⟩:∃ LL,Hid (LL=(headB m fs.length).data.toList ++ changesL (fs.take k)):=⟨_,rfl⟩
    rw [← HLL.out] at HO
    have hLl:LL.length≤1000000000000:=by
     have h1:=headB_size m fs.length
     have h2:=changesL_len (fs.take k) (fun A hA => HS.out A (List.mem_of_mem_take hA))
     have h3:(fs.take k).length≤fs.length:=by rw [List.length_take];omega
     have e1:(headB m fs.length).data.toList.length=(headB m fs.length).size:=rfl
     rw [HLL.out,List.length_append,e1]
     omega
    have hcz:=changeB_size F
    go_wp2_with fail
    refine (changeText_any F _ (by omega) (by omega)).mono ?_
    rintro e w6 ⟨rfl,b6⟩
    have B6:Hid (Below wr.heap.size wr w6):=((Below.refl _ wr).alloc (Nat.le_refl _) _).trans (b6.mono (by simp))
    clear b6 hd0 hd1 hd2
    have HO6:=hide (ownsRow_below HO.out B6.out)
    have HB6:=hide (HB.out.trans (B6.out.mono hws))
    have HS6:Hid (w.heap.size+1≤w6.heap.size):=Nat.le_trans hws B6.out.size
    go_wp2_with (at_builtin;refine app_text _ 133 9 5 Tryz.underlying133 Tryz.underlying9 Tryz.info5 wb (w.heap.size+1) rfl _ _ rfl _ LL (changeB F) rfl HO6.out rfl (by omega) HB6.out HS6.out ?_;intro v7 w7 ho7 hb7 hs7;have HO7:=hide ho7;have HB7:=hide hb7;clear ho7 hb7 hs7)
    go_roundw
    case rel =>
     refine ⟨k+1,by go_num,by omega,?_,HB7⟩
     have e2:(headB m fs.length).data.toList ++ changesL (fs.take (k+1))=LL ++ (changeB F).data.toList:=by
      rw [HLL.out,List.take_succ_eq_append_getElem hlt,changesL_snoc,HFk.out,List.append_assoc]
     rw [e2]
     exact HO7
    case measure => simp [intOf];omega
   ·
    have hlt':decide ((k:Int) < (fs.length:Int))=false:=by simp;omega
    obtain ⟨L,HL⟩:∃ L,Hid (L=batchL m fs):=⟨_,rfl⟩
    have HO1:Hid (wr.ownsRow (w.heap.size+1) 5 1 u8 L.length (L.map bv)):=by
     have h:=HO.out
     rw [List.take_of_length_le (by omega)] at h
     show World.ownsRow _ _ _ _ _ _ _
     rw [HL.out]
     exact h
    have hcv:=conv_own (P:=Tryz.prog) 133 5 9 Tryz.underlying133 Tryz.underlying5 Tryz.underlying9 wr _ u8 L HO1.out
    obtain ⟨ga,gc,rfl⟩:=slice_form HO1.out
    have hm:((m:Int)).toNat=m:=by simp
    by_cases hbig:9000 < L.length
    ·
     have hbig':decide ((9000:Int) < (L.length:Int))=true:=by simp;omega
     have hT:Hid (textOkD (m:Int) fs=false):=by show _=_;rw [HT.out,← HL.out];simp;omega
     have hX:Hid (textD (m:Int) fs=⟨#[]⟩):=by show _=_;rw [textD,hT.out];rfl
     go_wp2
     go_ret2
     rw [hT.out,hX.out]
     exact ⟨rfl,HB0.out⟩
    ·
     have hbig':decide ((9000:Int) < (L.length:Int))=false:=by simp;omega
     have hT:Hid (textOkD (m:Int) fs=true):=by show _=_;rw [HT.out,← HL.out];simp;omega
     have hX:Hid (textD (m:Int) fs=⟨L.toArray⟩):=by show _=_;rw [textD,hT.out,hm,← HL.out];rfl
     go_wp2
     go_ret2
     rw [hT.out,hX.out]
     exact ⟨rfl,HB0.out⟩
end Go.Proofs.YtepdckehokdjlaaGreatDoor
