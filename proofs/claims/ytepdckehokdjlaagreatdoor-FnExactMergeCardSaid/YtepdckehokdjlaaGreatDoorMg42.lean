import Derived.WalkMore
import Derived.ScopeJumps
import Derived.Test.YtepdckehokdjlaaGreatDoorMg40
import Derived.Test.YtepdckehokdjlaaGreatDoorMg23
import Derived.Test.YtepdckehokdjlaaGreatDoorMg34
import Derived.Test.YtepdckehokdjlaaGreatDoorMg37
import Derived.Test.YtepdckehokdjlaaGreatDoorMg41
import Derived.Test.YtepdckehokdjlaaGreatDoorMg32
set_option maxRecDepth 100000
set_option maxHeartbeats 8000000
namespace Go.Proofs.YtepdckehokdjlaaGreatDoor
open Go.RowKit Go.Maps
theorem buildG_lockM {w:World} {B K g:Nat} {v:Value} {l:List SegD} {C:Array Value} (h:BuildG w B K v l) (hb:w.heap[g]? = some (.cells C 119 (0,0))) (z:Value):BuildG (w.setCell ⟨g,0,none⟩ z) B K v l:=by
 obtain ⟨vs,ps,h0,h1,h2,h3,h4⟩:=h
 have hg:w.grownBy (w.setCell ⟨g,0,none⟩ z) (some g):=grownBy_store (World.grownBy.refl w _) 0 z
 refine ⟨vs,ps,h0,h1,World.ownsRow.kept h2 hg ?_,fun j x b hx hj => rowBatch_far (h3 j x b hx hj) hg (fun g' e => ⟨C,_,by cases e;exact hb,by decide,by decide⟩),fun j x b hx hj => rowNat_far (h4 j x b hx hj) hg (fun g' e => ⟨C,_,by cases e;exact hb,by decide⟩)⟩
 cases hv:v.ownBlock with
 | none => exact .inl rfl
 | some k =>
  refine .inr (fun e => ?_)
  obtain ⟨C',hC⟩:=owns_block h2 hv
  cases e
  rw [hb] at hC
  simp at hC
def mrgR (fs:List FileD) (room:Int):Option (List FileD):=if 1 < (segsL fs).length then stepsD room fs (actsM (dirD fs) (segsL fs).dropLast (lastNum (segsL fs))) else none
theorem mrgR_G {fs:List FileD} {room act seq:Int} {dir:List SpotD} (h:engB fs room act seq dir):mrgG fs room act seq dir=mrgR fs room:=by
 unfold mrgG mrgR
 split
 ·
  rename_i hl
  have hk:mergOk fs room act seq dir=true:=by unfold mergOk;rw [engOkB_yes h,decide_eq_true hl];rfl
  rw [hk,mergE_yes hk]
  rfl
 ·
  rename_i hl
  have hk:mergOk fs room act seq dir=false:=by unfold mergOk;rw [decide_eq_false hl,Bool.and_false]
  rw [hk]
  rfl
def MrgI (fs:List FileD) (room:Int) (B:Nat) (e:Ending) (w':World):Prop :=
 ((∃ G,mrgR fs room=some G∧openIB G room=true∧∃ vd vr va,e=.returned (.tuple #[.agg #[vd,.int .i64 room,.int .i64 ((lastG G).num:Int),.int .i64 (seqD (segsL G)),vr],va,.nilIface])∧RowF w' B vd (actsF G (actsI G)).1∧RowSpot w' B vr (dirD G)∧w'.ownsRow B 51 4 va (actsM (dirD fs) (segsL fs).dropLast (lastNum (segsL fs))).length (cellsAct (actsM (dirD fs) (segsL fs).dropLast (lastNum (segsL fs))))) ∨
  ((∀ G,mrgR fs room=some G→openIB G room=false)∧∃ c s,e=.returned (.tuple #[.agg #[.slice none 0 0,.int .i64 0,.int .i64 0,.int .i64 0,.slice none 0 0],.slice none 0 0,.iface 121 (.agg #[.int .i64 c,.string s])])))
theorem storeAt_laterM {w w':World} {B g:Nat} {fs:List FileD} {room:Int} {vd vr vs:Value} (h:StoreAt w B g fs room vd vr vs) (hb:Below w.heap.size w w'):StoreAt w' B g fs room vd vr vs :=
 ⟨(hb.block _ (heap_lt h.blk)).trans h.blk,h.le,rowF_below h.disk hb,rowSpot_below h.dir hb,buildG_below h.segs hb⟩
theorem jump_ret {l:Nat} {J:Act→World→Prop} {Q:Exit→Act→World→Prop}:Exit.jump l J Q .ret=Q .ret:=rfl
theorem ownsRow_same {w w':World} {B:Nat} {e:TypeId} {size:Nat} {v:Value} {n:Nat} {xs:List Value} (h:w.ownsRow B e size v n xs) (hk:∀ g,v.ownBlock=some g→w'.heap[g]? = w.heap[g]?):w'.ownsRow B e size v n xs:=by
 refine ⟨h.1,?_⟩
 rcases h.2 with h | ⟨g,cap,cur,hv,hb,hc,r⟩
 · exact .inl h
 · exact .inr ⟨g,cap,cur,hv,hb,(hk g (by rw [hv];rfl)).trans hc,r⟩
def OpenP (G:List FileD) (room:Int) (w:World) (e:Ending) (w':World):Prop :=
 (∃ (p:Option Addr) (va er:Value),e=.returned (.tuple #[.pointer p,va,er]) ∧
  ((openIB G room=true∧∃ gS vd vr vs,p=some ⟨gS,0,none⟩∧er=.nilIface∧StoreAt w' w.heap.size gS G room vd vr vs) ∨
   (openIB G room=false∧∃ s,p=none∧er=.iface 121 (.agg #[.int .i64 1,.string s]))))∧Below w.heap.size w w'
theorem openP_any (G:List FileD) (ao:Option Addr) (cap:Nat) (room:Int) (w:World) (hl:G.length≤1048576) (hfs:FilesAt w ao G) (hsz:∀ F ∈ G,F.name.size≤1048576∧F.text.size≤1048576) (hT:SumTab w) :
  Calls Tryz.prog 59 #[.agg #[.slice ao G.length cap],.int .i64 room] w (OpenP G room w):=by
 refine (openStore_any G ao cap room w hl hfs hsz hT).mono ?_
 rintro e w' ⟨b,⟨ho,g,vd,vr,vs,va,rfl,st,-⟩ | ⟨ho,s,rfl⟩⟩
 · exact ⟨⟨_,_,_,rfl,.inl ⟨ho,g,vd,vr,vs,rfl,rfl,st⟩⟩,b⟩
 · exact ⟨⟨_,_,_,rfl,.inr ⟨ho,s,rfl,rfl⟩⟩,b⟩
theorem below_stay {O:Nat→Prop} {B:Nat} {a b:World} (h:Stay O a b) (hO:∀ k,k < B→¬ O k):Below B a b:=⟨h.os,h.tape,h.output,h.size,fun k hk => h.block k (hO k hk)⟩
theorem merge_any (fs:List FileD) (room:Int) (wB:World) (g:Nat) (vd vr vs:Value) (w:World) (hst0:StoreAt w wB.heap.size g fs room vd vr vs) (hdk:diskOkD fs=true) (hcalm:calmB fs=true) (h0:0 < (segsL fs).length) (hwB:Below wB.heap.size wB w) (hT:SumTab wB) :
  Calls Tryz.prog 23 #[.pointer (some ⟨g,0,none⟩)] w fun e w' => MrgI fs room wB.heap.size e w'∧Below wB.heap.size w w':=by
 obtain ⟨wa,hwa⟩:∃ wa,wa=w.alloc (.cells #[.slice none 0 0,.int .i64 0,.int .i64 0,.int .i64 0,.slice none 0 0] 34):=⟨_,rfl⟩
 have hA0:Below w.heap.size w wa:=by rw [hwa];exact (Below.refl _ w).alloc (Nat.le_refl _) _
 have hXA:wa.heap[w.heap.size]? = some (.cells #[.slice none 0 0,.int .i64 0,.int .i64 0,.int .i64 0,.slice none 0 0] 34 (0,0)):=by rw [hwa];exact heap_alloc_new w _
 have hst:=storeAt_laterM hst0 hA0
 have hgw:g < w.heap.size:=heap_lt hst0.blk
 have hle:=hst.le
 have hd1:=storeAt_disk hst (.int .i32 1)
 have hs1:=storeAt_dirC hst (.int .i32 1)
 have hg1:BuildG (wa.setCell ⟨g,0,none⟩ (.int .i32 1)) wB.heap.size wB.heap.size vs (segsL fs):=buildG_lockM hst.segs hst.blk (.int .i32 1)
 rw [calm_acts hcalm] at hd1
 have hd1:RowF (wa.setCell ⟨g,0,none⟩ (.int .i32 1)) wB.heap.size vd fs:=hd1
 obtain ⟨ad,cd,rfl,hdf⟩:=rowF_at hd1
 obtain ⟨ar,cr,rfl,hds⟩:=rowSpot_at hs1
 obtain ⟨ag,cg,rfl⟩:=buildG_form hg1
 have hcap:(segsL fs).length≤cg:=by obtain ⟨_,_,_,_,h2,_⟩:=hg1;exact owns_cap h2
 have HDS:=hide hds
 have HSG:=hide (segsAt_of hg1)
 have HB1:=hide (storeAt_lock hst (.int .i32 1))
 have HK:=hide (eight_cells hst.blk)
 have HDK:=hide (rowF_files hd1)
 have hdl:=dirD_len fs
 have hll:=segsL_len fs
 have HX1:Hid ((wa.setCell ⟨g,0,none⟩ (.int .i32 1)).heap[w.heap.size]? = some (.cells #[.slice none 0 0,.int .i64 0,.int .i64 0,.int .i64 0,.slice none 0 0] 34 (0,0))):=(Below.heap_setCell _ _ _ _ (fun e => by have e2:w.heap.size=g:=e;omega)).trans hXA
 clear hds hs1 hst hg1 hdf hd1 hst0 hXA
 have hA1:Below wB.heap.size w wa:=hA0.mono hwB.size
 obtain ⟨w1,hw1⟩:∃ w1,w1=wa.setCell ⟨g,0,none⟩ (.int .i32 1):=⟨_,rfl⟩
 rw [← hw1] at HB1 HDS HSG HDK HX1
 have HW1:Hid (Below wB.heap.size w w1):=by show Below _ _ _;rw [hw1];exact hA1.setCell (p:=⟨g,0,none⟩) hle _
 have HWB:Hid (Below wB.heap.size wB w1):=hwB.trans HW1.out
 have HT1:Hid (SumTab w1):=sumTab_later HWB.out hT
 have hgl:g < w1.heap.size:=heap_lt HB1.out
 have hB1:wB.heap.size≤w1.heap.size:=Nat.le_of_lt (Nat.lt_of_le_of_lt hle hgl)
 obtain ⟨k0,k1,k2,k3,k4,k5,k6,k7,k8⟩:=eight_cells HB1.out
 have HAM:=hide (fun W (hW:Below w1.heap.size w1 W) => actsOfMerge_any (dirD fs) (segsL fs) g ar ag cr cg wB.heap.size W (by omega) (dirD_srt fs) (Nat.lt_of_lt_of_le hgl hW.size) ((hW.cell (p:=⟨g,6,none⟩) hgl).trans k6) ((hW.cell (p:=⟨g,7,none⟩) hgl).trans k7) hcap (spotsAt_keep HDS.out hW) hll h0 (segsAt_keep HSG.out hW) (fun S hS => segsL_ok hS) (fun S hS => by have h1:=chsN_len S.bs (fun b hb => textOk_one (segsL_ok hS b hb));have h2:=segsL_three hS;omega) (by have:=segsL_N fs;omega) (sumTab_later hW HT1.out))
 clear hwB hT k0 k1 k3 k4 k5 k6 k7 k8 hA0 hA1
 go_enter_defers Tryz.func23,Tryz.ntmps23
 go_wp2_with fail
 rw [← hwa]
 clear hwa
 refine wp_scope_jumps 0 (fun a' W => ∃ (c:Int) (s:ByteArray) (u1 u5 u6 u7 u9 u10 u11 u12 u13 u14 u15 u16 u17 u18 u19 u20 u21 u22 u23 u24 u25 u26 u27 u28 u29 u30 u31 u32 u33 u34 u35 u36 u37 u38 u39 u40 u41 u42 u43 u44 u45 u46 u47 u48 u49 u50 u51 u52 u53 u54 u55 u56 u57 u58 u59 u60 u61 u62 u63 u64 u65 u66 u67 u68 u69 u70 u71 u72 u73 u74:Value),a' = { tmps:=#[.pointer (some ⟨g,0,none⟩),u1,.pointer (some ⟨w.heap.size,0,none⟩),.slice none 0 0,.nilIface,u5,u6,u7,.iface 121 (.agg #[.int .i64 c,.string s]),u9,u10,u11,u12,u13,u14,u15,u16,u17,u18,u19,u20,u21,u22,u23,u24,u25,u26,u27,u28,u29,u30,u31,u32,u33,u34,u35,u36,u37,u38,u39,u40,u41,u42,u43,u44,u45,u46,u47,u48,u49,u50,u51,u52,u53,u54,u55,u56,u57,u58,u59,u60,u61,u62,u63,u64,u65,u66,u67,u68,u69,u70,u71,u72,u73,u74],defers:=[{ target:=.fn (.func 62) #[],args:=#[.pointer (some ⟨g,0,none⟩)] }] }∧Hid (Below wB.heap.size w W)∧Hid (W.heap[w.heap.size]? = some (.cells #[.slice none 0 0,.int .i64 0,.int .i64 0,.int .i64 0,.slice none 0 0] 34 (0,0)))∧Hid (∃ C,W.heap[g]? = some (.cells C 119 (0,0))∧C[0]? = some (.int .i32 1))∧Hid (∀ G,mrgR fs room=some G→openIB G room=false)) (fun _ _ => 0) rfl ?_ ?_
 ·
  go_wp2_with fail
  refine (Go.MuLone.lock_free Tryz.muLib ⟨g,0,none⟩ wa HK.out.1 HK.out.2.2.2.2.2.2.2.2).mono ?_
  rintro e w' ⟨rfl,rfl⟩
  rw [← hw1]
  clear hw1
  go_wp2_with fail
  refine (shelfOf_any fs ad cd _ hdk HDK.out).mono ?_
  rintro e w2 ⟨mb,rfl,hmb,hsh,b2⟩
  have HSH:=hide hsh
  have HAM2:=hide (HAM.out w2 b2)
  have B2:=hide b2
  have hs2:=b2.size
  have X2:=hide ((b2.block _ (heap_lt HX1.out)).trans HX1.out)
  have Y2:=hide ((b2.block _ hgl).trans HB1.out)
  have HW2:=hide (HW1.out.trans (b2.mono hB1))
  clear hsh b2
  go_wp2_with fail
  refine HAM2.out.mono ?_
  rintro e w3 ⟨⟨hl1,s,rfl⟩ | ⟨hl1,va,rfl,ho⟩,b3⟩
  ·
   have X3:=hide ((b3.block _ (heap_lt X2.out)).trans X2.out)
   have Y3:=hide ((b3.block _ (heap_lt Y2.out)).trans Y2.out)
   have HW3:=hide (HW2.out.trans (b3.mono (Nat.le_trans hB1 hs2)))
   have HNO:Hid (∀ G,mrgR fs room=some G→openIB G room=false):=fun G hG => by unfold mrgR at hG;rw [if_neg (by omega)] at hG;cases hG
   clear b3
   go_wp2_with fail
   go_step3
   exact ⟨rfl,1,s,_,_,_,_,_,_,_,_,_,_,_,_,_,_,_,_,_,_,_,_,_,_,_,_,_,_,_,_,_,_,_,_,_,_,_,_,_,_,_,_,_,_,_,_,_,_,_,_,_,_,_,_,_,_,_,_,_,_,_,_,_,_,_,_,_,_,_,_,_,_,rfl,HW3,X3,⟨_,Y3.out,rfl⟩,HNO⟩
  ·
   rw [lastNum_at hl1] at ho
   obtain ⟨qs,HQ⟩:∃ qs,Hid (actsM (dirD fs) (segsL fs).dropLast (lastNum (segsL fs))=qs):=⟨_,rfl⟩
   rw [HQ.out] at ho
   have HMR:Hid (mrgR fs room=stepsD room fs (qs.drop 0)):=by show _=_;unfold mrgR;rw [if_pos hl1,HQ.out,List.drop_zero]
   have HQS:Hid (∀ A ∈ qs,A.name.size≤1048576∧A.text.size≤1048576∧A.toN.size≤1048576):=by rw [← HQ.out];exact actsM_szM _ _ _
   have hql:qs.length≤1000000:=by have:=actsM_len fs (lastNum (segsL fs));rw [HQ.out] at this;omega
   have HRO:=hide ho
   have HT13:=hide (sumTab_later b3 (sumTab_later B2.out HT1.out))
   have HB13:=hide (B2.out.trans (b3.mono hs2))
   have HRA:=hide (rowAct_own ho)
   obtain ⟨aa,ca,rfl,-⟩:=rowAct_at HRA.out
   have hmb2:mb < w2.heap.size:=by obtain ⟨D,pt,hD⟩:=HSH.out;exact hD.1.lt
   have HMB:Hid (GapO w1.heap.size w2.heap.size w3.heap.size mb):=⟨hmb,by omega⟩
   have HWS:=hide (shelfW_of (T2:=w3.heap.size) HSH.out (Nat.le_refl _) b3)
   have HGP:Hid (∀ k,w3.heap.size≤k→GapO w1.heap.size w2.heap.size w3.heap.size k):=fun k hk => by have:=b3.size;exact ⟨by omega,by omega⟩
   have X3:=hide ((b3.block _ (heap_lt X2.out)).trans X2.out)
   have Y3:=hide ((b3.block _ (heap_lt Y2.out)).trans Y2.out)
   have HW3:=hide (HW2.out.trans (b3.mono (Nat.le_trans hB1 hs2)))
   have hs3:=b3.size
   clear b3 ho HSH HAM HAM2 X2 Y2 HW2 HDS HSG
   generalize hO:GapO w1.heap.size w2.heap.size w3.heap.size=O at HMB HWS HGP
   have HO:=hide hO
   have HNG:Hid (∀ k,k < w1.heap.size→¬ O k):=fun k hk => by rw [← hO];exact fun h => absurd h.1 (by omega)
   have hxw:=heap_lt HX1.out
   clear hO
   go_wp2_with fail
   go_loopw [33] (fun ii wr => ∃ (k:Nat) (G:List FileD),ii=.int .i64 (k:Int)∧k≤qs.length∧Hid (diskOkD G=true)∧Hid (mrgR fs room=stepsD room G (qs.drop k))∧Hid (ShelfW O wr w1.heap.size mb G)∧Hid (Stay O w3 wr)) (fun ii _ => qs.length - (intOf ii).toNat)
   case atStart => exact ⟨0,fs,rfl,Nat.zero_le _,hdk,HMR,HWS,Stay.refl _ _⟩
   case round =>
    obtain ⟨k,G,rfl,hk,HG,HM,HS,HST⟩:=hrel
    have hwr:=HST.out.size
    by_cases hlt:k < qs.length
    ·
     have hlt':decide ((k:Int) < (qs.length:Int))=true:=by simp;omega
     obtain ⟨b,off,rfl,hbw,hc0,hc1,hc2,hc3⟩:=rowAct_rows (rowAct_keep HRA.out (fun g' hg' => HST.out.block g' (by rw [← HO.out];have:=rowAct_lt HRA.out g' hg';exact fun h => h.2 ⟨this.1,this.2⟩))) k hlt
     have hsA:=HQS.out qs[k] (List.getElem_mem hlt)
     obtain ⟨A,HAk⟩:∃ A,Hid (qs[k]=A):=⟨qs[k],hide rfl⟩
     rw [HAk.out] at hc0 hc1 hc2 hc3 hsA
     obtain ⟨hA1,hA2,hA3⟩:=hsA
     have hi0:(0:Int)≤(k:Int):=by omega
     have hi1:(k:Int) < (qs.length:Int):=by omega
     go_wp2_with fail
     refine (do_anyO G mb w1.heap.size A _ HG.out O (shelfW_below HS.out ((Below.refl _ _).alloc (Nat.le_refl _) _)) HMB.out (by simp;omega) (fun k hk => HGP.out k (by simp at hk;omega)) hA1 hA2 hA3).mono ?_
     rintro e w4 ⟨rfl,hsh4,b4⟩
     have ST4:=hide (HST.out.trans ((stay_of ((Below.refl wr.heap.size wr).alloc (Nat.le_refl _) _) (fun k hk => HGP.out k (by omega))).trans b4))
     have HS4:=hide hsh4
     have HW4:Hid (Below wB.heap.size w w4):=HW3.out.trans (below_stay ST4.out (fun k hk => HNG.out k (by omega)))
     have X4:=hide ((ST4.out.block _ (HNG.out _ hxw)).trans X3.out)
     have Y4:=hide ((ST4.out.block _ (HNG.out _ hgl)).trans Y3.out)
     have z4:=ST4.out.size
     clear hsh4 b4 hc0 hc1 hc2 hc3
     cases hact:actD G A with
     | none =>
      have HNO:Hid (∀ G,mrgR fs room=some G→openIB G room=false):=fun G' hG' => by rw [HM.out,stepsD_no hlt (by rw [HAk.out];exact hact)] at hG';cases hG'
      have hb:Option.isSome (none:Option (List FileD))=false:=rfl
      go_wp2_with fail
      go_step3
      exact ⟨rfl,_,_,_,_,_,_,_,_,_,_,_,_,_,_,_,_,_,_,_,_,_,_,_,_,_,_,_,_,_,_,_,_,_,_,_,_,_,_,_,_,_,_,_,_,_,_,_,_,_,_,_,_,_,_,_,_,_,_,_,_,_,_,_,_,_,_,_,_,_,_,_,_,rfl,HW4,X4,⟨_,Y4.out,rfl⟩,HNO⟩
     | some gN =>
      have hgok:=actD_ok hact
      have HGK:=hide hgok
      have hb:Option.isSome (some gN)=true:=rfl
      rw [hact] at HS4
      have HS4:Hid (ShelfW O w4 w1.heap.size mb gN):=HS4
      have kr:w4.cell? ⟨g,3,none⟩=some (.int .i64 room):=(eight_cells Y4.out).2.2.2.1
      have hgl4:g < w4.heap.size:=heap_lt Y4.out
      have KR:Hid (∀ W,Below w4.heap.size w4 W→W.cell? ⟨g,3,none⟩=some (.int .i64 room)):=fun W hW => (hW.cell (p:=⟨g,3,none⟩) hgl4).trans kr
      have HBY:Hid (∀ W,Below w4.heap.size w4 W→Calls Tryz.prog 66 #[.map (some mb)] W fun e w' => e=.returned (.int .i64 (usedL gN:Nat))∧Below W.heap.size W w'):=fun W hW => shelfBytes_any gN w1.heap.size mb W (shelfW_at (shelfW_below HS4.out hW)) HGK.out
      clear hgok
      go_wp2_with fail
      go_region_held3 (fun W => W.cell? ⟨g,3,none⟩=some (.int .i64 room)) (first | (exact KR.out _ (Below.refl _ _)) | (exact KR.out _ (Below.refl _ _).drew) | (exact KR.out _ ((Below.refl _ _).drew.trans b5)) | fail) ((go_at_call 66;refine (HBY.out _ (by first | exact (Below.refl _ _).drew | exact Below.refl _ _)).mono ?_;rintro e w5 ⟨rfl,b5⟩))
      have c5:Below w4.heap.size w4 w5:=(Below.refl _ _).drew.trans b5
      have ST5:=hide (ST4.out.trans (stay_of c5 (fun k hk => HGP.out k (by omega))))
      have HS5:=hide (shelfW_below HS4.out c5)
      have HW5:=hide (HW4.out.trans (c5.mono (Nat.le_trans hB1 (by omega))))
      have X5:=hide ((c5.block _ (heap_lt X4.out)).trans X4.out)
      have Y5:=hide ((c5.block _ (heap_lt Y4.out)).trans Y4.out)
      clear b5 c5
      by_cases hroom:room < (usedL gN:Int)
      ·
       have hroom':decide (room < (usedL gN:Int))=true:=decide_eq_true hroom
       have HNO:Hid (∀ G,mrgR fs room=some G→openIB G room=false):=fun G' hG' => by rw [HM.out,stepsD_full hlt (by rw [HAk.out];exact hact) hroom] at hG';cases hG'
       go_wp2_with fail
       go_step3
       exact ⟨rfl,_,_,_,_,_,_,_,_,_,_,_,_,_,_,_,_,_,_,_,_,_,_,_,_,_,_,_,_,_,_,_,_,_,_,_,_,_,_,_,_,_,_,_,_,_,_,_,_,_,_,_,_,_,_,_,_,_,_,_,_,_,_,_,_,_,_,_,_,_,_,_,_,rfl,HW5,X5,⟨_,Y5.out,rfl⟩,HNO⟩
      ·
       have hroom':decide (room < (usedL gN:Int))=false:=decide_eq_false hroom
       have HM5:Hid (mrgR fs room=stepsD room gN (qs.drop (k+1))):=by show _=_;rw [HM.out,stepsD_yes hlt (by rw [HAk.out];exact hact) hroom]
       go_wp2_with fail
       go_roundw
       case rel => exact ⟨k+1,gN,by go_num,by omega,HGK,HM5,HS5,ST5⟩
       case measure => simp [intOf];omega
    ·
     have hlt':decide ((k:Int) < (qs.length:Int))=false:=by rw [decide_eq_false_iff_not];omega
     have HME:Hid (mrgR fs room=some G):=by show _=_;rw [HM.out,stepsD_end (by omega)]
     have hb3r:Below w1.heap.size w3 wr:=below_stay HST.out (fun k hk => HNG.out k hk)
     have HWR:Hid (Below wB.heap.size w wr):=HW3.out.trans (hb3r.mono hB1)
     have HTR:=hide (sumTab_later (HB13.out.trans hb3r) HT1.out)
     have XR:=hide ((HST.out.block _ (HNG.out _ hxw)).trans X3.out)
     have YR:=hide ((HST.out.block _ (HNG.out _ hgl)).trans Y3.out)
     have HROR:Hid (wr.ownsRow w2.heap.size 51 4 (.slice aa qs.length ca) qs.length (cellsAct qs)):=ownsRow_same HRO.out (fun g' hg' => HST.out.block g' (by rw [← HO.out];have:=rowAct_lt HRA.out g' hg';exact fun h => h.2 ⟨this.1,this.2⟩))
     have kr:wr.cell? ⟨g,3,none⟩=some (.int .i64 room):=(eight_cells YR.out).2.2.2.1
     have hglr:g < wr.heap.size:=heap_lt YR.out
     have KR:Hid (∀ W,Below wr.heap.size wr W→W.cell? ⟨g,3,none⟩=some (.int .i64 room)):=fun W hW => (hW.cell (p:=⟨g,3,none⟩) hglr).trans kr
     have HDI:Hid (∀ W,Below wr.heap.size wr W→Calls Tryz.prog 67 #[.map (some mb)] W fun e w' => ∃ a c,e=.returned (.agg #[.slice a G.length c])∧FilesAt w' a G∧Below W.heap.size W w'):=fun W hW => by
      refine (disk_any G mb w1.heap.size W HG.out (shelfW_at (shelfW_below HS.out hW))).mono ?_
      rintro e w' ⟨v,rfl,hr,hb⟩
      obtain ⟨a,c,rfl,hf⟩:=rowF_at hr
      exact ⟨a,c,rfl,hf,hb⟩
     have hdf:=disk_files HG.out
     have HOS:Hid (∀ W a c,Below wr.heap.size wr W→FilesAt W a G→Calls Tryz.prog 59 #[.agg #[.slice a G.length c],.int .i64 room] W (OpenP G room W)):=fun W a c hW hf =>
      openP_any G a c room W (by have:=hdf.1;omega) hf (fun F hF => by have:=hdf.2 F hF;omega) (sumTab_later hW HTR.out)
     clear hb3r hdf
     go_wp2_with fail
     go_region_held3 (fun W => W.cell? ⟨g,3,none⟩=some (.int .i64 room)) (first | (exact KR.out _ (Below.refl _ _)) | (exact KR.out _ (Below.refl _ _).drew) | (exact KR.out _ c6) | (exact KR.out _ c7) | fail) ((first | (go_at_call 67;refine (HDI.out _ (by first | exact (Below.refl _ _).drew | exact Below.refl _ _)).mono ?_;rintro e w6 ⟨a6,q6,rfl,f6,b6⟩;have c6:Below wr.heap.size wr w6:=(Below.refl _ _).drew.trans b6) | (go_at_call 59;refine (HOS.out _ a6 q6 c6 f6).mono ?_;rintro e w7 ⟨⟨p7,va7,er7,rfl,hp7⟩,b7⟩;have c7:Below wr.heap.size wr w7:=c6.trans (b7.mono c6.size))))
     have z6:=c6.size
     have X7:=hide ((c7.block _ (heap_lt XR.out)).trans XR.out)
     have Y7:=hide ((c7.block _ hglr).trans YR.out)
     have HW7:=hide (HWR.out.trans (c7.mono (Nat.le_trans hB1 (by omega))))
     have HRO7:=hide (ownsRow_below HROR.out c7)
     have hzr:=HWR.out.size
     rcases hp7 with ⟨hop,gS,vd7,vr7,vs7,rfl,rfl,st⟩ | ⟨hop,s,rfl,rfl⟩
     ·
      obtain ⟨ad7,cd7,rfl,-⟩:=rowF_at st.disk
      obtain ⟨ar7,cr7,rfl,-⟩:=rowSpot_at st.dir
      have ST:=hide st
      have HOP:=hide hop
      obtain ⟨-,-,e2,e3,e4,e5,e6,-,-⟩:=eight_cells st.blk
      obtain ⟨z0,z1,z2,z3,z4,f0,f1,f2,f3,f4⟩:=five_cells X7.out
      clear st hop kr b6 b7 c6 c7 f6
      go_wp2
      rw [jump_ret]
      have hne:g ≠ w.heap.size:=by omega
      obtain ⟨WS,hWS⟩:∃ WS,WS=(((((w7.setCell ⟨w.heap.size,0,none⟩ (.slice ad7 (actsF G (actsI G)).1.length cd7)).setCell ⟨w.heap.size,1,none⟩ (.int .i64 room)).setCell ⟨w.heap.size,2,none⟩ (.int .i64 ((lastG G).num:Int))).setCell ⟨w.heap.size,3,none⟩ (.int .i64 (seqD (segsL G)))).setCell ⟨w.heap.size,4,none⟩ (.slice ar7 (dirD G).length cr7)):=⟨_,rfl⟩
      have XS:Hid (WS.heap[w.heap.size]? = some (.cells #[.slice ad7 (actsF G (actsI G)).1.length cd7,.int .i64 room,.int .i64 ((lastG G).num:Int),.int .i64 (seqD (segsL G)),.slice ar7 (dirD G).length cr7] 34 (0,0))):=by
       have c0:=(heap_setCell_same w7 w.heap.size 0 _ _ (.slice ad7 (actsF G (actsI G)).1.length cd7) X7.out).trans rfl
       have c1:=(heap_setCell_same _ w.heap.size 1 _ _ (.int .i64 room) c0).trans rfl
       have c2:=(heap_setCell_same _ w.heap.size 2 _ _ (.int .i64 ((lastG G).num:Int)) c1).trans rfl
       have c3:=(heap_setCell_same _ w.heap.size 3 _ _ (.int .i64 (seqD (segsL G))) c2).trans rfl
       have c4:=(heap_setCell_same _ w.heap.size 4 _ _ (.slice ar7 (dirD G).length cr7) c3).trans rfl
       show _=_
       rw [hWS,c4]
       rfl
      have hoth:Hid (∀ k,k ≠ w.heap.size→WS.heap[k]? = w7.heap[k]?):=fun k hk => by
       rw [hWS,heap_setCell_other _ _ _ _ hk,heap_setCell_other _ _ _ _ hk,heap_setCell_other _ _ _ _ hk,heap_setCell_other _ _ _ _ hk,heap_setCell_other _ _ _ _ hk]
      have HWS2:Hid (Below wB.heap.size w WS):=by
       show Below _ _ _
       rw [hWS]
       exact ((((HW7.out.setCell (p:=⟨w.heap.size,0,none⟩) (by show _≤w.heap.size;omega) _).setCell (p:=⟨w.heap.size,1,none⟩) (by show _≤w.heap.size;omega) _).setCell (p:=⟨w.heap.size,2,none⟩) (by show _≤w.heap.size;omega) _).setCell (p:=⟨w.heap.size,3,none⟩) (by show _≤w.heap.size;omega) _).setCell (p:=⟨w.heap.size,4,none⟩) (by show _≤w.heap.size;omega) _
      have YS:=hide ((hoth.out g hne).trans Y7.out)
      rw [← hWS]
      clear hWS z0 z1 z2 z3 z4 f0 f1 f2 f3 f4 e2 e3 e4 e5 e6
      have h00:WS.cell? ⟨g,0,none⟩=some (.int .i32 1):=(eight_cells YS.out).1
      have hzf:WS.frozen? ⟨g,0,none⟩=false:=frozen_of_row WS g 0 _ _ YS.out
      refine leaves_cons (f:=62) (args:=#[.pointer (some ⟨g,0,none⟩)]) (by simp) (by simp [go_sem]) ?_
      refine (Go.MuLone.unlock_deferred Tryz.muLib ⟨g,0,none⟩ .returning _ h00 hzf).mono ?_
      rintro e u' w'' ⟨rfl,rfl,rfl⟩
      have XF:(WS.setCell ⟨g,0,none⟩ (.int .i32 0)).heap[w.heap.size]? = some (.cells #[.slice ad7 (actsF G (actsI G)).1.length cd7,.int .i64 room,.int .i64 ((lastG G).num:Int),.int .i64 (seqD (segsL G)),.slice ar7 (dirD G).length cr7] 34 (0,0)):=(heap_setCell_other _ _ _ _ (Ne.symm hne)).trans XS.out
      have hall:∀ k,w1.heap.size≤k→(WS.setCell ⟨g,0,none⟩ (.int .i32 0)).heap[k]? = w7.heap[k]?:=fun k hk => (heap_setCell_other _ _ _ _ (by show k ≠ g;omega)).trans (hoth.out k (by omega))
      obtain ⟨x0,x1,x2,x3,x4,-⟩:=five_cells XF
      refine ⟨.tuple #[.agg #[.slice ad7 (actsF G (actsI G)).1.length cd7,.int .i64 room,.int .i64 ((lastG G).num:Int),.int .i64 (seqD (segsL G)),.slice ar7 (dirD G).length cr7],.slice aa qs.length ca,.nilIface],by simp [results,Tryz.results23,go_sem,x0,x1,x2,x3,x4],.inl ⟨G,HME.out,HOP.out,_,_,_,rfl,rowF_le (rowF_keep ST.out.disk (fun k hk => hall k (by have:=(rowF_lt ST.out.disk k hk).1;omega))) (by omega),rowSpot_le (rowSpot_keep ST.out.dir (fun k hk => hall k (by have:=(rowSpot_lt ST.out.dir k hk).1;omega))) (by omega),?_⟩,HWS2.out.setCell (p:=⟨g,0,none⟩) hle _⟩
      rw [HQ.out]
      exact ownsRow_mono (ownsRow_same HRO7.out (fun k hk => hall k (by have:=(rowAct_lt HRA.out k hk).1;omega))) (by omega)
     ·
      have HNO:Hid (∀ G,mrgR fs room=some G→openIB G room=false):=fun G' hG' => by
       rw [HME.out] at hG'
       cases hG'
       exact hop
      clear hop kr b6 b7 c6 c7 f6
      go_wp2_with fail
      go_step3
      exact ⟨rfl,_,_,_,_,_,_,_,_,_,_,_,_,_,_,_,_,_,_,_,_,_,_,_,_,_,_,_,_,_,_,_,_,_,_,_,_,_,_,_,_,_,_,_,_,_,_,_,_,_,_,_,_,_,_,_,_,_,_,_,_,_,_,_,_,_,_,_,_,_,_,_,_,rfl,HW7,X7,⟨_,Y7.out,rfl⟩,HNO⟩
 ·
  rintro a W ⟨c,s,u1,u5,u6,u7,u9,u10,u11,u12,u13,u14,u15,u16,u17,u18,u19,u20,u21,u22,u23,u24,u25,u26,u27,u28,u29,u30,u31,u32,u33,u34,u35,u36,u37,u38,u39,u40,u41,u42,u43,u44,u45,u46,u47,u48,u49,u50,u51,u52,u53,u54,u55,u56,u57,u58,u59,u60,u61,u62,u63,u64,u65,u66,u67,u68,u69,u70,u71,u72,u73,u74,rfl,HW,HX,HY,HNO⟩
  obtain ⟨C,hC,hC0⟩:=HY.out
  have HC:=hide hC
  have c0:W.cell? ⟨g,0,none⟩=some (.int .i32 1):=(cell_of_row W g 0 _ _ (0,0) hC).trans (by simpa using hC0)
  obtain ⟨z0,z1,z2,z3,z4,f0,f1,f2,f3,f4⟩:=five_cells HX.out
  clear hC hC0
  go_wp2
  rw [jump_ret]
  have hne:g ≠ w.heap.size:=by omega
  obtain ⟨WS,hWS⟩:∃ WS,WS=(((((W.setCell ⟨w.heap.size,0,none⟩ (.slice none 0 0)).setCell ⟨w.heap.size,1,none⟩ (.int .i64 0)).setCell ⟨w.heap.size,2,none⟩ (.int .i64 0)).setCell ⟨w.heap.size,3,none⟩ (.int .i64 0)).setCell ⟨w.heap.size,4,none⟩ (.slice none 0 0)):=⟨_,rfl⟩
  have XS:Hid (WS.heap[w.heap.size]? = some (.cells #[.slice none 0 0,.int .i64 0,.int .i64 0,.int .i64 0,.slice none 0 0] 34 (0,0))):=by
   have d0:=(heap_setCell_same W w.heap.size 0 _ _ (.slice none 0 0) HX.out).trans rfl
   have d1:=(heap_setCell_same _ w.heap.size 1 _ _ (.int .i64 0) d0).trans rfl
   have d2:=(heap_setCell_same _ w.heap.size 2 _ _ (.int .i64 0) d1).trans rfl
   have d3:=(heap_setCell_same _ w.heap.size 3 _ _ (.int .i64 0) d2).trans rfl
   have d4:=(heap_setCell_same _ w.heap.size 4 _ _ (.slice none 0 0) d3).trans rfl
   show _=_
   rw [hWS,d4]
   rfl
  have hoth:Hid (∀ k,k ≠ w.heap.size→WS.heap[k]? = W.heap[k]?):=fun k hk => by
   rw [hWS,heap_setCell_other _ _ _ _ hk,heap_setCell_other _ _ _ _ hk,heap_setCell_other _ _ _ _ hk,heap_setCell_other _ _ _ _ hk,heap_setCell_other _ _ _ _ hk]
  have HWS2:Hid (Below wB.heap.size w WS):=by
   show Below _ _ _
   rw [hWS]
   exact ((((HW.out.setCell (p:=⟨w.heap.size,0,none⟩) (by show _≤w.heap.size;omega) _).setCell (p:=⟨w.heap.size,1,none⟩) (by show _≤w.heap.size;omega) _).setCell (p:=⟨w.heap.size,2,none⟩) (by show _≤w.heap.size;omega) _).setCell (p:=⟨w.heap.size,3,none⟩) (by show _≤w.heap.size;omega) _).setCell (p:=⟨w.heap.size,4,none⟩) (by show _≤w.heap.size;omega) _
  have YS:=hide ((hoth.out g hne).trans HC.out)
  have h00:WS.cell? ⟨g,0,none⟩=some (.int .i32 1):=by
   have h1:=cell_of_row WS g 0 _ _ (0,0) YS.out
   have h2:=cell_of_row W g 0 _ _ (0,0) HC.out
   exact h1.trans (h2.symm.trans c0)
  rw [← hWS]
  clear hWS z0 z1 z2 z3 z4 f0 f1 f2 f3 f4
  have hzf:WS.frozen? ⟨g,0,none⟩=false:=frozen_of_row WS g 0 _ _ YS.out
  refine leaves_cons (f:=62) (args:=#[.pointer (some ⟨g,0,none⟩)]) (by simp) (by simp [go_sem]) ?_
  refine (Go.MuLone.unlock_deferred Tryz.muLib ⟨g,0,none⟩ .returning _ h00 hzf).mono ?_
  rintro e u' w'' ⟨rfl,rfl,rfl⟩
  have XF:(WS.setCell ⟨g,0,none⟩ (.int .i32 0)).heap[w.heap.size]? = some (.cells #[.slice none 0 0,.int .i64 0,.int .i64 0,.int .i64 0,.slice none 0 0] 34 (0,0)):=(heap_setCell_other _ _ _ _ (Ne.symm hne)).trans XS.out
  obtain ⟨x0,x1,x2,x3,x4,-⟩:=five_cells XF
  exact ⟨.tuple #[.agg #[.slice none 0 0,.int .i64 0,.int .i64 0,.int .i64 0,.slice none 0 0],.slice none 0 0,.iface 121 (.agg #[.int .i64 c,.string s])],by simp [results,Tryz.results23,go_sem,x0,x1,x2,x3,x4],.inr ⟨HNO.out,c,s,rfl⟩,HWS2.out.setCell (p:=⟨g,0,none⟩) hle _⟩
end Go.Proofs.YtepdckehokdjlaaGreatDoor
