import Derived.Test.YtepdckehokdjlaaGreatDoorMg9
import Derived.Test.YtepdckehokdjlaaGreatDoorMg11
import Derived.Test.YtepdckehokdjlaaGreatDoorMg12
set_option maxRecDepth 100000
set_option maxHeartbeats 3200000
namespace Go.Proofs.YtepdckehokdjlaaGreatDoor
open Go.RowKit
def SegLeft (n:Int) (s:ByteArray) (w:World) (e:Ending) (w':World):Prop :=
 (∃ v,e=.returned (.tuple #[.int .i64 ((segFrom n s:Nat):Int),v,.int .i64 ((segEnd n s:Nat):Int),.bool (segOk n s)])∧RowBatch w' w.heap.size v (segBatches n s))∧Below w.heap.size w w'
theorem segLeft_none {n:Int} {s:ByteArray} {w w':World} {v:Value} (h:segRead n s=none) (hb:Below w.heap.size w w') (hv:RowBatch w' w.heap.size v []):SegLeft n s w (.returned (.tuple #[.int .i64 0,v,.int .i64 0,.bool false])) w':=by
 obtain ⟨h1,h2,h3,h4⟩:=seg_none h
 refine ⟨⟨v,by rw [h1,h3,h4];rfl,by rw [h2];exact hv⟩,hb⟩
theorem segLeft_some {n:Int} {s:ByteArray} {w w':World} {v:Value} {f e:Nat} {bs:List BatchD} (h:segRead n s=some (f,bs,e)) (hb:Below w.heap.size w w') (hv:RowBatch w' w.heap.size v bs):SegLeft n s w (.returned (.tuple #[.int .i64 (f:Int),v,.int .i64 (e:Int),.bool true])) w':=by
 obtain ⟨h1,h2,h3,h4⟩:=seg_some h
 refine ⟨⟨v,by rw [h1,h3,h4],by rw [h2];exact hv⟩,hb⟩
def lastOf (l:List BatchD):Int:=match l.getLast? with
 | some b => b.seq
 | none => -1
theorem lastOf_snoc (l:List BatchD) (b:BatchD):lastOf (l ++ [b])=b.seq:=by simp [lastOf]
theorem rdSeq_nat {t:ByteArray} (h:rdOk t=true):0≤rdSeq t:=by unfold rdSeq;rw [if_pos h];omega
theorem str_cell {w:World} {B g n cap:Nat} {L:List (List UInt8)} (h:w.ownsRow B 9 1 (.slice (some ⟨g,0,none⟩) n cap) n (L.map sv)) (j:Nat) (hj:j < n) (x:List UInt8) (hx:L[j]? = some x):w.cell? ⟨g,j,none⟩=some (.string ⟨x.toArray⟩):=by
 rw [h.cellAt j (by omega),List.getElem?_map,hx];rfl
theorem recs_get (s:ByteArray) (l:List (Nat × Nat)) (j:Nat) (x:Nat × Nat) (h:l[j]? = some x):(recs s l)[j]? = some (s.extract x.1 x.2).data.toList:=by
 unfold recs
 rw [List.getElem?_map,h]
 rfl
theorem data_back (t:ByteArray):(⟨t.data.toList.toArray⟩:ByteArray)=t:=by cases t;simp
theorem chained_get {s:ByteArray}:∀ {l:List (Nat × Nat)} {i:Nat},chained s i l→∀ x ∈ l,1≤(s.extract x.1 x.2).size∧(s.extract x.1 x.2).size≤9000
 | [],_,_,_,h => absurd h List.not_mem_nil
 | y :: r,_,hc,x,h => by
  rcases List.mem_cons.1 h with rfl | h
  · exact (frB_size hc.1).2
  · exact chained_get hc.2 x h
theorem frameB_le (t:ByteArray) (h:t.size≤9000):(frameB t).size≤9009:=by
 have h1:=frameB_size t
 have h2:=Wd.varF_len 5 t.size
 omega
theorem after_app {wr W w':World} {B B':Nat} {v x:Value} {n:Nat} {xs:List Value} {bs:List BatchD} (h:wr.ownsRow B' 9 1 x n xs) (hb:BuildB wr B v bs) (hbel:Below wr.heap.size wr W) (hg:W.grownBy w' v.ownBlock):w'.ownsRow B' 9 1 x n xs :=
 row_apart (ownsRow_below h hbel) (by decide) (buildB_below hb hbel) hg
theorem specReadSegment_any (n:Int) (s:ByteArray) (w:World) (hs:s.size≤1048576):Calls Tryz.prog 39 #[.int .i64 n,.string s] w (SegLeft n s w):=by
 have hB0:Hid (Below w.heap.size w (w.alloc (.cells #[] 87))):=(Below.refl _ w).alloc (Nat.le_refl _) _
 have hR0:Hid (BuildB (w.alloc (.cells #[] 87)) w.heap.size (.slice (some ⟨w.heap.size,0,none⟩) 0 0) []):=buildB_lit w w.heap.size (Nat.le_refl _) _ rfl
 have HU:=hide (fun W => specUnframe_any s W hs)
 obtain ⟨U,HUU⟩:∃ U,Hid (unf s=U):=⟨_,rfl⟩
 have HCH:Hid (chained s 0 U):=by show chained _ _ _;rw [← HUU.out];exact unf_chained s
 have hUl:U.length≤20001:=by rw [← HUU.out];exact unf_len s
 obtain ⟨L,HL⟩:∃ L,Hid (recs s U=L):=⟨_,rfl⟩
 have hLl:L.length=U.length:=by rw [← HL.out,recs_len]
 obtain ⟨eo,HEO⟩:∃ eo:Int,Hid (((endOf U:Nat):Int)=eo):=⟨_,rfl⟩
 have HUN:Hid (∀ W,Calls Tryz.prog 75 #[.string s] W fun e w' => ∃ v,e=.returned (.tuple #[v,.int .i64 eo])∧w'.ownsRow W.heap.size 9 1 v L.length (L.map sv)∧Below W.heap.size W w'):=by
  intro W
  have h:=HU.out W
  unfold FramesLeft at h
  rw [HUU.out,HL.out,HEO.out] at h
  exact h
 clear HU
 by_cases hn:0≤n∧n≤99
 ·
  obtain ⟨n,rfl⟩:=Int.eq_ofNat_of_zero_le hn.1
  cases U with
  | nil =>
   have HE:=hide (segRead_nil (n:=(n:Int)) HUU.out)
   obtain rfl:L=[]:=List.eq_nil_of_length_eq_zero hLl
   clear hLl
   go_enter Tryz.func39,Tryz.ntmps39
   go_wp2_with fail
   refine (HUN.out _).mono ?_
   rintro e w1 ⟨lv,rfl,hown,b1⟩
   have B1:=hide (hB0.out.trans (b1.mono hB0.out.size))
   have R1:=hide (buildB_row (buildB_below hR0.out b1))
   obtain ⟨a,c,rfl⟩:=slice_form hown
   clear hown b1
   go_wp2_with fail
   refine (l01In_yes _ _ _ _ (by omega) (by omega)).mono ?_
   rintro e w2 ⟨rfl,rfl⟩
   go_wp2_with fail
   refine bodyPost_ret (v:=.tuple #[.int .i64 0,.slice (some ⟨w.heap.size,0,none⟩) 0 0,.int .i64 0,.bool false]) ?_ rfl ?_
   · simp [results,Tryz.results39,go_sem]
   · exact segLeft_none HE.out B1.out R1.out
  | cons x0 r =>
   have hx0:=chained_get HCH.out x0 (List.mem_cons_self ..)
   obtain ⟨T0,HT0⟩:∃ T,Hid (s.extract x0.1 x0.2=T):=⟨_,rfl⟩
   rw [HT0.out] at hx0
   have hg0:L[0]? = some T0.data.toList:=by rw [← HL.out,recs_get s (x0 :: r) 0 x0 rfl,HT0.out]
   have HG0:=hide hg0
   clear hg0
   have hL1:1≤L.length:=by rw [hLl];simp
   have hz:((L.length:Int) == 0)=false:=by rw [beq_eq_false_iff_ne];omega
   have HH:=hide (fun W => l06Head_any n T0 W (by omega) (by omega))
   have HLl:=hide hLl
   clear hLl
   go_enter Tryz.func39,Tryz.ntmps39
   go_wp2_with fail
   refine (HUN.out _).mono ?_
   rintro e w1 ⟨lv,rfl,hown,b1⟩
   have B1:=hide (hB0.out.trans (b1.mono hB0.out.size))
   have R1:=hide (buildB_below hR0.out b1)
   obtain ⟨g,cap,hlv⟩:∃ g cap,lv=.slice (some ⟨g,0,none⟩) L.length cap:=by
    rcases hown.2 with ⟨-,h⟩ | ⟨g,cap,cur,h,_⟩
    · omega
    · exact ⟨g,cap,h⟩
   subst hlv
   have HO1:=hide hown
   clear hown b1 hB0 hR0
   have hcell:=str_cell HO1.out 0 (by omega) _ HG0.out
   rw [data_back] at hcell
   go_wp2_with fail
   refine (l01In_yes _ _ _ _ (by omega) (by omega)).mono ?_
   rintro e w2 ⟨rfl,rfl⟩
   go_wp2_with fail
   refine (HH.out _).mono ?_
   rintro e w3 ⟨rfl,b3⟩
   have B3:=hide (B1.out.trans (b3.mono B1.out.size))
   have R3:=hide (buildB_below R1.out b3)
   have HO3:=hide (ownsRow_below HO1.out b3)
   clear b3 hcell HO1 R1 B1 HH
   cases hhd:hdFrom (n:Int) T0 with
   | none =>
    have HE:=hide (segRead_head (n:=(n:Int)) HUU.out (by rw [HT0.out];exact hhd))
    have R3':=hide (buildB_row R3.out)
    go_wp2_with fail
    refine bodyPost_ret (v:=.tuple #[.int .i64 0,.slice (some ⟨w.heap.size,0,none⟩) 0 0,.int .i64 0,.bool false]) ?_ rfl ?_
    · simp [results,Tryz.results39,go_sem]
    · exact segLeft_none HE.out B3.out R3'.out
   | some f =>
    have HE:=hide (segRead_some (n:=(n:Int)) HUU.out (by rw [HT0.out];exact hhd))
    clear hhd
    have hcell:=str_cell HO3.out 0 (by omega) _ HG0.out
    rw [data_back] at hcell
    have hsz:=hide ((frB_size HCH.out.1).1)
    rw [HT0.out] at hsz
    go_wp2_with fail
    refine (specFrame_yes T0 _ hx0.1 hx0.2).mono ?_
    rintro e w4 ⟨rfl,b4⟩
    have B4:=hide (B3.out.trans (b4.mono B3.out.size))
    have R4:=hide (buildB_below R3.out b4)
    have HO4:=hide (ownsRow_below HO3.out b4)
    clear b4 hcell HO3 R3 B3
    obtain ⟨e0,HE0⟩:∃ e0:Nat,Hid ((frameB T0).size=e0):=⟨_,rfl⟩
    obtain ⟨F0,HF0⟩:∃ F0,Hid (frameB T0=F0):=⟨_,rfl⟩
    rw [HF0.out] at HE0
    rw [HF0.out]
    go_wp2_with fail
    go_loopw [8,13,15,16] (fun vo vf ve vi wr => ∃ (i e:Nat) (acc:List BatchD) (ff:ByteArray),vf=.string ff∧ve=.int .i64 e∧vi=.int .i64 i∧1≤i∧i≤(x0 :: r).length∧Hid (acc.length+1=i)∧e≤9009 * i∧Hid (chained s e ((x0 :: r).drop i))∧Hid (ris s r (-1) x0.2=(acc ++ (ris s ((x0 :: r).drop i) (lastOf acc) e).1,(ris s ((x0 :: r).drop i) (lastOf acc) e).2))∧Hid (BuildB wr w.heap.size vo acc)∧Hid (wr.ownsRow w.heap.size 9 1 (.slice (some ⟨g,0,none⟩) L.length cap) L.length (L.map sv))∧Hid (Below w.heap.size w wr)) (fun _ _ _ vi _ => (x0 :: r).length - (intOf vi).toNat)
    case atStart =>
     refine ⟨1,F0.size,[],F0,rfl,rfl,rfl,Nat.le_refl _,by simp,rfl,by rw [← HF0.out];exact frameB_le T0 hx0.2,?_,?_,R4,?_,B4⟩
     ·
      have h:=HCH.out.2
      show chained s F0.size r
      rw [← HF0.out,show (frameB T0).size=x0.2 from by have:=hsz.out;omega]
      exact h
     ·
      show _=_
      rw [← HF0.out,show (frameB T0).size=x0.2 from by have:=hsz.out;omega]
      simp [lastOf]
     · exact ownsRow_mono HO4.out (by simp)
    case round =>
     clear HO4 R4 B4 HE0
     obtain ⟨i,e,acc,ff,rfl,rfl,rfl,hi1,hi2,HAI,he9,HC,HR,HBu,HO,HB⟩:=hrel
     have hal:acc.length≤20001:=by have:=HAI.out;omega
     have HLs:=HLl.out
     by_cases hlt:i < (x0 :: r).length
     ·
      have hlt':decide ((i:Int) < (L.length:Int))=true:=by simp;omega
      obtain ⟨x,hx⟩:∃ x,(x0 :: r)[i]? = some x:=⟨_,List.getElem?_eq_getElem hlt⟩
      have hdrop:(x0 :: r).drop i=x :: (x0 :: r).drop (i+1):=by
       rw [List.drop_eq_getElem_cons hlt]
       rw [List.getElem?_eq_getElem hlt] at hx
       rw [Option.some.inj hx]
      rw [hdrop] at HC HR
      have hxs:=chained_get HC.out x (List.mem_cons_self ..)
      have hfs:=hide (frB_size HC.out.1).1
      obtain ⟨T,HT⟩:∃ T,Hid (s.extract x.1 x.2=T):=⟨_,rfl⟩
      have hgi:L[i]? = some T.data.toList:=by rw [← HL.out,recs_get s (x0 :: r) i x hx,HT.out]
      rw [HT.out] at hxs hfs
      have hcell:=str_cell HO.out i (by omega) _ hgi
      rw [data_back] at hcell
      have hii:(0:Int)≤(i:Int):=by omega
      have hij:(i:Int) < (L.length:Int):=by omega
      have HRB:=hide (fun W => specReadBatch_any T W (by omega))
      have HNN:=hide (fun h:rdOk T=true => rdSeq_nat h)
      have HRno:=hide (fun h => ris_no (s:=s) (x:=x) (r:=(x0 :: r).drop (i+1)) (last:=lastOf acc) (e:=e) (by rw [HT.out];exact h))
      have HRyes:=hide (fun h1 h2 => ris_more (s:=s) (x:=x) (r:=(x0 :: r).drop (i+1)) (last:=lastOf acc) (e:=e) (by rw [HT.out];exact h1) (by rw [HT.out];exact h2))
      simp only [HT.out] at HRyes
      obtain ⟨q,HQ⟩:∃ q,Hid (rdSeq T=q):=⟨_,rfl⟩
      rw [HQ.out] at HRB HNN HRno HRyes
      generalize rdChanges T=fs at HRB HRyes
      generalize rdOk T=ok at HRB HNN HRno HRyes
      have HGI:=hide hgi
      have HX:=hide hx
      have HDR:=hide hdrop
      clear hgi hx hdrop HLs
      go_wp2_with fail
      refine (HRB.out _).mono ?_
      rintro e5 w5 ⟨⟨v5,rfl,r5⟩,b5⟩
      obtain ⟨a5,c5,rfl,-⟩:=rowChange_at r5
      have R5:=hide r5
      have B5:=hide b5
      clear r5 b5 hcell
      obtain ⟨wA,hwA⟩:∃ wA,wA=w5.alloc (.cells #[.int .i64 q,.slice a5 fs.length c5] 87):=⟨_,rfl⟩
      have BA:Hid (Below w5.heap.size w5 wA):=by rw [hwA];exact (Below.refl _ w5).alloc (Nat.le_refl _) _
      have hbl:Hid (wA.heap[w5.heap.size]? = some (.cells #[.int .i64 q,.slice a5 fs.length c5] 87 (0,0))):=by rw [hwA];exact heap_alloc_new _ _
      go_wp2_with fail
      rw [← hwA]
      clear hwA
      have hA0:wA.cell? ⟨w5.heap.size,0,none⟩=some (.int .i64 q):=(cell_of_row wA _ 0 _ _ (0,0) hbl.out).trans rfl
      have hA1:wA.cell? ⟨w5.heap.size,1,none⟩=some (.slice a5 fs.length c5):=(cell_of_row wA _ 1 _ _ (0,0) hbl.out).trans rfl
      have BWA:Hid (Below wr.heap.size wr wA):=B5.out.trans (BA.out.mono B5.out.size)
      have BuA:=hide (buildB_below HBu.out BWA.out)
      have HBA:Hid (Below w.heap.size w wA):=HB.out.trans (BWA.out.mono HB.out.size)
      obtain ⟨ab,cb,hu8,hat⟩:=rowBatch_at (buildB_row BuA.out)
      subst hu8
      cases ok with
      | false =>
       have hr:=HRno.out (by simp)
       have HE2:Hid (segRead (n:Int) s=some (f,acc,e)):=by show _=_;rw [HE.out,HR.out,hr,List.append_nil]
       have HRow:=hide (rowBatch_keep (w':=wA) (buildB_row BuA.out) (fun _ _ _ => rfl))
       clear hat hr HR HRno HRyes HNN
       go_quiet (fail)
       go_wp2_with fail
       refine bodyPost_ret (v:=.tuple #[.int .i64 (f:Int),.slice ab acc.length cb,.int .i64 (e:Int),.bool true]) ?_ rfl ?_
       · simp [results,Tryz.results39,go_sem]
       · exact segLeft_some HE2.out (below_drewN HBA.out _) (rowBatch_below HRow.out (drewN_below _ _))
      | true =>
       have hq0:=HNN.out rfl
       have HWD:Hid (∀ (k:Nat) (o:Obj),Below wr.heap.size wr ((wA.drewN k).alloc o)):=fun k o => (below_drewN BWA.out k).alloc BWA.out.size _
       have HXD:Hid (∀ (k:Nat) (o:Obj),RowChange ((wA.drewN k).alloc o) wr.heap.size (.slice a5 fs.length c5) fs):=fun k o => rowChange_below (rowChange_below R5.out BA.out) ((below_drewN (Below.refl _ _) k).alloc (Nat.le_refl _) _)
       clear HRno HNN
       by_cases hemp:acc.length=0
       ·
        have hl0:decide ((0:Int) < (acc.length:Int))=false:=by rw [decide_eq_false_iff_not];omega
        have hl1:decide (0 < acc.length)=false:=by rw [decide_eq_false_iff_not];omega
        have hmore:lastOf acc < q:=by rw [List.eq_nil_of_length_eq_zero hemp];show (-1:Int) < q;omega
        have hempH:=hide hemp
        clear hemp hat
        go_quiet (fail)
        go_wp2_with (at_builtin;refine app_batch wr _ w.heap.size (by rfl) _ _ (by rfl) (.slice ab acc.length cb) (.slice a5 fs.length c5) acc ⟨q,fs⟩ (by rfl) HBu.out HB.out.size (HWD.out _ _) (HXD.out _ _) wA.heap.size (by rfl) (heap_alloc_new (wA.drewN nq) _) (by omega) ?_;intro g7 cap7 w7 hbu7 hb7 hg7;have BU7:=hide hbu7;have B7:=hide (HB.out.trans (((HWD.out _ _).mono HB.out.size).trans hb7));have HO7:=hide (after_app HO.out HBu.out (HWD.out _ _) hg7);clear hbu7 hb7 hg7;have hcell7:=str_cell HO7.out i (by omega) _ HGI.out;rw [data_back] at hcell7)
        refine (specFrame_yes T _ hxs.1 hxs.2).mono ?_
        rintro e8 w8 ⟨rfl,b8⟩
        have B8:=hide (B7.out.trans (b8.mono B7.out.size))
        have BU8:=hide (buildB_below BU7.out b8)
        have HO8:=hide (ownsRow_below HO7.out b8)
        clear b8 hcell7 BU7 B7 HO7
        obtain ⟨F1,HF1⟩:∃ F1,Hid (frameB T=F1):=⟨_,rfl⟩
        have hF9:F1.size≤9009:=by rw [← HF1.out];exact frameB_le T hxs.2
        rw [HF1.out] at hfs ⊢
        go_wp2_with fail
        go_roundw
        case rel =>
         refine ⟨i+1,e+F1.size,acc ++ [⟨q,fs⟩],F1,rfl,by go_num,by go_num,by omega,by omega,by have:=HAI.out;show _=_;rw [List.length_append,List.length_singleton];omega,by omega,?_,?_,BU8,HO8,B8⟩
         ·
          show chained _ _ _
          rw [hfs.out]
          exact HC.out.2
         ·
          show _=_
          rw [HR.out,HRyes.out (by simp) hmore,lastOf_snoc,hfs.out]
          simp
        case measure =>
          have hlc:(x0 :: r).length=r.length+1:=rfl
          simp [intOf]
          omega
       ·
        have hl0:decide ((0:Int) < (acc.length:Int))=true:=by rw [decide_eq_true_iff];omega
        have hl1:decide (0 < acc.length)=true:=by rw [decide_eq_true_iff];omega
        obtain ⟨bb,off,rfl,hbb,hc0,-⟩:=hat (acc.length - 1) (by omega)
        have hlast:Hid (lastOf acc=acc[acc.length - 1].seq):=by
         show _=_
         unfold lastOf
         rw [List.getLast?_eq_getElem?,List.getElem?_eq_getElem (by omega)]
        obtain ⟨lq,HLQ⟩:∃ lq,Hid (acc[acc.length - 1].seq=lq):=⟨_,hide rfl⟩
        rw [HLQ.out] at hc0 hlast
        have hw:IntKind.i64.wrap ((acc.length:Int) - 1)=((acc.length - 1:Nat):Int):=by rw [IntKind.wrap_i64];omega
        have hj0:(0:Int)≤((acc.length - 1:Nat):Int):=by omega
        have hj1:((acc.length - 1:Nat):Int) < (acc.length:Int):=by omega
        have hbbH:=hide hbb
        clear hbb hat
        by_cases hle:q≤lq
        ·
         have hle':decide (q≤lq)=true:=by simp;omega
         have hr:=ris_no (s:=s) (x:=x) (r:=(x0 :: r).drop (i+1)) (last:=lastOf acc) (e:=e) (by rw [HT.out,HQ.out,hlast.out];omega)
         have HE2:Hid (segRead (n:Int) s=some (f,acc,e)):=by show _=_;rw [HE.out,HR.out,hr,List.append_nil]
         have HRow:=hide (buildB_row BuA.out)
         clear hr HR HRyes
         go_quiet (fail)
         go_wp2_with fail
         refine bodyPost_ret (v:=.tuple #[.int .i64 (f:Int),.slice (some ⟨bb,off,none⟩) acc.length cb,.int .i64 (e:Int),.bool true]) ?_ rfl ?_
         · simp [results,Tryz.results39,go_sem]
         · exact (segLeft_some HE2.out (below_drewN HBA.out _) (rowBatch_below HRow.out (drewN_below _ _)))
        ·
         have hle':decide (q≤lq)=false:=by simp;omega
         have hmore:lastOf acc < q:=by rw [hlast.out];omega
         go_quiet (fail)
         go_wp2_with (at_builtin;refine app_batch wr _ w.heap.size (by rfl) _ _ (by rfl) (.slice (some ⟨bb,off,none⟩) acc.length cb) (.slice a5 fs.length c5) acc ⟨q,fs⟩ (by rfl) HBu.out HB.out.size (HWD.out _ _) (HXD.out _ _) wA.heap.size (by rfl) (heap_alloc_new (wA.drewN nq) _) (by omega) ?_;intro g7 cap7 w7 hbu7 hb7 hg7;have BU7:=hide hbu7;have B7:=hide (HB.out.trans (((HWD.out _ _).mono HB.out.size).trans hb7));have HO7:=hide (after_app HO.out HBu.out (HWD.out _ _) hg7);clear hbu7 hb7 hg7;have hcell7:=str_cell HO7.out i (by omega) _ HGI.out;rw [data_back] at hcell7)
         refine (specFrame_yes T _ hxs.1 hxs.2).mono ?_
         rintro e8 w8 ⟨rfl,b8⟩
         have B8:=hide (B7.out.trans (b8.mono B7.out.size))
         have BU8:=hide (buildB_below BU7.out b8)
         have HO8:=hide (ownsRow_below HO7.out b8)
         clear b8 hcell7 BU7 B7 HO7
         obtain ⟨F1,HF1⟩:∃ F1,Hid (frameB T=F1):=⟨_,rfl⟩
         have hF9:F1.size≤9009:=by rw [← HF1.out];exact frameB_le T hxs.2
         rw [HF1.out] at hfs ⊢
         go_wp2_with fail
         go_roundw
         case rel =>
          refine ⟨i+1,e+F1.size,acc ++ [⟨q,fs⟩],F1,rfl,by go_num,by go_num,by omega,by omega,by have:=HAI.out;show _=_;rw [List.length_append,List.length_singleton];omega,by omega,?_,?_,BU8,HO8,B8⟩
          ·
           show chained _ _ _
           rw [hfs.out]
           exact HC.out.2
          ·
           show _=_
           rw [HR.out,HRyes.out (by simp) hmore,lastOf_snoc,hfs.out]
           simp
         case measure =>
          have hlc:(x0 :: r).length=r.length+1:=rfl
          simp [intOf]
          omega
     ·
      have hlt':decide ((i:Int) < (L.length:Int))=false:=by simp;omega
      have hltn:decide (i < L.length)=false:=by simp;omega
      have hie:i=(x0 :: r).length:=by omega
      have HE2:Hid (segRead (n:Int) s=some (f,acc,e)):=by
       show _=_
       rw [HE.out,HR.out,hie,List.drop_length,ris_nil,List.append_nil]
      have HRow:=hide (buildB_row HBu.out)
      obtain ⟨ab,cb,hu8,hat⟩:=rowBatch_at HRow.out
      subst hu8
      clear hat HR hie HLs
      go_wp2
      refine bodyPost_ret (v:=.tuple #[.int .i64 (f:Int),.slice ab acc.length cb,.int .i64 (e:Int),.bool true]) ?_ rfl ?_
      · simp [results,Tryz.results39,go_sem]
      · exact segLeft_some HE2.out HB.out HRow.out
 ·
  have HE:=hide (segRead_out (s:=s) hn)
  go_enter Tryz.func39,Tryz.ntmps39
  go_wp2_with fail
  refine (HUN.out _).mono ?_
  rintro e w1 ⟨lv,rfl,hown,b1⟩
  go_wp2_with fail
  refine (l01In_no _ _ _ _ (by omega)).mono ?_
  rintro e w2 ⟨rfl,rfl⟩
  have B1:=hide (hB0.out.trans (b1.mono hB0.out.size))
  have R1:=hide (buildB_row (buildB_below hR0.out b1))
  go_wp2_with fail
  refine bodyPost_ret (v:=.tuple #[.int .i64 0,.slice (some ⟨w.heap.size,0,none⟩) 0 0,.int .i64 0,.bool false]) ?_ rfl ?_
  · simp [results,Tryz.results39,go_sem]
  · exact segLeft_none HE.out B1.out R1.out
end Go.Proofs.YtepdckehokdjlaaGreatDoor
