import Derived.Deep.RegionLaw
import Derived.BigQuiet
import Derived.Test.YtbenmgokhklnjaaGreatDoorTb36
import Derived.Test.YtbenmgokhklnjaaGreatDoorTb40
import Derived.Test.YtbenmgokhklnjaaGreatDoorTb35
import Derived.Test.YtbenmgokhklnjaaGreatDoorTb37
import Derived.Test.YtbenmgokhklnjaaGreatDoorTb0
set_option maxRecDepth 100000
set_option maxHeartbeats 3200000
namespace Go.Proofs.YtbenmgokhklnjaaGreatDoor
open Go.RowKit
def StV (w wr:World) (t:ByteArray) (i:Nat) (bad:Bool) (k u:Int) (s:ByteArray) (v:Value) (acc:List ByteArray):Prop :=
 wr.heap[w.heap.size]? = some (.cells #[.int .i64 0,.int .i64 0,.string ⟨#[]⟩,.slice none 0 0] 51 (0,0))∧CurB wr (w.heap.size+1) t i bad∧wr.heap[w.heap.size+2]? = some (.cells #[.int .i64 k,.int .i64 u,.string s,v] 51 (0,0)) ∧
 wr.ownsRow (w.heap.size+3) 9 1 v acc.length (acc.map Value.string)∧Below w.heap.size w wr
theorem stV_cur {w wr w':World} {t:ByteArray} {i i':Nat} {bad bad':Bool} {k u:Int} {s:ByteArray} {v:Value} {acc:List ByteArray} (h:StV w wr t i bad k u s v acc) (hg:wr.grownBy w' (some (w.heap.size+1))) (hc:CurB w' (w.heap.size+1) t i' bad'):StV w w' t i' bad' k u s v acc:=by
 obtain ⟨h1,h2,h3,h4,h5⟩:=h
 refine ⟨(hg.block _ (heap_lt h1) (by simp)).trans h1,hc,(hg.block _ (heap_lt h3) (by simp)).trans h3,h4.kept hg (own_ne h4 (by omega)),h5.grown hg h5.size (fun k hk => by simp at hk;omega)⟩
theorem stV_below {w wr w':World} {t:ByteArray} {i:Nat} {bad:Bool} {k u:Int} {s:ByteArray} {v:Value} {acc:List ByteArray} (h:StV w wr t i bad k u s v acc) (hb:Below wr.heap.size wr w'):StV w w' t i bad k u s v acc:=by
 obtain ⟨h1,h2,h3,h4,h5⟩:=h
 have hg:=grownBy_below none hb
 exact ⟨(hg.block _ (heap_lt h1) (by simp)).trans h1,curB_below h2 hb,(hg.block _ (heap_lt h3) (by simp)).trans h3,h4.kept hg (by cases v.ownBlock <;> simp),h5.trans (hb.mono h5.size)⟩
theorem stV_kind {w wr:World} {t:ByteArray} {i:Nat} {bad:Bool} {k u:Int} {s:ByteArray} {v:Value} {acc:List ByteArray} (h:StV w wr t i bad k u s v acc) (k':Int):StV w (wr.setCell ⟨w.heap.size+2,0,none⟩ (.int .i64 k')) t i bad k' u s v acc:=by
 obtain ⟨h1,h2,h3,h4,h5⟩:=h
 have hg:wr.grownBy (wr.setCell ⟨w.heap.size+2,0,none⟩ (.int .i64 k')) (some (w.heap.size+2)):=grownBy_store (World.grownBy.refl _ _) 0 _
 exact ⟨(hg.block _ (heap_lt h1) (by simp)).trans h1,(hg.block _ (heap_lt h2) (by simp)).trans h2,(heap_setCell_same _ _ _ _ _ _ h3).trans rfl,h4.kept hg (own_ne h4 (by omega)),h5.grown hg h5.size (fun k hk => by simp at hk;omega)⟩
theorem stV_til {w wr:World} {t:ByteArray} {i:Nat} {bad:Bool} {k u:Int} {s:ByteArray} {v:Value} {acc:List ByteArray} (h:StV w wr t i bad k u s v acc) (u':Int):StV w (wr.setCell ⟨w.heap.size+2,1,none⟩ (.int .i64 u')) t i bad k u' s v acc:=by
 obtain ⟨h1,h2,h3,h4,h5⟩:=h
 have hg:wr.grownBy (wr.setCell ⟨w.heap.size+2,1,none⟩ (.int .i64 u')) (some (w.heap.size+2)):=grownBy_store (World.grownBy.refl _ _) 1 _
 exact ⟨(hg.block _ (heap_lt h1) (by simp)).trans h1,(hg.block _ (heap_lt h2) (by simp)).trans h2,(heap_setCell_same _ _ _ _ _ _ h3).trans rfl,h4.kept hg (own_ne h4 (by omega)),h5.grown hg h5.size (fun k hk => by simp at hk;omega)⟩
theorem stV_text {w wr:World} {t:ByteArray} {i:Nat} {bad:Bool} {k u:Int} {s:ByteArray} {v:Value} {acc:List ByteArray} (h:StV w wr t i bad k u s v acc) (s':ByteArray):StV w (wr.setCell ⟨w.heap.size+2,2,none⟩ (.string s')) t i bad k u s' v acc:=by
 obtain ⟨h1,h2,h3,h4,h5⟩:=h
 have hg:wr.grownBy (wr.setCell ⟨w.heap.size+2,2,none⟩ (.string s')) (some (w.heap.size+2)):=grownBy_store (World.grownBy.refl _ _) 2 _
 exact ⟨(hg.block _ (heap_lt h1) (by simp)).trans h1,(hg.block _ (heap_lt h2) (by simp)).trans h2,(heap_setCell_same _ _ _ _ _ _ h3).trans rfl,h4.kept hg (own_ne h4 (by omega)),h5.grown hg h5.size (fun k hk => by simp at hk;omega)⟩
theorem stV_row {w wr w5:World} {t:ByteArray} {i:Nat} {bad:Bool} {k u:Int} {s:ByteArray} {v v':Value} {acc acc':List ByteArray} (h:StV w wr t i bad k u s v acc) (hb:Below (w.heap.size+3) wr w5) (ho:w5.ownsRow (w.heap.size+3) 9 1 v' acc'.length (acc'.map Value.string)):StV w (w5.setCell ⟨w.heap.size+2,3,none⟩ v') t i bad k u s v' acc':=by
 obtain ⟨h1,h2,h3,h4,h5⟩:=h
 have hg:w5.grownBy (w5.setCell ⟨w.heap.size+2,3,none⟩ v') (some (w.heap.size+2)):=grownBy_store (World.grownBy.refl _ _) 3 _
 have k1:=(hb.block (w.heap.size) (by omega)).trans h1
 have k2:=(hb.block (w.heap.size+1) (by omega)).trans h2
 have k3:=(hb.block (w.heap.size+2) (by omega)).trans h3
 have k5:Below w.heap.size w w5:=h5.trans (hb.mono (by omega))
 exact ⟨(hg.block _ (heap_lt k1) (by simp)).trans k1,(hg.block _ (heap_lt k2) (by simp)).trans k2,(heap_setCell_same _ _ _ _ _ _ k3).trans rfl,ho.kept hg (own_ne ho (by omega)),k5.grown hg k5.size (fun k hk => by simp at hk;omega)⟩
theorem take1 {t:ByteArray} (h:0 < t.size):takeC t 1 0 false=(t.extract 0 1,1,false):=by
 unfold takeC
 rw [if_neg (by intro h2;rcases h2 with h2 | h2 <;> first | omega | cases h2)]
theorem take1_no {t:ByteArray} (h:¬ 0 < t.size):takeC t 1 0 false=(⟨#[]⟩,0,true):=by
 unfold takeC
 rw [if_pos (by right;omega)]
theorem take1_byte {t:ByteArray} (h:0 < t.size):∃ s0:ByteArray,t.extract 0 1=s0∧∃ (b:Nat) (hs:0 < s0.size),s0.size=1∧(s0[0]'hs).toNat=b∧Wd.bt t 0=b∧b < 256:=by
 have hs:(t.extract 0 1).size=1:=by rw [ByteArray.size_extract];omega
 have hz:0 < (t.extract 0 1).size:=by omega
 refine ⟨_,rfl,_,hz,hs,rfl,?_,UInt8.toNat_lt _⟩
 rw [← Wd.bt_eq t 0 h]
 congr 1
 rw [ByteArray.getElem_extract]
theorem specReadVal_any (t:ByteArray) (w:World) (R:Bool) (hR:R=true ↔ RvOk t) (ht:t.size≤1048576) :
  Calls Tryz.prog 16 #[.string t] w fun e w' => (∃ a c,e=.returned (.tuple #[.agg #[.int .i64 (cond R (rvRaw t).1 noVal).kind,.int .i64 (cond R (rvRaw t).1 noVal).til,.string (cond R (rvRaw t).1 noVal).text,.slice a (cond R (rvRaw t).1 noVal).items.length c],.bool R])∧RowText w' w.heap.size (.slice a (cond R (rvRaw t).1 noVal).items.length c) (cond R (rvRaw t).1 noVal).items)∧Below w.heap.size w w':=by
 have HRI:=hide hR
 clear hR
 have ST:Hid (StV w (((w.alloc (.cells #[.int .i64 0,.int .i64 0,.string ⟨#[]⟩,.slice none 0 0] 51)).alloc (.cells #[.string t,.int .i64 0,.bool false] 78)).alloc (.cells #[.int .i64 0,.int .i64 0,.string ⟨#[]⟩,.slice none 0 0] 51)) t 0 false 0 0 ⟨#[]⟩ (.slice none 0 0) []):=by
  refine ⟨?_,?_,?_,World.ownsRow_nil _ _ _ _,(((Below.refl _ w).alloc (Nat.le_refl _) _).alloc (by simp) _).alloc (by simp;omega) _⟩
  ·
   rw [Go.heap_alloc_old _ _ (by simp;omega),Go.heap_alloc_old _ _ (by simp)]
   exact heap_alloc_new _ _
  ·
   show _=_
   rw [Go.heap_alloc_old _ _ (by simp)]
   rw [show w.heap.size+1=(w.alloc (.cells #[.int .i64 0,.int .i64 0,.string ⟨#[]⟩,.slice none 0 0] 51)).heap.size from by simp]
   exact heap_alloc_new _ _
  ·
   rw [show w.heap.size+2=((w.alloc (.cells #[.int .i64 0,.int .i64 0,.string ⟨#[]⟩,.slice none 0 0] 51)).alloc (.cells #[.string t,.int .i64 0,.bool false] 78)).heap.size from by simp]
   exact heap_alloc_new _ _
 have C0:=hide (fun W (hW:CurB W (w.heap.size+1) t 0 false) => l05Take_any t (w.heap.size+1) 1 0 false W ht (Nat.zero_le _) (by omega) hW)
 obtain ⟨V,HV⟩:∃ V,Hid (cond R (rvRaw t).1 noVal=V):=⟨_,hide rfl⟩
 rw [HV.out]
 by_cases hz:0 < t.size
 rotate_left
 ·
  rw [take1_no hz] at C0
  have hRf:Hid (R=false):=by
   show _=_
   cases R
   · rfl
   · exact absurd (HRI.out.1 rfl).1 hz
  have hV:Hid (noVal=V):=by show _=_;rw [← HV.out,hRf.out];rfl
  go_enter Tryz.func16,Tryz.ntmps16
  go_wp2_with fail
  generalize (((w.alloc (.cells #[.int .i64 0,.int .i64 0,.string ⟨#[]⟩,.slice none 0 0] 51)).alloc (.cells #[.string t,.int .i64 0,.bool false] 78)).alloc (.cells #[.int .i64 0,.int .i64 0,.string ⟨#[]⟩,.slice none 0 0] 51))=w0 at ST
  refine (C0.out _ ST.out.2.1).mono ?_
  rintro e w1 ⟨rfl,c1,g1⟩
  have S1:=hide (stV_cur ST.out g1 c1)
  clear ST c1 g1
  obtain ⟨r0,r1,r2,r3⟩:=val_cells S1.out.1
  obtain ⟨f0,f1,f2,f3⟩:=val_frozen S1.out.1
  obtain ⟨q0,q1,q2,q3⟩:=val_cells S1.out.2.2.1
  obtain ⟨k0,k1,k2⟩:=curB_cells S1.out.2.1
  go_wp2_with fail
  refine bodyPost_ret (v:=.tuple #[.agg #[.int .i64 0,.int .i64 0,.string ⟨#[]⟩,.slice none 0 0],.bool false]) (by simp [results,Tryz.results16,go_sem,r0,r1,r2,r3]) rfl ⟨⟨none,0,by rw [← hV.out,hRf.out];rfl,by rw [← hV.out];exact .inl ⟨rfl,rfl⟩⟩,?_⟩
  exact (((S1.out.2.2.2.2.setCell (p:=⟨w.heap.size,0,none⟩) (Nat.le_refl _) _).setCell (p:=⟨w.heap.size,1,none⟩) (Nat.le_refl _) _).setCell (p:=⟨w.heap.size,2,none⟩) (Nat.le_refl _) _).setCell (p:=⟨w.heap.size,3,none⟩) (Nat.le_refl _) _
 rw [take1 hz] at C0
 obtain ⟨s0,hs0,b0,hs0z,hs01,hbt,HB0,hb256⟩:=take1_byte hz
 rw [hs0] at C0
 have hs0i:(0:Int) < (s0.size:Int):=by omega
 have hl1:=varC_le (t:=t) (i:=1) false hz
 obtain ⟨x1,X1⟩:∃ x,Hid (varC t 1 false=x):=⟨_,rfl⟩
 have C1:=hide (fun W (hW:CurB W (w.heap.size+1) t 1 false) => l05Var_any t (w.heap.size+1) 1 false W ht hz hW)
 rw [X1.out] at C1 hl1
 obtain ⟨u,i1,b1⟩:=x1
 have hl2:=shortC_le b1 hl1.1
 obtain ⟨x2,X2⟩:∃ x,Hid (shortC t i1 b1=x):=⟨_,rfl⟩
 have C2:=hide (fun W (hW:CurB W (w.heap.size+1) t i1 b1) => l05ReadShort_any t (w.heap.size+1) i1 b1 W ht hl1.1 hW)
 rw [X2.out] at C2 hl2
 obtain ⟨s,i2,b2⟩:=x2
 have hl3:=varC_le b2 hl2.1
 obtain ⟨x3,X3⟩:∃ x,Hid (varC t i2 b2=x):=⟨_,rfl⟩
 have C3:=hide (fun W (hW:CurB W (w.heap.size+1) t i2 b2) => l05Var_any t (w.heap.size+1) i2 b2 W ht hl2.1 hW)
 rw [X3.out] at C3 hl3
 obtain ⟨n,i3,b3⟩:=x3
 simp only at hl1 hl2 hl3
 obtain ⟨RL,HRL⟩:∃ R,Hid (itsC t (min n 100) i3 b3 []=R):=⟨_,rfl⟩
 have HRW:Hid (rvRaw t=(⟨(b0:Nat),(u:Nat),s,RL.1⟩,RL.2)):=by show _=_;simp only [rvRaw,X1.out,X2.out,X3.out,HB0];rw [HRL.out]
 go_enter Tryz.func16,Tryz.ntmps16
 go_wp2_with fail
 generalize (((w.alloc (.cells #[.int .i64 0,.int .i64 0,.string ⟨#[]⟩,.slice none 0 0] 51)).alloc (.cells #[.string t,.int .i64 0,.bool false] 78)).alloc (.cells #[.int .i64 0,.int .i64 0,.string ⟨#[]⟩,.slice none 0 0] 51))=w0 at ST
 refine (C0.out _ ST.out.2.1).mono ?_
 rintro e w1 ⟨rfl,c1,g1⟩
 have S1:=hide (stV_cur ST.out g1 c1)
 clear ST c1 g1
 obtain ⟨k0,k1,k2⟩:=curB_cells S1.out.2.1
 obtain ⟨q0,q1,q2,q3⟩:=val_cells S1.out.2.2.1
 obtain ⟨f0,f1,f2,f3⟩:=val_frozen S1.out.2.2.1
 go_wp2_with fail
 have S2:=hide (stV_kind S1.out (b0:Int))
 clear S1 k0 k1 k2 q0 q1 q2 q3 f0 f1 f2 f3
 refine (C1.out _ S2.out.2.1).mono ?_
 rintro e w2 ⟨rfl,c2,g2⟩
 have S3:=hide (stV_cur S2.out g2 c2)
 clear S2 c2 g2
 obtain ⟨q0,q1,q2,q3⟩:=val_cells S3.out.2.2.1
 obtain ⟨f0,f1,f2,f3⟩:=val_frozen S3.out.2.2.1
 go_wp2_with fail
 have S4:=hide (stV_til S3.out (u:Int))
 clear S3 q0 q1 q2 q3 f0 f1 f2 f3
 refine (C2.out _ S4.out.2.1).mono ?_
 rintro e w3 ⟨rfl,c3,g3⟩
 have S5:=hide (stV_cur S4.out g3 c3)
 clear S4 c3 g3
 obtain ⟨q0,q1,q2,q3⟩:=val_cells S5.out.2.2.1
 obtain ⟨f0,f1,f2,f3⟩:=val_frozen S5.out.2.2.1
 go_wp2_with fail
 have S6:=hide (stV_text S5.out s)
 clear S5 q0 q1 q2 q3 f0 f1 f2 f3
 refine (C3.out _ S6.out.2.1).mono ?_
 rintro e w4 ⟨rfl,c4,g4⟩
 have S7:=hide (stV_cur S6.out g4 c4)
 clear S6 c4 g4
 go_wp2_with fail
 obtain ⟨M,HM⟩:∃ M,Hid (min n 100=M):=⟨_,rfl⟩
 have hM:M≤n∧M≤100∧(M=n ∨ M=100):=by have:=HM.out;omega
 rw [HM.out] at HRL
 clear C0 C1 C2 C3 X1 X2 X3 HM
 go_loopw [8] (fun ii wr => ∃ (k i:Nat) (bad:Bool) (v:Value) (acc:List ByteArray),ii=.int .i64 k∧Hid (acc.length=k)∧k≤M∧i≤t.size∧Hid (itsC t (M - k) i bad acc=RL)∧Hid (StV w wr t i bad (b0:Int) (u:Int) s v acc)∧Hid (∀ A ∈ acc,A.size≤t.size)) (fun ii _ => 100 - (intOf ii).toNat)
 case atStart => exact ⟨0,i3,b3,.slice none 0 0,[],rfl,hide rfl,Nat.zero_le _,hl3.1,HRL,S7,fun A hA => absurd hA List.not_mem_nil⟩
 case round =>
  clear S7
  obtain ⟨k,i,bad,v,acc,rfl,hal,hk,hi,HR,SW,HA⟩:=hrel
  obtain ⟨-,-,hcb⟩:=curB_cells SW.out.2.1
  have hws:w.heap.size+3≤wr.heap.size:=by have:=heap_lt SW.out.2.2.1;omega
  by_cases hrun:k < M∧bad=false
  ·
   obtain ⟨hkM,rfl⟩:=hrun
   have hd1:decide ((k:Int) < (n:Int))=true:=by simp;omega
   have hd2:decide ((k:Int) < 100)=true:=by simp;omega
   have hsA:=shortC_le false hi
   have CA:=hide (fun W (hW:CurB W (w.heap.size+1) t i false) => l05ReadShort_any t (w.heap.size+1) i false W ht hi hW)
   obtain ⟨xa,XA⟩:∃ x,Hid (shortC t i false=x):=⟨_,rfl⟩
   rw [XA.out] at hsA CA
   obtain ⟨ka,j1,d1⟩:=xa
   simp only at hsA
   have HRn:Hid (itsC t (M - (k+1)) j1 d1 (acc ++ [ka])=RL):=by
    show _=_
    rw [← HR.out,show M - k=M - (k+1)+1 from by omega]
    simp only [itsC,XA.out]
   have HAn:Hid (∀ A ∈ acc ++ [ka],A.size≤t.size):=by
    intro A hA
    rcases List.mem_append.1 hA with h | h
    · exact HA.out A h
    ·
     obtain rfl:A=ka:=by simpa using h
     exact hsA.2
   obtain ⟨aa,ca,rfl⟩:=slice_form SW.out.2.2.2.1
   have hLl:acc.length≤1048576:=by have:=hal.out;omega
   obtain ⟨-,-,-,hv3⟩:=val_cells SW.out.2.2.1
   have SD:=hide (stV_below SW.out (Below.refl _ wr).drew)
   go_upto_region 13 with fail
   go_region_law ((first | (refine step_app_txt _ (w.heap.size+3) (by rfl) _ _ (by rfl) _ acc ka (by rfl) (S8.out.2.2.2.1.alloc _) w8.heap.size (by simp [Act.eval]) (heap_alloc_new w8 _) hLl (by simp;omega) ?_;intro g9 cap9 w9 ho9 hb9 hgr9 hg9 hgl9;have B9:Hid (Below (w.heap.size+3) w8 w9):=((Below.refl _ w8).alloc hs8 _).trans hb9;have HO9:=hide ho9;have hn0:=(B9.out.block (w.heap.size+2) (by omega)).trans S8.out.2.2.1;obtain ⟨m0,m1,m2,m3⟩:=val_cells hn0;obtain ⟨l0,l1,l2,l3⟩:=val_frozen hn0;clear hn0 ho9 hb9 hgr9 hg9 hgl9) | (go_simp;go_at_call 37;refine (CA.out _ SD.out.2.1).mono ?_;rintro e w8 ⟨rfl,c8,g8⟩;have S8:=hide (stV_cur SD.out g8 c8);have hs8:w.heap.size+3≤w8.heap.size:=Nat.le_trans hws (g8.size);obtain ⟨-,-,-,hall0⟩:=val_cells S8.out.2.2.1;have hall:(w8.alloc (.cells #[.string ka] 9)).cell? ⟨w.heap.size+2,3,none⟩=_:=(((Below.refl _ w8).alloc (Nat.le_refl _) _).cell (p:=⟨w.heap.size+2,3,none⟩) (by show w.heap.size+2 < _;omega)).trans hall0;clear c8 g8)))
   all_goals
    go_wp2
    go_roundw
    case rel => exact ⟨k+1,j1,d1,.slice (some ⟨g9,0,none⟩) (acc.length+1) cap9,acc ++ [ka],by go_num,by show _=_;rw [List.length_append,hal.out];rfl,by omega,hsA.1,HRn,stV_row S8.out B9.out HO9.out,HAn⟩
    case measure => simp [intOf];omega
  ·
   have HRL2:Hid (RL=(acc,bad)):=by
    show _=_
    rw [← HR.out]
    cases bad
    · rw [show M - k=0 from by simp at hrun;omega];rfl
    · exact itsC_bad _ _ _ _
   have hcase:((decide ((k:Int) < (n:Int))=false∧decide (k < n)=false)∧¬ k < n) ∨ ((decide ((k:Int) < (n:Int))=true∧decide (k < n)=true)∧decide ((k:Int) < 100)=false∧decide (k < 100)=false) ∨ ((decide ((k:Int) < (n:Int))=true∧decide (k < n)=true)∧(decide ((k:Int) < 100)=true∧decide (k < 100)=true)∧bad=true):=by
    by_cases h1:k < n
    ·
     by_cases h2:k < 100
     ·
      refine .inr (.inr ⟨⟨by simp;omega,by simp;omega⟩,⟨by simp;omega,by simp;omega⟩,?_⟩)
      cases bad
      · exact absurd ⟨by omega,rfl⟩ hrun
      · rfl
     · exact .inr (.inl ⟨⟨by simp;omega,by simp;omega⟩,by simp;omega,by simp;omega⟩)
    · exact .inl ⟨⟨by simp;omega,by simp;omega⟩,h1⟩
   have hrow:=rowText_own SW.out.2.2.2.1
   obtain ⟨ao,cap,hv,hat⟩:=rowText_at hrow
   subst hv
   have HAT:=hide hat
   have HROW:=hide hrow
   have HSZ:Hid (∀ A ∈ acc,A.size≤maxLen):=fun A hA => by have:=HA.out A hA;unfold maxLen;omega
   have hal2:acc.length≤100:=by have:=hal.out;omega
   clear hat hrow hrun HR HRL
   obtain ⟨ok,Hok⟩:∃ ok:Bool,Hid (ok=true ↔ ValR ⟨(b0:Nat),(u:Nat),s,acc⟩):=by classical exact ⟨decide (ValR ⟨(b0:Nat),(u:Nat),s,acc⟩),by show _ ↔ _;simp⟩
   have CT:=hide (fun W (hW:TextsAt W ao acc) => specValText_any ⟨(b0:Nat),(u:Nat),s,acc⟩ ao cap W ok Hok.out (by show acc.length≤_;omega) (by show s.size≤_;unfold maxLen;omega) hW HSZ.out)
   simp only at CT
   obtain ⟨tx,HTX⟩:∃ tx,Hid (cond ok (valT ⟨(b0:Nat),(u:Nat),s,acc⟩) ⟨#[]⟩=tx):=⟨_,rfl⟩
   have HRO:Hid (R=true ↔ (bad=false∧ok=true∧tx=t)):=by
    show _ ↔ _
    rw [HRI.out]
    unfold RvOk
    rw [HRW.out,HRL2.out]
    constructor
    ·
     rintro ⟨-,h2,h3,h4⟩
     have ho:=Hok.out.2 h3
     refine ⟨h2,ho,?_⟩
     rw [← HTX.out,ho]
     exact h4
    ·
     rintro ⟨h2,ho,h4⟩
     rw [← HTX.out,ho] at h4
     exact ⟨hz,h2,Hok.out.1 ho,h4⟩
   have HRQ:Hid (R=true→V=⟨(b0:Nat),(u:Nat),s,acc⟩):=fun h => by rw [← HV.out,h,HRW.out,HRL2.out];rfl
   have HRN:Hid (R=false→V=noVal):=fun h => by rw [← HV.out,h];rfl
   rw [HTX.out] at CT
   obtain ⟨q0,q1,q2,q3⟩:=val_cells SW.out.2.2.1
   clear HRW HRL2 HV HRI
   cases bad <;> rcases hcase with ⟨⟨hd1,hd1n⟩,hd1p⟩ | ⟨⟨hd1,hd1n⟩,hd2,hd2n⟩ | ⟨⟨hd1,hd1n⟩,⟨hd2,hd2n⟩,⟨⟩⟩
   all_goals
    go_wp2_with fail
    refine (CT.out _ HAT.out).mono ?_
    rintro e w5 ⟨rfl,b5⟩
    have S5:=hide (stV_below SW.out b5)
    have HROW5:=hide (rowText_below HROW.out b5)
    clear b5
    obtain ⟨r0,r1,r2,r3⟩:=val_cells S5.out.1
    obtain ⟨f0,f1,f2,f3⟩:=val_frozen S5.out.1
    obtain ⟨p0,p1,p2,p3⟩:=val_cells S5.out.2.2.1
    obtain ⟨-,-,hcb5⟩:=curB_cells S5.out.2.1
    cases ok <;> by_cases htx:tx=t
   all_goals
    first
    | (have hcmp:=txt_eq htx)
    | (have hcmp:=txt_ne htx)
   all_goals
    first
    | (
      have hno:R=false:=by
       cases hRR:R
       · rfl
       ·
        have:=HRO.out.1 hRR
        simp [htx] at this
      have HE:=hide (HRN.out hno)
      have HNO:=hide hno
      clear hno htx HRO HRQ HRN
      go_wp2_with fail
      refine bodyPost_ret (v:=.tuple #[.agg #[.int .i64 0,.int .i64 0,.string ⟨#[]⟩,.slice none 0 0],.bool false]) (by simp [results,Tryz.results16,go_sem,r0,r1,r2,r3]) rfl ⟨⟨none,0,by rw [HE.out,HNO.out];rfl,by rw [HE.out];exact .inl ⟨rfl,rfl⟩⟩,?_⟩
      exact (((S5.out.2.2.2.2.setCell (p:=⟨w.heap.size,0,none⟩) (Nat.le_refl _) _).setCell (p:=⟨w.heap.size,1,none⟩) (Nat.le_refl _) _).setCell (p:=⟨w.heap.size,2,none⟩) (Nat.le_refl _) _).setCell (p:=⟨w.heap.size,3,none⟩) (Nat.le_refl _) _)
    | (
      have hyes:R=true:=HRO.out.2 (by simp [htx])
      have HE:=hide (HRQ.out hyes)
      have HYES:=hide hyes
      clear hyes htx HRO HRQ HRN
      go_wp2_with fail
      refine bodyPost_ret (v:=.tuple #[.agg #[.int .i64 (b0:Int),.int .i64 (u:Int),.string s,.slice ao acc.length cap],.bool true]) (by simp [results,Tryz.results16,go_sem,r0,r1,r2,r3]) rfl ⟨⟨ao,cap,by rw [HE.out,HYES.out],?_⟩,?_⟩
      ·
       rw [HE.out]
       refine rowText_le (rowText_keep HROW5.out (fun g hg => ?_)) (by omega:w.heap.size≤w.heap.size+3)
       have h1:=(rowText_lt HROW5.out g hg).1
       rw [Below.heap_setCell _ _ _ _ (by simp;omega),Below.heap_setCell _ _ _ _ (by simp;omega),Below.heap_setCell _ _ _ _ (by simp;omega),Below.heap_setCell _ _ _ _ (by simp;omega)]
      · exact (((S5.out.2.2.2.2.setCell (p:=⟨w.heap.size,0,none⟩) (Nat.le_refl _) _).setCell (p:=⟨w.heap.size,1,none⟩) (Nat.le_refl _) _).setCell (p:=⟨w.heap.size,2,none⟩) (Nat.le_refl _) _).setCell (p:=⟨w.heap.size,3,none⟩) (Nat.le_refl _) _)
def EntsR (es:List EntD) (k:Nat):Prop:=∀ j (h:j < es.length),j < k→(1≤es[j].key.size∧es[j].key.size≤20)∧ValR es[j].val∧(0 < j→Op.bytesLess (es[j - 1]'(by omega)).key.toList es[j].key.toList=true)
def TabR (es:List EntD):Prop:=es.length≤20∧EntsR es es.length
theorem entsR_zero (es:List EntD):EntsR es 0:=fun j _ hj => absurd hj (by omega)
theorem entsR_next {es:List EntD} {k:Nat} (h:EntsR es k) (hk:k < es.length) (h1:1≤es[k].key.size∧es[k].key.size≤20) (h2:ValR es[k].val) (h3:0 < k→Op.bytesLess (es[k - 1]'(by omega)).key.toList es[k].key.toList=true):EntsR es (k+1):=by
 intro j hj hjk
 by_cases e:j=k
 · subst e;exact ⟨h1,h2,h3⟩
 · exact h j hj (by omega)
theorem entsR_of {es:List EntD} (h:TabR es) (k:Nat) (hk:k < es.length):(1≤es[k].key.size∧es[k].key.size≤20)∧ValR es[k].val∧(0 < k→Op.bytesLess (es[k - 1]'(by omega)).key.toList es[k].key.toList=true):=h.2 k hk hk
theorem tabR_of {es:List EntD} (h:es.length≤20) (h2:EntsR es es.length):TabR es:=⟨h,h2⟩
theorem tabR_iff (es:List EntD):TabR es ↔ es.length≤20∧(∀ e ∈ es,(1≤e.key.size∧e.key.size≤20)∧ValR e.val)∧Asc (es.map EntD.key):=by
 constructor
 ·
  intro h
  refine ⟨h.1,fun e he => ?_,fun j hj => ?_⟩
  ·
   obtain ⟨j,hj,rfl⟩:=List.getElem_of_mem he
   exact ⟨(h.2 j hj hj).1,(h.2 j hj hj).2.1⟩
  ·
   have hj':j+1 < es.length:=by simpa using hj
   have:=(h.2 (j+1) hj' hj').2.2 (by omega)
   simpa using this
 ·
  rintro ⟨h1,h2,h3⟩
  refine ⟨h1,fun j hj _ => ⟨(h2 _ (List.getElem_mem hj)).1,(h2 _ (List.getElem_mem hj)).2,fun h0 => ?_⟩⟩
  have:=h3 (j - 1) (by simp;omega)
  simp only [List.getElem_map,show j - 1+1=j from by omega] at this
  exact this
theorem keyOkT_any (s:ByteArray) (w:World) (R:Bool) (hR:R=true ↔ (1≤s.size∧s.size≤20)) (hs:s.size≤1048576):Calls Tryz.prog 47 #[.string s] w fun e w' => e=.returned (.bool R)∧w' = w:=by
 have HR:Hid (R=(decide ((1:Int)≤(s.size:Int)) && decide ((s.size:Int)≤20))):=by
  show _=_
  rw [Bool.eq_iff_iff,hR,Bool.and_eq_true,decide_eq_true_eq,decide_eq_true_eq]
  omega
 clear hR
 cases h:decide ((1:Int)≤(s.size:Int))
 all_goals
  go_enter Tryz.func47,Tryz.ntmps47
  go_wp2
  go_ret
  rw [HR.out,h]
  exact ⟨rfl,rfl⟩
theorem keysOf_any (es:List EntD) (ao:Option Addr) (cap:Nat) (w:World) (hl:es.length≤1048576) (hes:EntriesAt w ao es) :
  Calls Tryz.prog 49 #[.slice ao es.length cap] w fun e w' => (∃ v,e=.returned v∧w'.ownsRow w.heap.size 9 1 v (es.map EntD.key).length ((es.map EntD.key).map Value.string))∧Below w.heap.size w w':=by
 have HT:=hide hes
 clear hes
 go_enter Tryz.func49,Tryz.ntmps49
 go_wp2
 go_loopw [3,8] (fun vv ii wr => ∃ (k:Nat),ii=.int .i64 (k:Int)∧k≤es.length∧Hid (wr.ownsRow w.heap.size 9 1 vv ((es.take k).map EntD.key).length (((es.take k).map EntD.key).map Value.string))∧Hid (Below w.heap.size w wr)) (fun _ ii _ => es.length - (intOf ii).toNat)
 case atStart => exact ⟨0,rfl,by omega,World.ownsRow_nil _ _ _ _,Below.refl _ _⟩
 case round =>
  obtain ⟨k,rfl,hk,HO,HB⟩:=hrel
  by_cases hlt:k < es.length
  ·
   have hlt':decide ((k:Int) < (es.length:Int))=true:=by simp;omega
   obtain ⟨b,off,rfl,hbw,hc0,hc1,hc2,hc3,a,c,hc4,-⟩:=entriesAt_keep HT.out HB.out k hlt
   have hws:=HB.out.size
   have HEV:Hid ((es.take (k+1)).map EntD.key=(es.take k).map EntD.key ++ [es[k].key]):=by show _=_;rw [List.take_succ_eq_append_getElem hlt,List.map_append];rfl
   generalize es[k]=F at hc0 hc1 hc2 hc3 hc4 HEV
   obtain ⟨key,kd,u,t,ts⟩:=F
   simp only at hc0 hc1 hc2 hc3 hc4 HEV
   have hi0:(0:Int)≤(k:Int):=by omega
   have hi1:(k:Int) < (es.length:Int):=by omega
   obtain ⟨L,HL⟩:∃ L,Hid ((es.take k).map EntD.key=L):=⟨_,hide rfl⟩
   have hel:L.length≤1048576:=by rw [← HL.out];simp;omega
   rw [HL.out] at HO HEV
   go_wp2_with (at_builtin;refine app_txt _ w.heap.size (by rfl) _ _ (by rfl) _ L key (by rfl) ((HO.out.alloc _).alloc _) (wr.heap.size+1) (by simp [Act.eval]) (by simpa using heap_alloc_new (wr.alloc (.cells #[.string key,.int .i64 kd,.int .i64 u,.string t,.slice a ts.length c] 57)) (.cells #[.string key] 9)) hel (by simp;omega) ?_;intro g5 cap5 w5 ho5 hb5 hgr5 hg5 hgl5;have HO5:=hide ho5;have HB5:=hide hb5;clear ho5 hb5 hgr5 hg5 hgl5)
   go_roundw
   case rel => exact ⟨k+1,by go_num,by omega,by show World.ownsRow _ _ _ _ _ _ _;rw [HEV.out];exact HO5.out,((HB.out.alloc hws _).alloc (by simp;omega) _).trans HB5.out⟩
   case measure => simp [intOf];omega
  ·
   have hlt':decide ((k:Int) < (es.length:Int))=false:=by simp;omega
   have hke:k=es.length:=by omega
   subst hke
   have HO2:=HO.out
   rw [List.take_length] at HO2
   have HO3:=hide HO2
   clear HO2
   go_wp2
   go_ret
   exact ⟨⟨_,rfl,HO3.out⟩,HB.out⟩
theorem implTableOk_any (es:List EntD) (ao:Option Addr) (cap:Nat) (w:World) (R:Bool) (hR:R=true ↔ TabR es) (hl:es.length≤1048576) (hes:EntriesAt w ao es) (hsz:∀ e ∈ es,EntS 1048576 e) :
  Calls Tryz.prog 22 #[.slice ao es.length cap] w fun e w' => e=.returned (.bool R)∧Below w.heap.size w w':=by
 have HF:=hide hes
 have HS:=hide hsz
 have HR:=hide (hR.trans (tabR_iff es))
 clear hes hsz hR
 by_cases h1:20 < es.length
 ·
  have h1':decide ((20:Int) < (es.length:Int))=true:=by simp;omega
  have hF:R=false:=by
   cases R
   · rfl
   · have:=(HR.out.1 rfl).1;omega
  subst hF
  go_enter Tryz.func22,Tryz.ntmps22
  go_wp2
  go_ret
  exact ⟨rfl,Below.refl _ _⟩
 have h1':decide ((20:Int) < (es.length:Int))=false:=by simp;omega
 go_enter Tryz.func22,Tryz.ntmps22
 go_wp2
 go_loopw [10] (fun ii wr => ∃ (k:Nat),ii=.int .i64 (k:Int)∧k≤es.length∧Hid (∀ j (h:j < es.length),j < k→(1≤es[j].key.size∧es[j].key.size≤20)∧ValR es[j].val)∧Hid (Below w.heap.size w wr)) (fun ii _ => es.length - (intOf ii).toNat)
 case atStart => exact ⟨0,rfl,by omega,fun j _ hj => absurd hj (by omega),Below.refl _ _⟩
 case round =>
  obtain ⟨k,rfl,hk,HK,HB⟩:=hrel
  by_cases hlt:k < es.length
  ·
   have hlt':decide ((k:Int) < (es.length:Int))=true:=by simp;omega
   obtain ⟨b,off,rfl,hbw,hc0,hc1,hc2,hc3,a,c,hc4,hta⟩:=entriesAt_keep HF.out HB.out k hlt
   have hws:=HB.out.size
   have hsA:=HS.out es[k] (List.getElem_mem hlt)
   have HNX:Hid ((1≤es[k].key.size∧es[k].key.size≤20)→ValR es[k].val→∀ j (h:j < es.length),j < k+1→(1≤es[j].key.size∧es[j].key.size≤20)∧ValR es[j].val):=by
    intro h1 h2 j hj hjk
    by_cases e:j=k
    · subst e;exact ⟨h1,h2⟩
    · exact HK.out j hj (by omega)
   have HNO:Hid (R=true→(1≤es[k].key.size∧es[k].key.size≤20)∧ValR es[k].val):=fun h => (HR.out.1 h).2.1 _ (List.getElem_mem hlt)
   obtain ⟨r,Hr⟩:∃ r:Bool,Hid (r=true ↔ ValR es[k].val):=by classical exact ⟨decide (ValR es[k].val),by show _ ↔ _;simp⟩
   obtain ⟨r0,Hr0⟩:∃ r:Bool,Hid (r=true ↔ (1≤es[k].key.size∧es[k].key.size≤20)):=by classical exact ⟨decide (1≤es[k].key.size∧es[k].key.size≤20),by show _ ↔ _;simp⟩
   have HVO:=hide (fun W (hW:Below wr.heap.size wr W) => implValOk_any es[k].val a c W r Hr.out hsA.2.2.1 (by have:=hsA.2.1;unfold maxLen;omega) (textsAt_keep hta hW) (fun s hs => by have:=hsA.2.2.2 s hs;unfold maxLen;omega))
   have HKO:=hide (fun W => keyOkT_any es[k].key W r0 Hr0.out hsA.1)
   generalize es[k]=F at hc0 hc1 hc2 hc3 hc4 HNX HNO HVO HKO Hr Hr0
   clear hsA hta
   obtain ⟨key,kd,u,t,ts⟩:=F
   simp only at hc0 hc1 hc2 hc3 hc4 HVO HKO HNX HNO Hr Hr0
   have hi0:(0:Int)≤(k:Int):=by omega
   have hi1:(k:Int) < (es.length:Int):=by omega
   have B1:Hid (Below wr.heap.size wr (wr.alloc (.cells #[.string key,.int .i64 kd,.int .i64 u,.string t,.slice a ts.length c] 57))):=(Below.refl _ wr).alloc (Nat.le_refl _) _
   have W1:=hide (HB.out.trans (B1.out.mono hws))
   go_wp2_with fail
   refine (HKO.out _).mono ?_
   rintro e w1 ⟨rfl,rfl⟩
   cases r0
   ·
    have hF:Hid (R=false):=by
     show _=_
     cases R
     · rfl
     · exact absurd (Hr0.out.2 (HNO.out rfl).1) (by simp)
    go_wp2
    go_ret
    rw [hF.out]
    exact ⟨rfl,W1.out⟩
   go_wp2_with fail
   refine (HVO.out _ B1.out).mono ?_
   rintro e w2 ⟨rfl,b2⟩
   have W2:=hide (W1.out.trans (b2.mono W1.out.size))
   clear b2
   cases r
   ·
    have hF:Hid (R=false):=by
     show _=_
     cases R
     · rfl
     · exact absurd (Hr.out.2 (HNO.out rfl).2) (by simp)
    go_wp2
    go_ret
    rw [hF.out]
    exact ⟨rfl,W2.out⟩
   have HK1:=hide (HNX.out (Hr0.out.1 (by trivial)) (Hr.out.1 (by trivial)))
   go_wp2
   go_roundw
   case rel => exact ⟨k+1,by go_num,by omega,HK1,W2⟩
   case measure => simp [intOf];omega
  ·
   have hlt':decide ((k:Int) < (es.length:Int))=false:=by simp;omega
   have hke:k=es.length:=by omega
   subst hke
   have HR2:Hid (R=true ↔ Asc (es.map EntD.key)):=by
    show _ ↔ _
    rw [HR.out]
    constructor
    · exact fun h => h.2.2
    ·
     intro h
     refine ⟨by omega,fun e he => ?_,h⟩
     obtain ⟨j,hj,rfl⟩:=List.getElem_of_mem he
     exact HK.out j hj hj
   go_wp2_with fail
   refine (keysOf_any es ao cap wr hl (entriesAt_keep HF.out HB.out)).mono ?_
   rintro e w1 ⟨⟨v,rfl,ho⟩,b1⟩
   obtain ⟨a,c,rfl,ht⟩:=rowText_at (rowText_own ho)
   have HA0:=ascending_any _ a c w1 R HR2.out (by rw [List.length_map];unfold maxLen;omega) ht
   rw [List.length_map] at HA0
   have HA:=hide HA0
   clear HA0
   have W1:=hide (HB.out.trans (b1.mono HB.out.size))
   clear ho ht b1
   go_wp2_with fail
   refine HA.out.mono ?_
   rintro e w2 ⟨rfl,b2⟩
   go_wp2
   go_ret
   exact ⟨rfl,W1.out.trans (b2.mono W1.out.size)⟩
theorem quiet_run {P:Program} {C:World→Prop} {a:Act} {o:Oper} {K:Act→Prop} {v:Value} (hv:∀ w,C w→(execOp a.eval o).run P w=.ok (.value v) w) (hk:K (a.put o.dst v)):o.quiet P a C K :=
 ⟨v,fun w hw => by unfold Oper.quietAt;rw [hv w hw];exact ⟨rfl,rfl⟩,hk⟩
theorem quiet_call {P:Program} {C:World→Prop} {a:Act} {o:Oper} {K:Act→Prop} {v:Value} {f:FuncId} {args:Array Value} (hv:∀ w,C w→(execOp a.eval o).run P w=.ok (.enter f args) w) (hc:∀ w,C w→Calls P f args w (fun e w'' => e=.returned v∧C w'')) (hk:K (a.put o.dst v)):o.quiet P a C K :=
 ⟨v,fun w hw => by unfold Oper.quietAt;rw [hv w hw];exact ⟨rfl,hc w hw⟩,hk⟩
structure WQ (P:Program) (ops:Array Oper) (C:World→Prop) (Q:Act→Prop) (l:List Oper) (a:Act):Prop where
 out:wpQuiet P ops C Q l a
section
variable {P:Program} {ops:Array Oper} {C:World→Prop} {Q:Act→Prop} {rest:List Oper} {a:Act} {o:Oper} {v:Value}
theorem WQ.run (hw:Region.wanted o (yielded ops a.tmps)=true) (hv:∀ w,C w→(execOp a.eval o).run P w=.ok (.value v) w) (h:WQ P ops C Q rest (a.put o.dst v)):WQ P ops C Q (o :: rest) a :=
 ⟨BigFrame.wpQuiet_want hw (fun _ hK => quiet_run hv (hK _ h.out))⟩
theorem WQ.call {f:FuncId} {args:Array Value} (hw:Region.wanted o (yielded ops a.tmps)=true) (hv:∀ w,C w→(execOp a.eval o).run P w=.ok (.enter f args) w) (hc:∀ w,C w→Calls P f args w (fun e w'' => e=.returned v∧C w'')) (h:WQ P ops C Q rest (a.put o.dst v)):WQ P ops C Q (o :: rest) a :=
 ⟨BigFrame.wpQuiet_want hw (fun _ hK => quiet_call hv hc (hK _ h.out))⟩
theorem WQ.skip (hw:Region.wanted o (yielded ops a.tmps)=false) (h:WQ P ops C Q rest (a.put o.dst undef)):WQ P ops C Q (o :: rest) a :=
 ⟨BigFrame.wpQuiet_skip hw h.out⟩
theorem WQ.nil (h:Q a):WQ P ops C Q [] a:=⟨wpQuiet_nil h⟩
end
end Go.Proofs.YtbenmgokhklnjaaGreatDoor
