import Derived.Test.YtbenmgokhklnjaaGreatDoorTb36
import Derived.Test.YtbenmgokhklnjaaGreatDoorTb12
import Derived.Test.YtbenmgokhklnjaaGreatDoorTb37
set_option maxRecDepth 100000
set_option maxHeartbeats 1600000
namespace Go.Proofs.YtbenmgokhklnjaaGreatDoor
open Go.RowKit
theorem rdvI_in {t:ByteArray} {i:Nat} (hi:i≤t.size):Wd.rvI t (i:Int)=Wd.rv t i:=by
 unfold Wd.rvI
 rw [if_neg (by omega),Int.toNat_natCast]
theorem readVar_in {t:ByteArray} {i:Nat} (hi:i≤t.size) (ht:t.size≤1048576) (w:World):Calls Tryz.prog 67 #[.string t,.int .i64 (i:Int)] w fun e w' => e=.returned (rvAns (Wd.rv t i))∧w' = w:=by
 have h:=implRead_any t i w ht
 rw [rdvI_in hi] at h
 exact h
theorem rdvShort_none {t:ByteArray} {i:Nat} (hi:i≤t.size) (ht:t.size≤1048576) (h:shI t i=none) (w:World):Calls Tryz.prog 68 #[.string t,.int .i64 (i:Int)] w fun e w' => e=.returned (.tuple #[.string ⟨#[]⟩,.int .i64 0,.bool false])∧Below w.heap.size w w':=by
 cases hr:Wd.rv t i with
 | none => exact implRShort_none t i w ht (by rw [rdvI_in hi];exact hr)
 | some x =>
  obtain ⟨n,p⟩:=x
  refine implRShort_no t i w n p ht (by rw [rdvI_in hi];exact hr) ?_
  by_cases hc:n≤20000∧p+n≤t.size
  · rw [shI_yes hr hc.1 hc.2] at h;cases h
  · omega
theorem rdvShort_some {t:ByteArray} {i e:Nat} {s:ByteArray} (hi:i≤t.size) (ht:t.size≤1048576) (h:shI t i=some (s,e)) (w:World):Calls Tryz.prog 68 #[.string t,.int .i64 (i:Int)] w fun e' w' => e' = .returned (.tuple #[.string s,.int .i64 (e:Int),.bool true])∧Below w.heap.size w w':=by
 cases hr:Wd.rv t i with
 | none => rw [shI_none hr] at h;cases h
 | some x =>
  obtain ⟨n,p⟩:=x
  by_cases hc:n≤20000∧p+n≤t.size
  ·
   rw [shI_yes hr hc.1 hc.2] at h
   simp only [Option.some.injEq,Prod.mk.injEq] at h
   obtain ⟨rfl,rfl⟩:=h
   exact implRShort_yes t i w n p ht (by rw [rdvI_in hi];exact hr) hc.1 hc.2
  · rw [shI_no hr (by omega)] at h;cases h
def ItemsA (w':World) (B:Nat) (r:Option (List ByteArray × Nat)) (e:Ending):Prop :=
 (r=none∧e=.returned (.tuple #[.slice none 0 0,.int .i64 0,.bool false])) ∨ ∃ (ts:List ByteArray) (p:Nat) (a:Option Addr) (c:Nat),r=some (ts,p)∧e=.returned (.tuple #[.slice a ts.length c,.int .i64 (p:Int),.bool true])∧RowText w' B (.slice a ts.length c) ts
theorem readItems_any (t:ByteArray) (i:Nat) (w:World) (ht:t.size≤1048576) (hi:i≤t.size) :
  Calls Tryz.prog 69 #[.string t,.int .i64 (i:Int)] w fun e w' => ItemsA w' w.heap.size (itsI t i) e∧Below w.heap.size w w':=by
 have HV:=hide (fun W => readVar_in hi ht W)
 have HN:Hid (Wd.rv t i=none→itsI t i=none):=fun h => by unfold itsI;rw [h]
 have HS:Hid (∀ n p,Wd.rv t i=some (n,p)→itsI t i=(if n≤24 then itI t n p [] else none)∧n≤1000000000∧p≤t.size):=fun n p h => by
  have hb:=Wd.rv_bounds t i n p h
  exact ⟨by unfold itsI;rw [h],hb.1,hb.2.2⟩
 have HRN:=hide (fun j (hj:j≤t.size) (h:shI t j=none) W => rdvShort_none hj ht h W)
 have HRS:=hide (fun j s e (hj:j≤t.size) (h:shI t j=some (s,e)) W => rdvShort_some hj ht h W)
 generalize itsI t i=R at HN HS ⊢
 cases hr:Wd.rv t i with
 | none =>
  rw [hr] at HV
  have hR:=hide (HN.out hr)
  clear hr
  go_enter Tryz.func69,Tryz.ntmps69
  go_wp2_with fail
  refine (HV.out _).mono ?_
  rintro e w1 ⟨rfl,rfl⟩
  simp only [rvAns]
  go_wp2
  go_ret3
  exact ⟨.inl ⟨hR.out,rfl⟩,Below.refl _ _⟩
 | some x =>
  obtain ⟨n,p⟩:=x
  rw [hr] at HV
  obtain ⟨hR,hn,hp⟩:=HS.out n p hr
  have HR:=hide hR
  clear hr hR HN HS
  by_cases h24:n≤24
  ·
   have h24':decide (24 < (n:Int))=false:=by simp;omega
   rw [if_pos h24] at HR
   go_enter Tryz.func69,Tryz.ntmps69
   go_wp2_with fail
   refine (HV.out _).mono ?_
   rintro e w1 ⟨rfl,rfl⟩
   simp only [rvAns]
   go_wp2
   go_loopw [1,9,27] (fun at' vv ii wr => ∃ (k q:Nat) (acc:List ByteArray),ii=.int .i64 (k:Int)∧at' = .int .i64 (q:Int)∧k≤n∧q≤t.size∧Hid (acc.length=k)∧Hid (R=itI t (n - k) q acc)∧Hid (wr.ownsRow w1.heap.size 9 1 vv acc.length (acc.map Value.string))∧Hid (Below w1.heap.size w1 wr)) (fun _ _ ii _ => n - (intOf ii).toNat)
   case atStart => exact ⟨0,p,[],rfl,rfl,Nat.zero_le _,hp,hide rfl,HR,World.ownsRow_nil _ _ _ _,Below.refl _ _⟩
   case round =>
    obtain ⟨k,q,acc,rfl,rfl,hk,hq,hacc,HI,HO,HB⟩:=hrel
    by_cases hlt:k < n
    ·
     have hlt':decide ((k:Int) < (n:Int))=true:=by simp;omega
     have HI2:Hid (R=itI t (n - (k+1)+1) q acc):=by show _=_;rw [show n - (k+1)+1=n - k by omega];exact HI.out
     have hel:acc.length≤1048576:=by have:=hacc.out;omega
     have hws:=HB.out.size
     cases hs:shI t q with
     | none =>
      have hR:Hid (R=none):=by show _=_;rw [HI2.out,itI,hs]
      have HC:=hide (HRN.out q hq hs wr)
      clear hs
      go_wp2_with fail
      refine HC.out.mono ?_
      rintro e w2 ⟨rfl,b2⟩
      have B2:=hide b2
      clear b2
      go_wp2
      go_ret3
      exact ⟨.inl ⟨hR.out,rfl⟩,HB.out.trans (B2.out.mono HB.out.size)⟩
     | some y =>
      obtain ⟨s,e⟩:=y
      have hR:Hid (R=itI t (n - (k+1)) e (acc ++ [s])):=by show _=_;rw [HI2.out,itI,hs]
      have HC:=hide (HRS.out q s e hq hs wr)
      have hst:=(shI_text hs).2.2.1
      clear hs
      go_wp2_with fail
      refine HC.out.mono ?_
      rintro e' w2 ⟨rfl,b2⟩
      have B2:=hide b2
      have hs2:wr.heap.size≤w2.heap.size:=b2.size
      clear b2
      go_wp2_with (at_builtin;refine app_txt _ w1.heap.size (by rfl) _ _ (by rfl) _ acc s (by rfl) ((ownsRow_below HO.out B2.out).alloc _) w2.heap.size (by simp [Act.eval]) (heap_alloc_new w2 _) hel (by simp;omega) ?_;intro g5 cap5 w5 ho5 hb5 hgr5 hg5 hgl5;have HO5:=hide ho5;have HB5:=hide hb5;clear ho5 hb5 hgr5 hg5 hgl5)
      go_roundw
      case rel => exact ⟨k+1,e,acc ++ [s],by go_num,rfl,by omega,hst,by show _=_;rw [List.length_append,hacc.out];rfl,hR,HO5,((HB.out.trans (B2.out.mono hws)).alloc (by omega) _).trans HB5.out⟩
      case measure => simp [intOf];omega
    ·
     have hlt':decide ((k:Int) < (n:Int))=false:=by simp;omega
     have hR:Hid (R=some (acc,q)):=by show _=_;rw [HI.out,show n - k=0 by omega];rfl
     obtain ⟨a,c,rfl⟩:=slice_form HO.out
     go_wp2
     go_ret3
     exact ⟨.inr ⟨acc,q,a,c,hR.out,rfl,by have:=rowText_own HO.out;simpa using this⟩,HB.out⟩
  ·
   have h24':decide (24 < (n:Int))=true:=by simp;omega
   rw [if_neg h24] at HR
   go_enter Tryz.func69,Tryz.ntmps69
   go_wp2_with fail
   refine (HV.out _).mono ?_
   rintro e w1 ⟨rfl,rfl⟩
   simp only [rvAns]
   go_wp2
   go_ret3
   exact ⟨.inl ⟨HR.out,rfl⟩,Below.refl _ _⟩
theorem byte0 (t:ByteArray) (h:0 < t.size):∃ b:Nat,Hid (Wd.bt t 0=b)∧(t[0]'h).toNat=b∧b < 256:=⟨_,rfl,Wd.bt_eq t 0 h,Wd.bt_lt t 0⟩
def LooseA (w':World) (B:Nat) (r:Option ValD) (e:Ending):Prop :=
 (r=none∧e=.returned (.tuple #[.agg #[.int .i64 0,.int .i64 0,.string ⟨#[]⟩,.slice none 0 0],.bool false])) ∨ ∃ (v:ValD) (a:Option Addr) (c:Nat),r=some v∧e=.returned (.tuple #[.agg #[.int .i64 v.kind,.int .i64 v.til,.string v.text,.slice a v.items.length c],.bool true])∧RowText w' B (.slice a v.items.length c) v.items
theorem looseVal_any (t:ByteArray) (w:World) (ht:t.size≤1048576) :
  Calls Tryz.prog 45 #[.string t] w fun e w' => LooseA w' w.heap.size (looI t) e∧Below w.heap.size w w':=by
 obtain ⟨R,HR⟩:∃ R,Hid (looI t=R):=⟨_,hide rfl⟩
 rw [HR.out]
 obtain ⟨wb,hwb⟩:∃ wb,wb=w.alloc (.cells #[.int .i64 0,.int .i64 0,.string ⟨#[]⟩,.slice none 0 0] 51):=⟨_,rfl⟩
 have HB0:Hid (Below w.heap.size w wb):=by rw [hwb];exact (Below.refl _ w).alloc (Nat.le_refl _) _
 have HR0:Hid (wb.heap[w.heap.size]? = some (.cells #[.int .i64 0,.int .i64 0,.string ⟨#[]⟩,.slice none 0 0] 51 (0,0))):=by rw [hwb];exact heap_alloc_new _ _
 have HNO:Hid (R=none→∀ W,Below wb.heap.size wb W→LooseA ((((W.setCell ⟨w.heap.size,0,none⟩ (.int .i64 0)).setCell ⟨w.heap.size,1,none⟩ (.int .i64 0)).setCell ⟨w.heap.size,2,none⟩ (.string ⟨#[]⟩)).setCell ⟨w.heap.size,3,none⟩ (.slice none 0 0)) w.heap.size R (.returned (.tuple #[.agg #[.int .i64 0,.int .i64 0,.string ⟨#[]⟩,.slice none 0 0],.bool false]))∧Below w.heap.size w ((((W.setCell ⟨w.heap.size,0,none⟩ (.int .i64 0)).setCell ⟨w.heap.size,1,none⟩ (.int .i64 0)).setCell ⟨w.heap.size,2,none⟩ (.string ⟨#[]⟩)).setCell ⟨w.heap.size,3,none⟩ (.slice none 0 0))):=fun h W hW => by
  have hb:=HB0.out.trans (hW.mono HB0.out.size)
  exact ⟨.inl ⟨h,rfl⟩,(((hb.setCell (p:=⟨w.heap.size,0,none⟩) (Nat.le_refl _) _).setCell (p:=⟨w.heap.size,1,none⟩) (Nat.le_refl _) _).setCell (p:=⟨w.heap.size,2,none⟩) (Nat.le_refl _) _).setCell (p:=⟨w.heap.size,3,none⟩) (Nat.le_refl _) _⟩
 have KC:Hid (∀ X,Below wb.heap.size wb X→(X.cell? ⟨w.heap.size,0,none⟩=some (.int .i64 0)∧X.cell? ⟨w.heap.size,1,none⟩=some (.int .i64 0)∧X.cell? ⟨w.heap.size,2,none⟩=some (.string ⟨#[]⟩)∧X.cell? ⟨w.heap.size,3,none⟩=some (.slice none 0 0))∧X.frozen? ⟨w.heap.size,0,none⟩=false∧X.frozen? ⟨w.heap.size,1,none⟩=false∧X.frozen? ⟨w.heap.size,2,none⟩=false∧X.frozen? ⟨w.heap.size,3,none⟩=false):=fun X hX => by
  have h:=(hX.block _ (obj_lt HR0.out)).trans HR0.out
  exact ⟨val_cells h,val_frozen h⟩
 obtain ⟨⟨r0,r1,r2,r3⟩,f0,f1,f2,f3⟩:=KC.out _ (Below.refl _ _)
 by_cases hz:0 < t.size
 rotate_left
 ·
  have hRn:Hid (R=none):=by show _=_;rw [← HR.out];unfold looI;rw [if_neg hz]
  have he:(t.toList == [])=true:=by
   have:t.toList.length=0:=by rw [ByteArray.toList_eq];show t.size=0;omega
   rw [List.eq_nil_of_length_eq_zero this];rfl
  go_enter Tryz.func45,Tryz.ntmps45
  go_upto_region 1 with fail
  rw [← hwb]
  clear hwb
  go_wp2_with fail
  refine bodyPost_ret (v:=.tuple #[.agg #[.int .i64 0,.int .i64 0,.string ⟨#[]⟩,.slice none 0 0],.bool false]) (by simp [results,Tryz.results45,go_sem,r0,r1,r2,r3]) rfl ?_
  exact HNO.out hRn.out _ (Below.refl _ _)
 have he:(t.toList == [])=false:=by
  cases hh:(t.toList == []) with
  | false => rfl
  | true =>
   have h:=congrArg List.length (eq_of_beq hh)
   rw [ByteArray.toList_eq] at h
   have h2:t.size=0:=h
   omega
 have hzi:(0:Int) < (t.size:Int):=by omega
 obtain ⟨b0,HB00,hbt,hb256⟩:=byte0 t hz
 have HV:=hide (fun W => readVar_in (t:=t) (i:=1) hz ht W)
 have HRN:=hide (fun j (hj:j≤t.size) (h:shI t j=none) W => rdvShort_none hj ht h W)
 have HRS:=hide (fun j s e (hj:j≤t.size) (h:shI t j=some (s,e)) W => rdvShort_some hj ht h W)
 have HIT:=hide (fun j (hj:j≤t.size) W => readItems_any t j W ht hj)
 have HL:Hid ((match Wd.rv t 1 with | none => none | some (u,p) => match shI t p with | none => none | some (s,p2) => match itsI t p2 with | none => none | some (ts,e) => if e=t.size then some (⟨(Wd.bt t 0:Nat),(u:Nat),s,ts⟩:ValD) else none)=R):=by
  show _=_
  rw [← HR.out]
  unfold looI
  rw [if_pos hz]
  rfl
 go_enter Tryz.func45,Tryz.ntmps45
 go_upto_region 1 with fail
 rw [← hwb]
 clear hwb
 go_wp2_with fail
 refine (HV.out _).mono ?_
 rintro e w1 ⟨rfl,rfl⟩
 rcases h1:Wd.rv t 1 with _ | ⟨u,p⟩
 ·
  have hRn:Hid (R=none):=by show _=_;rw [← HL.out,h1]
  simp only [rvAns]
  clear h1
  go_wp2_with fail
  refine bodyPost_ret (v:=.tuple #[.agg #[.int .i64 0,.int .i64 0,.string ⟨#[]⟩,.slice none 0 0],.bool false]) (by simp [results,Tryz.results45,go_sem,r0,r1,r2,r3]) rfl ?_
  exact HNO.out hRn.out _ (Below.refl _ _)
 have hb:=Wd.rv_bounds t 1 u p h1
 rw [h1] at HL
 simp only at HL
 simp only [rvAns]
 clear h1
 go_wp2_with fail
 rcases h2:shI t p with _ | ⟨s,p2⟩
 ·
  have hRn:Hid (R=none):=by show _=_;rw [← HL.out,h2]
  refine (HRN.out p hb.2.2 h2 _).mono ?_
  rintro e w2 ⟨rfl,b2⟩
  have B2:=hide b2
  clear b2 h2 r0 r1 r2 r3 f0 f1 f2 f3
  obtain ⟨⟨r0,r1,r2,r3⟩,f0,f1,f2,f3⟩:=KC.out _ B2.out
  go_wp2_with fail
  refine bodyPost_ret (v:=.tuple #[.agg #[.int .i64 0,.int .i64 0,.string ⟨#[]⟩,.slice none 0 0],.bool false]) (by simp [results,Tryz.results45,go_sem,r0,r1,r2,r3]) rfl ?_
  exact HNO.out hRn.out _ B2.out
 obtain ⟨-,-,hp2,-,-⟩:=shI_text h2
 rw [h2] at HL
 simp only at HL
 refine (HRS.out p s p2 hb.2.2 h2 _).mono ?_
 rintro e w2 ⟨rfl,b2⟩
 have B2:=hide b2
 clear b2 h2 hb r0 r1 r2 r3 f0 f1 f2 f3
 go_wp2_with fail
 refine (HIT.out p2 hp2 _).mono ?_
 rintro e w3 ⟨ha,b3⟩
 have B3:=hide (B2.out.trans (b3.mono B2.out.size))
 clear b3
 obtain ⟨⟨r0,r1,r2,r3⟩,f0,f1,f2,f3⟩:=KC.out _ B3.out
 rcases ha with ⟨hn,rfl⟩ | ⟨ts,q,a,c,hq,rfl,hrow⟩
 ·
  have hRn:Hid (R=none):=by show _=_;rw [← HL.out,hn]
  clear hn
  go_wp2_with fail
  refine bodyPost_ret (v:=.tuple #[.agg #[.int .i64 0,.int .i64 0,.string ⟨#[]⟩,.slice none 0 0],.bool false]) (by simp [results,Tryz.results45,go_sem,r0,r1,r2,r3]) rfl ?_
  exact HNO.out hRn.out _ B3.out
 rw [hq] at HL
 simp only at HL
 have hqs:q≤t.size:=by
  unfold itsI at hq
  cases h4:Wd.rv t p2 with
  | none => rw [h4] at hq;cases hq
  | some y =>
   obtain ⟨n,p3⟩:=y
   rw [h4] at hq
   simp only at hq
   have hb:=Wd.rv_bounds t p2 n p3 h4
   by_cases hn:n≤24
   ·
    rw [if_pos hn] at hq
    obtain ⟨ns,-,-,-,c4,-⟩:=itI_text n p3 [] ts q hq hb.2.2
    exact c4
   · rw [if_neg hn] at hq;cases hq
 have HW:=hide hrow
 clear hq hrow
 by_cases hqe:q=t.size
 ·
  have hqe':decide ((q:Int) < (t.size:Int))=false:=by simp;omega
  rw [if_pos hqe,HB00.out] at HL
  have hs2:=B2.out.size
  have hws:=obj_lt HR0.out
  go_wp2_with fail
  refine bodyPost_ret (v:=.tuple #[.agg #[.int .i64 (b0:Int),.int .i64 (u:Int),.string s,.slice a ts.length c],.bool true]) (by simp [results,Tryz.results45,go_sem,r0,r1,r2,r3]) rfl ⟨.inr ⟨⟨b0,u,s,ts⟩,a,c,HL.out.symm,rfl,?_⟩,?_⟩
  ·
   refine rowText_le (rowText_keep HW.out (fun g hg => ?_)) (by omega:w.heap.size≤w2.heap.size)
   have h1:=rowText_lt HW.out g hg
   rw [Below.heap_setCell _ _ _ _ (by simp;omega),Below.heap_setCell _ _ _ _ (by simp;omega),Below.heap_setCell _ _ _ _ (by simp;omega),Below.heap_setCell _ _ _ _ (by simp;omega)]
  · exact ((((HB0.out.trans (B3.out.mono HB0.out.size)).setCell (p:=⟨w.heap.size,0,none⟩) (Nat.le_refl _) _).setCell (p:=⟨w.heap.size,1,none⟩) (Nat.le_refl _) _).setCell (p:=⟨w.heap.size,2,none⟩) (Nat.le_refl _) _).setCell (p:=⟨w.heap.size,3,none⟩) (Nat.le_refl _) _
 ·
  have hqe':decide ((q:Int) < (t.size:Int))=true:=by simp;omega
  rw [if_neg hqe] at HL
  have hRn:Hid (R=none):=HL.out.symm
  go_wp2_with fail
  refine bodyPost_ret (v:=.tuple #[.agg #[.int .i64 0,.int .i64 0,.string ⟨#[]⟩,.slice none 0 0],.bool false]) (by simp [results,Tryz.results45,go_sem,r0,r1,r2,r3]) rfl ?_
  exact HNO.out hRn.out _ B3.out
theorem implReadVal_any (t:ByteArray) (w:World) (R:Bool) (hR:R=true ↔ RvOk t) (ht:t.size≤1048576) :
  Calls Tryz.prog 21 #[.string t] w fun e w' => (∃ a c,e=.returned (.tuple #[.agg #[.int .i64 (cond R (rvRaw t).1 noVal).kind,.int .i64 (cond R (rvRaw t).1 noVal).til,.string (cond R (rvRaw t).1 noVal).text,.slice a (cond R (rvRaw t).1 noVal).items.length c],.bool R])∧RowText w' w.heap.size (.slice a (cond R (rvRaw t).1 noVal).items.length c) (cond R (rvRaw t).1 noVal).items)∧Below w.heap.size w w':=by
 have HRI:=hide hR
 have HLo:=hide (fun W => looseVal_any t W ht)
 clear hR
 obtain ⟨V,HV⟩:∃ V,Hid (cond R (rvRaw t).1 noVal=V):=⟨_,hide rfl⟩
 rw [HV.out]
 obtain ⟨wb,hwb⟩:∃ wb,wb=w.alloc (.cells #[.int .i64 0,.int .i64 0,.string ⟨#[]⟩,.slice none 0 0] 51):=⟨_,rfl⟩
 have HB0:Hid (Below w.heap.size w wb):=by rw [hwb];exact (Below.refl _ w).alloc (Nat.le_refl _) _
 have HR0:Hid (wb.heap[w.heap.size]? = some (.cells #[.int .i64 0,.int .i64 0,.string ⟨#[]⟩,.slice none 0 0] 51 (0,0))):=by rw [hwb];exact heap_alloc_new _ _
 have hws:=obj_lt HR0.out
 have HNO:Hid (R=false→∀ W,Below wb.heap.size wb W→(∃ a c,Ending.returned (.tuple #[.agg #[.int .i64 0,.int .i64 0,.string ⟨#[]⟩,.slice none 0 0],.bool false])=.returned (.tuple #[.agg #[.int .i64 V.kind,.int .i64 V.til,.string V.text,.slice a V.items.length c],.bool R])∧RowText ((((W.setCell ⟨w.heap.size,0,none⟩ (.int .i64 0)).setCell ⟨w.heap.size,1,none⟩ (.int .i64 0)).setCell ⟨w.heap.size,2,none⟩ (.string ⟨#[]⟩)).setCell ⟨w.heap.size,3,none⟩ (.slice none 0 0)) w.heap.size (.slice a V.items.length c) V.items)∧Below w.heap.size w ((((W.setCell ⟨w.heap.size,0,none⟩ (.int .i64 0)).setCell ⟨w.heap.size,1,none⟩ (.int .i64 0)).setCell ⟨w.heap.size,2,none⟩ (.string ⟨#[]⟩)).setCell ⟨w.heap.size,3,none⟩ (.slice none 0 0))):=fun h W hW => by
  have hb:=HB0.out.trans (hW.mono HB0.out.size)
  have hv:=HV.out
  rw [h] at hv ⊢
  have hv2:noVal=V:=hv
  subst hv2
  exact ⟨⟨none,0,rfl,.inl ⟨rfl,rfl⟩⟩,(((hb.setCell (p:=⟨w.heap.size,0,none⟩) (Nat.le_refl _) _).setCell (p:=⟨w.heap.size,1,none⟩) (Nat.le_refl _) _).setCell (p:=⟨w.heap.size,2,none⟩) (Nat.le_refl _) _).setCell (p:=⟨w.heap.size,3,none⟩) (Nat.le_refl _) _⟩
 have KC:Hid (∀ X,Below wb.heap.size wb X→(X.cell? ⟨w.heap.size,0,none⟩=some (.int .i64 0)∧X.cell? ⟨w.heap.size,1,none⟩=some (.int .i64 0)∧X.cell? ⟨w.heap.size,2,none⟩=some (.string ⟨#[]⟩)∧X.cell? ⟨w.heap.size,3,none⟩=some (.slice none 0 0))∧X.frozen? ⟨w.heap.size,0,none⟩=false∧X.frozen? ⟨w.heap.size,1,none⟩=false∧X.frozen? ⟨w.heap.size,2,none⟩=false∧X.frozen? ⟨w.heap.size,3,none⟩=false):=fun X hX => by
  have h:=(hX.block _ (obj_lt HR0.out)).trans HR0.out
  exact ⟨val_cells h,val_frozen h⟩
 go_enter Tryz.func21,Tryz.ntmps21
 go_upto_region 1 with fail
 rw [← hwb]
 clear hwb
 go_wp2_with fail
 refine (HLo.out _).mono ?_
 rintro e w1 ⟨ha,b1⟩
 have B1:=hide b1
 clear b1
 rcases ha with ⟨hn,rfl⟩ | ⟨⟨k,u,s,ts⟩,a,c,hq,rfl,hrow⟩
 ·
  have hRn:Hid (R=false):=by
   show _=_
   cases R
   · rfl
   · exact absurd (HRI.out.1 rfl) (rvOk_none hn)
  have B2:Hid (Below wb.heap.size wb (w1.alloc (.cells #[.int .i64 0,.int .i64 0,.string ⟨#[]⟩,.slice none 0 0] 51))):=B1.out.alloc B1.out.size _
  clear hn
  obtain ⟨⟨r0,r1,r2,r3⟩,f0,f1,f2,f3⟩:=KC.out _ B2.out
  go_wp2_with fail
  refine bodyPost_ret (v:=.tuple #[.agg #[.int .i64 0,.int .i64 0,.string ⟨#[]⟩,.slice none 0 0],.bool false]) (by simp [results,Tryz.results21,go_sem,r0,r1,r2,r3]) rfl ?_
  exact HNO.out hRn.out _ B2.out
 simp only at hrow hq
 obtain ⟨-,-,g3,g4,g5⟩:=looI_text hq
 simp only at g3 g4 g5
 have HW:=hide hrow
 obtain ⟨r,Hr⟩:∃ r:Bool,Hid (r=true ↔ ValR ⟨k,u,s,ts⟩):=by classical exact ⟨decide (ValR ⟨k,u,s,ts⟩),by show _ ↔ _;simp⟩
 obtain ⟨w2,hw2⟩:∃ w2,w2=w1.alloc (.cells #[.int .i64 k,.int .i64 u,.string s,.slice a ts.length c] 51):=⟨_,rfl⟩
 have B12:Hid (Below w1.heap.size w1 w2):=by rw [hw2];exact (Below.refl _ w1).alloc (Nat.le_refl _) _
 have P2:Hid (w2.heap[w1.heap.size]? = some (.cells #[.int .i64 k,.int .i64 u,.string s,.slice a ts.length c] 51 (0,0))):=by rw [hw2];exact heap_alloc_new _ _
 have B2:=hide (B1.out.trans (B12.out.mono B1.out.size))
 have HRW:=hide (rowText_below HW.out B12.out)
 have HVO:=hide (implValOk_any ⟨k,u,s,ts⟩ a c w2 r Hr.out (by show ts.length≤_;omega) (by show s.size≤_;unfold maxLen;omega) (rowText_rows HRW.out) (fun x hx => by have:=g5 x hx;unfold maxLen;omega))
 simp only at HVO
 have HRr:Hid (R=r):=by
  show _=_
  cases r
  ·
   cases R
   · rfl
   · exact absurd (HRI.out.1 rfl) (rvOk_not hq (fun h => by have:=Hr.out.2 h;cases this))
  · exact HRI.out.2 (rvOk_val hq (Hr.out.1 rfl)).1
 have HVr:Hid (r=true→V=⟨k,u,s,ts⟩):=fun h => by
  rw [← HV.out,HRr.out,h]
  exact (rvOk_val hq (Hr.out.1 h)).2
 clear hq hrow g3 g4 g5
 obtain ⟨q0,q1,q2,q3⟩:=val_cells P2.out
 go_upto_region 2 with fail
 rw [← hw2]
 clear hw2
 go_wp2_with fail
 refine HVO.out.mono ?_
 rintro e w3 ⟨rfl,b3⟩
 have B3:=hide (B2.out.trans (b3.mono B2.out.size))
 have P3:=hide ((b3.block _ (obj_lt P2.out)).trans P2.out)
 have HRW3:=hide (rowText_below HRW.out b3)
 clear b3 q0 q1 q2 q3
 obtain ⟨⟨r0,r1,r2,r3⟩,f0,f1,f2,f3⟩:=KC.out _ B3.out
 cases r
 ·
  go_wp2_with fail
  refine bodyPost_ret (v:=.tuple #[.agg #[.int .i64 0,.int .i64 0,.string ⟨#[]⟩,.slice none 0 0],.bool false]) (by simp [results,Tryz.results21,go_sem,r0,r1,r2,r3]) rfl ?_
  exact HNO.out HRr.out _ B3.out
 ·
  obtain ⟨q0,q1,q2,q3⟩:=val_cells P3.out
  have HVV:=hide (HVr.out rfl)
  obtain rfl:=HVV.out
  go_wp2_with fail
  refine bodyPost_ret (v:=.tuple #[.agg #[.int .i64 k,.int .i64 u,.string s,.slice a ts.length c],.bool true]) (by simp [results,Tryz.results21,go_sem,r0,r1,r2,r3]) rfl ⟨⟨a,c,by rw [HRr.out],?_⟩,?_⟩
  ·
   refine rowText_le (rowText_keep HRW3.out (fun g hg => ?_)) HB0.out.size
   have h1:=rowText_lt HW.out g hg
   rw [Below.heap_setCell _ _ _ _ (by simp;omega),Below.heap_setCell _ _ _ _ (by simp;omega),Below.heap_setCell _ _ _ _ (by simp;omega),Below.heap_setCell _ _ _ _ (by simp;omega)]
  · exact ((((HB0.out.trans (B3.out.mono HB0.out.size)).setCell (p:=⟨w.heap.size,0,none⟩) (Nat.le_refl _) _).setCell (p:=⟨w.heap.size,1,none⟩) (Nat.le_refl _) _).setCell (p:=⟨w.heap.size,2,none⟩) (Nat.le_refl _) _).setCell (p:=⟨w.heap.size,3,none⟩) (Nat.le_refl _) _
end Go.Proofs.YtbenmgokhklnjaaGreatDoor
