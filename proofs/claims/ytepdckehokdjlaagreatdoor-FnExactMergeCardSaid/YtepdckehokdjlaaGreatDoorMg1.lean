import Derived.Deep.RegionHeld3
import Derived.BigQuiet
import Derived.WalkSmall
import Derived.Test.YtepdckehokdjlaaGreatDoorMg0
set_option maxRecDepth 100000
set_option maxHeartbeats 1600000
namespace Go.Proofs.YtepdckehokdjlaaGreatDoor
open Go.RowKit
theorem Wd.rv_canonF (s:ByteArray) (i:Nat):∀ f k,f+k=5→(∀ j,j < k→128≤Wd.bt s (i+j))→∀ n p,Wd.rvF s f (i+k) k (128 ^ k) (Wd.valF s i k)=some (n,p) →
  Wd.varF 5 n=Wd.subF s i (p - i)∧i < p∧p≤s.size:=by
 intro f
 induction f with
 | zero => intro k _ _ n p h;simp [Wd.rvF] at h
 | succ f ih =>
  intro k hk hall n p h
  by_cases h1:i+k < s.size
  ·
   by_cases h2:Wd.bt s (i+k) < 128
   ·
    by_cases h3:Wd.valF s i k+Wd.bt s (i+k) % 128 * 128 ^ k≤1000000000∧(0 < Wd.bt s (i+k) ∨ k=0)
    ·
     rw [Wd.rvF_last s f (i+k) k _ _ h1 h2 h3.1 h3.2,← Wd.valF_snoc] at h
     simp only [Option.some.injEq,Prod.mk.injEq] at h
     obtain ⟨rfl,rfl⟩:=h
     rw [show i+k+1 - i=k+1 by omega]
     exact ⟨(Wd.canonF s k i 5 hall h2 (by omega)).2 h3.2,by omega,by omega⟩
    · rw [Wd.rvF_not s f _ k _ _ h2 h3] at h;simp at h
   ·
    rw [Wd.rvF_more s f _ k _ _ h1 h2,← Wd.valF_snoc,← Nat.pow_succ] at h
    exact ih (k+1) (by omega) (fun j hj => by
     by_cases e:j < k
     · exact hall j e
     · rw [show j=k by omega];omega) n p h
  · rw [Wd.rvF_end s _ _ k _ _ h1] at h;simp at h
theorem Wd.rv_canon (s:ByteArray) (i n p:Nat) (h:Wd.rv s i=some (n,p)):(s.extract i p).data.toList=Wd.varF 5 n∧i < p∧p≤s.size:=by
 obtain ⟨h1,h2,h3⟩:=Wd.rv_canonF s i 5 0 rfl (fun j hj => absurd hj (by omega)) n p h
 refine ⟨?_,h2,h3⟩
 rw [h1,← Wd.subF_extract s i (p - i) (by omega),show i+(p - i)=p by omega]
theorem Wd.rv_at_end (s:ByteArray) (i:Nat) (h:s.size≤i):Wd.rv s i=none:=Wd.rvF_end s 5 i 0 1 0 (by omega)
theorem Wd.varF_len:∀ f n,(Wd.varF f n).length≤f
 | 0,_ => by simp [Wd.varF]
 | f+1,n => by
  by_cases h:n < 128
  · rw [Wd.varF_low f n h];simp
  · rw [Wd.varF_high f n h];simp;exact Wd.varF_len f _
def frameB (t:ByteArray):ByteArray:=⟨(Wd.varF 5 t.size).toArray⟩ ++ ⟨(four (sumB 4294967295 t)).toArray⟩ ++ t
theorem frameB_list (t:ByteArray):(frameB t).data.toList=Wd.varF 5 t.size ++ four (sumB 4294967295 t) ++ t.data.toList:=by
 unfold frameB
 simp
theorem frameB_size (t:ByteArray):(frameB t).size=(Wd.varF 5 t.size).length+4+t.size:=by
 unfold frameB
 rw [ByteArray.size_append,ByteArray.size_append]
 rfl
def frB (s:ByteArray) (i:Nat):Option (Nat × Nat) :=
 match Wd.rv s i with
 | none => none
 | some (n,p) => if 1≤n∧n≤9000∧p+4+n≤s.size∧s.extract p (p+4)=⟨(four (sumB 4294967295 (s.extract (p+4) (p+4+n)))).toArray⟩ then some (p+4,p+4+n) else none
theorem frB_num (s:ByteArray) (i:Nat) (h:Wd.rv s i=none):frB s i=none:=by unfold frB;rw [h]
theorem frB_no (s:ByteArray) (i n p:Nat) (h:Wd.rv s i=some (n,p)) (hc:¬ (1≤n∧n≤9000∧p+4+n≤s.size∧s.extract p (p+4)=⟨(four (sumB 4294967295 (s.extract (p+4) (p+4+n)))).toArray⟩)):frB s i=none:=by
 unfold frB;rw [h];exact if_neg hc
theorem frB_yes (s:ByteArray) (i n p:Nat) (h:Wd.rv s i=some (n,p)) (hc:1≤n∧n≤9000∧p+4+n≤s.size∧s.extract p (p+4)=⟨(four (sumB 4294967295 (s.extract (p+4) (p+4+n)))).toArray⟩):frB s i=some (p+4,p+4+n):=by
 unfold frB;rw [h];exact if_pos hc
theorem frB_bounds (s:ByteArray) (i:Nat) (x:Nat × Nat) (h:frB s i=some x):i+4 < x.1∧x.1 < x.2∧x.2≤s.size:=by
 cases hr:Wd.rv s i with
 | none => rw [frB_num s i hr] at h;simp at h
 | some q =>
  obtain ⟨n,p⟩:=q
  have hb:=Wd.rv_bounds s i n p hr
  by_cases hc:1≤n∧n≤9000∧p+4+n≤s.size∧s.extract p (p+4)=⟨(four (sumB 4294967295 (s.extract (p+4) (p+4+n)))).toArray⟩
  ·
   rw [frB_yes s i n p hr hc] at h
   simp only [Option.some.injEq] at h
   subst h
   have:=hc.1
   have:=hc.2.2.1
   refine ⟨?_,?_,?_⟩ <;> dsimp only <;> omega
  · rw [frB_no s i n p hr hc] at h;simp at h
def frs (s:ByteArray):Nat→Nat→List (Nat × Nat)
 | 0,_ => []
 | f+1,i => match frB s i with
  | none => []
  | some x => x :: frs s f x.2
theorem frs_none (s:ByteArray) (f i:Nat) (h:frB s i=none):frs s f i=[]:=by
 cases f with
 | zero => rfl
 | succ f => unfold frs;rw [h]
theorem frs_some (s:ByteArray) (f i:Nat) (x:Nat × Nat) (h:frB s i=some x):frs s (f+1) i=x :: frs s f x.2:=by
 conv => lhs;unfold frs
 rw [h]
theorem frs_len (s:ByteArray):∀ f i,(frs s f i).length≤f
 | 0,_ => by simp [frs]
 | f+1,i => by
  cases h:frB s i with
  | none => rw [frs_none s _ i h];simp
  | some x => rw [frs_some s f i x h];simp;exact frs_len s f x.2
theorem frs_same (s:ByteArray):∀ f g i,s.size < f+i→s.size < g+i→frs s f i=frs s g i
 | 0,g,i,hf,_ => by
  have:frB s i=none:=frB_num s i (Wd.rv_at_end s i (by omega))
  rw [frs_none s _ i this,frs_none s _ i this]
 | f+1,g,i,hf,hg => by
  cases h:frB s i with
  | none => rw [frs_none s _ i h,frs_none s _ i h]
  | some x =>
   have hb:=frB_bounds s i x h
   cases g with
   | zero => omega
   | succ g => rw [frs_some s f i x h,frs_some s g i x h,frs_same s f g x.2 (by omega) (by omega)]
def unf (s:ByteArray):List (Nat × Nat):=if s.size≤20000 then frs s (s.size+1) 0 else []
def endOf (l:List (Nat × Nat)):Nat:=match l.getLast? with
 | some x => x.2
 | none => 0
theorem endOf_snoc (l:List (Nat × Nat)) (x:Nat × Nat):endOf (l ++ [x])=x.2:=by simp [endOf]
def recs (s:ByteArray) (l:List (Nat × Nat)):List (List UInt8):=l.map fun x => (s.extract x.1 x.2).data.toList
theorem recs_snoc (s:ByteArray) (l:List (Nat × Nat)) (x:Nat × Nat):recs s (l ++ [x])=recs s l ++ [(s.extract x.1 x.2).data.toList]:=by simp [recs]
theorem recs_len (s:ByteArray) (l:List (Nat × Nat)):(recs s l).length=l.length:=by simp [recs]
theorem unf_len (s:ByteArray):(unf s).length≤20001:=by
 unfold unf
 split
 · have:=frs_len s (s.size+1) 0;omega
 · simp
theorem cut_three (s:ByteArray) (i p n:Nat) (h1:i≤p):(s.extract i (p+4+n)).data.toList=(s.extract i p).data.toList ++ (s.extract p (p+4)).data.toList ++ (s.extract (p+4) (p+4+n)).data.toList:=by
 have e:∀ a b c,a≤b→b≤c→(s.extract a c).data.toList=(s.extract a b).data.toList ++ (s.extract b c).data.toList:=by
  intro a b c hab hbc
  simp only [ByteArray.data_extract,Array.toList_extract,List.extract_eq_take_drop]
  rw [show c - a=(b - a)+(c - b) by omega,List.take_add,List.drop_drop,show a+(b - a)=b by omega]
 rw [e i p (p+4+n) h1 (by omega),e p (p+4) (p+4+n) (by omega) (by omega),List.append_assoc]
theorem frame_test (s:ByteArray) (i n p:Nat) (h:Wd.rv s i=some (n,p)) (hp:p+4+n≤s.size) :
  frameB (s.extract (p+4) (p+4+n))=s.extract i (p+4+n) ↔ s.extract p (p+4)=⟨(four (sumB 4294967295 (s.extract (p+4) (p+4+n)))).toArray⟩:=by
 obtain ⟨hc,hi,_⟩:=Wd.rv_canon s i n p h
 have hz:(s.extract (p+4) (p+4+n)).size=n:=by rw [ByteArray.size_extract];omega
 have ext:∀ a b:ByteArray,a=b ↔ a.data.toList=b.data.toList:=fun a b => ⟨fun e => by rw [e],fun e => ByteArray.ext (Array.toList_inj.1 e)⟩
 rw [ext,ext,frameB_list,hz,cut_three s i p n (by omega),hc]
 constructor
 ·
  intro e
  exact (List.append_cancel_left (List.append_cancel_right e)).symm
 ·
  intro e
  rw [e]
theorem l01Var_any (n:Nat) (w:World) (h1:n < 34359738368) :
  Calls Tryz.prog 73 #[.int .i64 n] w fun e w' => e=.returned (.string ⟨(Wd.varF 5 n).toArray⟩)∧Below w.heap.size w w':=by
 go_enter Tryz.func73,Tryz.ntmps73
 go_wp2
 go_loopw [0,3] (fun t v wr => ∃ (f m:Nat) (acc:List UInt8),t=.int .i64 m∧m < 128 ^ (f+1)∧m < 34359738368∧acc.length+f=4∧wr.ownsRow w.heap.size 5 1 v acc.length (acc.map bv)∧Hid (acc ++ Wd.varF (f+1) m=Wd.varF 5 n)∧Below w.heap.size w wr) (fun t _ _ => (intOf t).toNat)
 case atStart =>
  refine ⟨4,n,[],rfl,by omega,h1,rfl,?_,rfl,(Below.refl _ _).alloc (Nat.le_refl _) _⟩
  exact World.ownsRow_lit w #[] 0 (Nat.le_refl _) (by unfold maxLen;omega) (by simp)
 case round =>
  obtain ⟨f,m,acc,rfl,hm,hm2,hl,hown,hacc,hb⟩:=hrel
  by_cases hlt:127 < m
  ·
   obtain ⟨f,rfl⟩:∃ g,f=g+1:=by
    cases f with
    | zero => simp at hm;omega
    | succ g => exact ⟨g,rfl⟩
   have hbs:=hb.size
   have hfac:Hid (Wd.varF (f+1+1) m=UInt8.ofNat (m % 128+128) :: Wd.varF (f+1) (m / 128)):=Wd.varF_high _ _ (by omega)
   have hdiv:=Wd.div_lt_pow _ _ hm
   obtain ⟨b,hbb,hbn⟩:∃ b:UInt8,Hid (b=UInt8.ofNat (m % 128+128))∧Hid ((m:Int) % 128+128=(b.toNat:Int)):=⟨_,rfl,by simp only [Hid,UInt8.toNat_ofNat'];omega⟩
   go_wp2_with (at_builtin;refine app_bytes wr 133 5 Tryz.underlying133 Tryz.info5 w w.heap.size rfl _ _ rfl _ acc [b] rfl hown rfl (by simp [bv,hbn.out]) (by simp;omega) hb hbs ?_;intro v' w1 hown1 hb1 hs1)
   go_roundw
   case rel =>
    refine ⟨f,m / 128,acc ++ [b],by go_num,hdiv,by omega,by simp;omega,hown1,?_,hb1⟩
    show _=_
    rw [← hacc.out,hfac.out,← hbb.out];simp
   case measure => simp [intOf];omega
  ·
   have hbs:=hb.size
   have hfac:Hid (Wd.varF (f+1) m=[UInt8.ofNat m]):=Wd.varF_low _ _ (by omega)
   obtain ⟨b,hbb,hbn⟩:∃ b:UInt8,Hid (b=UInt8.ofNat m)∧Hid ((m:Int)=(b.toNat:Int)):=⟨_,rfl,by simp only [Hid,UInt8.toNat_ofNat'];omega⟩
   go_wp2_with (at_builtin;refine app_bytes wr 133 5 Tryz.underlying133 Tryz.info5 w w.heap.size rfl _ _ rfl _ acc [b] rfl hown rfl (by simp [bv,hbn.out]) (by simp;omega) hb hbs ?_;intro v' w1 hown1 hb1 hs1;have hcv:=conv_own 133 5 9 Tryz.underlying133 Tryz.underlying5 Tryz.underlying9 w1 _ _ _ hown1)
   go_ret
   rw [← hacc.out,hfac.out,← hbb.out]
   exact ⟨rfl,hb1⟩
theorem l01Var_int (n:Int) (w:World) (h0:0≤n) (h1:n < 34359738368) :
  Calls Tryz.prog 73 #[.int .i64 n] w fun e w' => e=.returned (.string ⟨(Wd.varF 5 n.toNat).toArray⟩)∧Below w.heap.size w w':=by
 obtain ⟨m,rfl⟩:=Int.eq_ofNat_of_zero_le h0
 exact l01Var_any m w (by omega)
theorem cut_run (s:ByteArray) (i P:Nat) (h1:i≤P+1) (h2:P < s.size):∀ W:World,(Instr.slice 9 (.string s) (some (.int .i64 (i:Int))) (some (.int .i64 ((P:Int)+1))) none).run Tryz.prog W=.ok (.string (s.extract i (P+1))) W:=by
 intro W
 have:=run_slice_string (P:=Tryz.prog) W 9 s .i64 .i64 (i:Int) ((P:Int)+1) Tryz.underlying9 (by omega) (by omega) (by omega)
 rw [this,Int.toNat_natCast,show ((P:Int)+1).toNat=P+1 from by omega]
theorem canon_test (s:ByteArray) (i P k m b Q:Nat) (hPk:P=i+k) (hm:m=Wd.valF s i k) (hall:∀ j,j < k→128≤Wd.bt s (i+j)) (hB:Wd.bt s P=b) (hb:b < 128) (hlt:P < s.size) (hk:k < 5) (hQ:Q=128 ^ k) :
  ∀ N,N=m+b % 128 * Q→(Wd.varF 5 N == (s.extract i (P+1)).toList)=decide (0 < b ∨ k=0):=by
 intro N hN
 subst hPk hm hB hQ
 have e1:N=Wd.valF s i (k+1):=by rw [hN,Wd.valF_snoc]
 have e2:(s.extract i (i+k+1)).toList=Wd.subF s i (k+1):=by
  rw [show i+k+1=i+(k+1) from by omega,ByteArray.toList_eq,Wd.subF_extract s i (k+1) (by omega)]
 rw [e1,e2,Bool.eq_iff_iff,beq_iff_eq,decide_eq_true_iff]
 exact Wd.canonF s k i 5 hall hb (by omega)
theorem val_more (s:ByteArray) (i P k m b:Nat) (hPk:P=i+k) (hm:m=Wd.valF s i k) (hB:Wd.bt s P=b):m+b % 128 * 128 ^ k=Wd.valF s i (k+1):=by
 subst hPk hm hB;rw [Wd.valF_snoc]
theorem all_more (s:ByteArray) (i P k b:Nat) (hPk:P=i+k) (hall:∀ j,j < k→128≤Wd.bt s (i+j)) (hB:Wd.bt s P=b) (hb:128≤b):∀ j,j < k+1→128≤Wd.bt s (i+j):=by
 intro j hj
 by_cases h:j < k
 · exact hall j h
 ·
  have:j=k:=by omega
  subst this hPk;omega
theorem specRead_out (s:ByteArray) (i:Int) (w:World) (hs:s.size≤1048576) (h:i < 0 ∨ (s.size:Int) < i) :
  Calls Tryz.prog 107 #[.string s,.int .i64 i] w fun e w' => e=.returned (rvAns none)∧w' = w:=by
 rcases h with h | h
 ·
  have h':decide (0≤i)=false:=by simp;omega
  go_enter Tryz.func107,Tryz.ntmps107
  go_wp2
  go_ret3
  exact ⟨rfl,rfl⟩
 ·
  have h':0≤i:=by omega
  have h2:decide (i≤(s.size:Int))=false:=by simp;omega
  go_enter Tryz.func107,Tryz.ntmps107
  go_wp2
  go_ret3
  exact ⟨rfl,rfl⟩
theorem specRead_in (s:ByteArray) (i:Nat) (w:World) (hs:s.size≤1048576) (h:i≤s.size) :
  Calls Tryz.prog 107 #[.string s,.int .i64 i] w fun e w' => e=.returned (rvAns (Wd.rv s i))∧Below w.heap.size w w':=by
 have h0:decide ((0:Int)≤(i:Int))=true:=by simp
 have h1:decide ((i:Int)≤(s.size:Int))=true:=by simp;omega
 go_enter Tryz.func107,Tryz.ntmps107
 go_wp2
 go_loop [7,8,9] (fun n q p => ∃ k f Q m P:Nat,n=.int .i64 m∧q=.int .i64 Q∧p=.int .i64 P∧P≤s.size∧Hid (Wd.rv s i=Wd.rvF s f P k Q m)∧Hid (P=i+k)∧Hid (m=Wd.valF s i k)∧Hid (∀ j,j < k→128≤Wd.bt s (i+j))∧((k=0∧f=5∧Q=1∧m=0) ∨ (k=1∧f=4∧Q=128∧m < 128) ∨ (k=2∧f=3∧Q=16384∧m < 16384) ∨ (k=3∧f=2∧Q=2097152∧m < 2097152) ∨ (k=4∧f=1∧Q=268435456∧m < 268435456) ∨ (k=5∧f=0∧Q=34359738368∧m < 34359738368))) (fun _ _ p => s.size - (intOf p).toNat)
 case atStart => exact ⟨0,5,1,0,i,rfl,rfl,rfl,h,rfl,rfl,rfl,fun j hj => absurd hj (by omega),.inl ⟨rfl,rfl,rfl,rfl⟩⟩
 case round =>
  obtain ⟨k,f,Q,m,P,rfl,rfl,rfl,hP,hrv,hPk,hval,hall,hcase⟩:=hrel
  by_cases hlt:P < s.size
  ·
   obtain ⟨b,hB,hbt,hb256⟩:∃ b:Nat,Hid (Wd.bt s P=b)∧(s[P]'hlt).toNat=b∧b < 256:=⟨_,rfl,Wd.bt_eq s P hlt,Wd.bt_lt s P⟩
   by_cases hb:b < 128
   ·
    rcases hcase with ⟨rfl,rfl,rfl,rfl⟩ | ⟨rfl,rfl,rfl,hm⟩ | ⟨rfl,rfl,rfl,hm⟩ | ⟨rfl,rfl,rfl,hm⟩ | ⟨rfl,rfl,rfl,hm⟩ | ⟨rfl,rfl,rfl,hm⟩
    case inr.inr.inr.inr.inr =>
     have hfin:Hid (Wd.rv s i=none):=hrv.out.trans rfl
     have hP5:decide ((P:Int) < (i:Int)+5)=false:=by have:=hPk.out;simp;omega
     go_wp2
     go_ret3
     rw [hfin.out]
     exact ⟨rfl,Below.refl _ _⟩
    case inr.inr.inr.inr.inl =>
     have hP5:decide ((P:Int) < (i:Int)+5)=true:=by have:=hPk.out;simp;omega
     by_cases hn:m+b % 128 * 268435456≤1000000000
     ·
      have hn':decide (1000000000 < (m:Int)+(b:Int) % 128 * 268435456)=false:=by simp;omega
      have hc:=hide (canon_test s i P _ m b 268435456 hPk.out hval.out hall.out hB.out hb hlt (by omega) rfl)
      have hsl:=cut_run s i P (by have:=hPk.out;omega) hlt
      have hwr:IntKind.i64.wrap ((P:Int)+1)=(P:Int)+1:=by rw [IntKind.wrap_i64];omega
      go_wp2
      go_region_held3 (fun _ => True) (trivial) ((go_at_call 73;refine (l01Var_int _ _ (by omega) (by omega)).mono ?_;rintro e w1 ⟨rfl,hbw⟩))
      go_wp2
      ·
       have ht:=‹(!Wd.varF 5 _ == (s.extract i (P+1)).toList)=true›
       rw [hc.out _ (by omega)] at ht
       have hz:¬ (0 < b ∨ 4=0):=by simpa using ht
       have hfin:=hide (hrv.out.trans (Wd.rvF_notB hB.out hb (fun h => hz h.2)))
       go_ret3
       rw [hfin.out]
       exact ⟨rfl,(Below.refl _ _).drew.trans hbw⟩
      ·
       have ht:=‹(!Wd.varF 5 _ == (s.extract i (P+1)).toList)=false›
       rw [hc.out _ (by omega)] at ht
       have hz:0 < b ∨ 4=0:=by simpa using ht
       have hfin:=hide (hrv.out.trans (Wd.rvF_lastB hB.out hlt hb hn hz))
       go_ret3
       rw [hfin.out]
       exact ⟨ret3 (by omega) (by omega),(Below.refl _ _).drew.trans hbw⟩
     ·
      have hn':decide (1000000000 < (m:Int)+(b:Int) % 128 * 268435456)=true:=by simp;omega
      have hfin:=hide (hrv.out.trans (Wd.rvF_notB hB.out hb (fun h => hn h.1)))
      go_wp2
      go_quiet (fail)
      go_wp2
      go_ret3
      rw [hfin.out]
      exact ⟨rfl,below_drewN (Below.refl _ _) _⟩
    case inl =>
     have hP5:decide ((P:Int) < (i:Int)+5)=true:=by have:=hPk.out;simp;omega
     have hn':decide (1000000000 < (b:Int) % 128)=false:=by simp;omega
     have hc:=hide (canon_test s i P _ 0 b 1 hPk.out hval.out hall.out hB.out hb hlt (by omega) rfl)
     have hsl:=cut_run s i P (by have:=hPk.out;omega) hlt
     have hwr:IntKind.i64.wrap ((P:Int)+1)=(P:Int)+1:=by rw [IntKind.wrap_i64];omega
     go_wp2
     go_region_held3 (fun _ => True) (trivial) ((go_at_call 73;refine (l01Var_int _ _ (by omega) (by omega)).mono ?_;rintro e w1 ⟨rfl,hbw⟩))
     go_wp2
     ·
      have ht:=‹(!Wd.varF 5 _ == (s.extract i (P+1)).toList)=true›
      rw [hc.out _ (by omega)] at ht
      exact absurd ht (by simp)
     ·
      have hfin:=hide (hrv.out.trans (Wd.rvF_lastB hB.out hlt hb (by omega) (.inr rfl)))
      go_ret3
      rw [hfin.out]
      exact ⟨ret3 (by omega) (by omega),(Below.refl _ _).drew.trans hbw⟩
    case inr.inl =>
     have hP5:decide ((P:Int) < (i:Int)+5)=true:=by have:=hPk.out;simp;omega
     have hn':decide (1000000000 < (m:Int)+(b:Int) % 128 * 128)=false:=by simp;omega
     have hc:=hide (canon_test s i P _ m b 128 hPk.out hval.out hall.out hB.out hb hlt (by omega) rfl)
     have hsl:=cut_run s i P (by have:=hPk.out;omega) hlt
     have hwr:IntKind.i64.wrap ((P:Int)+1)=(P:Int)+1:=by rw [IntKind.wrap_i64];omega
     go_wp2
     go_region_held3 (fun _ => True) (trivial) ((go_at_call 73;refine (l01Var_int _ _ (by omega) (by omega)).mono ?_;rintro e w1 ⟨rfl,hbw⟩))
     go_wp2
     ·
      have ht:=‹(!Wd.varF 5 _ == (s.extract i (P+1)).toList)=true›
      rw [hc.out _ (by omega)] at ht
      have hz:¬ (0 < b ∨ 1=0):=by simpa using ht
      have hfin:=hide (hrv.out.trans (Wd.rvF_notB hB.out hb (fun h => hz h.2)))
      go_ret3
      rw [hfin.out]
      exact ⟨rfl,(Below.refl _ _).drew.trans hbw⟩
     ·
      have ht:=‹(!Wd.varF 5 _ == (s.extract i (P+1)).toList)=false›
      rw [hc.out _ (by omega)] at ht
      have hz:0 < b ∨ 1=0:=by simpa using ht
      have hfin:=hide (hrv.out.trans (Wd.rvF_lastB hB.out hlt hb (by omega) hz))
      go_ret3
      rw [hfin.out]
      exact ⟨ret3 (by omega) (by omega),(Below.refl _ _).drew.trans hbw⟩
    case inr.inr.inl =>
     have hP5:decide ((P:Int) < (i:Int)+5)=true:=by have:=hPk.out;simp;omega
     have hn':decide (1000000000 < (m:Int)+(b:Int) % 128 * 16384)=false:=by simp;omega
     have hc:=hide (canon_test s i P _ m b 16384 hPk.out hval.out hall.out hB.out hb hlt (by omega) rfl)
     have hsl:=cut_run s i P (by have:=hPk.out;omega) hlt
     have hwr:IntKind.i64.wrap ((P:Int)+1)=(P:Int)+1:=by rw [IntKind.wrap_i64];omega
     go_wp2
     go_region_held3 (fun _ => True) (trivial) ((go_at_call 73;refine (l01Var_int _ _ (by omega) (by omega)).mono ?_;rintro e w1 ⟨rfl,hbw⟩))
     go_wp2
     ·
      have ht:=‹(!Wd.varF 5 _ == (s.extract i (P+1)).toList)=true›
      rw [hc.out _ (by omega)] at ht
      have hz:¬ (0 < b ∨ 2=0):=by simpa using ht
      have hfin:=hide (hrv.out.trans (Wd.rvF_notB hB.out hb (fun h => hz h.2)))
      go_ret3
      rw [hfin.out]
      exact ⟨rfl,(Below.refl _ _).drew.trans hbw⟩
     ·
      have ht:=‹(!Wd.varF 5 _ == (s.extract i (P+1)).toList)=false›
      rw [hc.out _ (by omega)] at ht
      have hz:0 < b ∨ 2=0:=by simpa using ht
      have hfin:=hide (hrv.out.trans (Wd.rvF_lastB hB.out hlt hb (by omega) hz))
      go_ret3
      rw [hfin.out]
      exact ⟨ret3 (by omega) (by omega),(Below.refl _ _).drew.trans hbw⟩
    case inr.inr.inr.inl =>
     have hP5:decide ((P:Int) < (i:Int)+5)=true:=by have:=hPk.out;simp;omega
     have hn':decide (1000000000 < (m:Int)+(b:Int) % 128 * 2097152)=false:=by simp;omega
     have hc:=hide (canon_test s i P _ m b 2097152 hPk.out hval.out hall.out hB.out hb hlt (by omega) rfl)
     have hsl:=cut_run s i P (by have:=hPk.out;omega) hlt
     have hwr:IntKind.i64.wrap ((P:Int)+1)=(P:Int)+1:=by rw [IntKind.wrap_i64];omega
     go_wp2
     go_region_held3 (fun _ => True) (trivial) ((go_at_call 73;refine (l01Var_int _ _ (by omega) (by omega)).mono ?_;rintro e w1 ⟨rfl,hbw⟩))
     go_wp2
     ·
      have ht:=‹(!Wd.varF 5 _ == (s.extract i (P+1)).toList)=true›
      rw [hc.out _ (by omega)] at ht
      have hz:¬ (0 < b ∨ 3=0):=by simpa using ht
      have hfin:=hide (hrv.out.trans (Wd.rvF_notB hB.out hb (fun h => hz h.2)))
      go_ret3
      rw [hfin.out]
      exact ⟨rfl,(Below.refl _ _).drew.trans hbw⟩
     ·
      have ht:=‹(!Wd.varF 5 _ == (s.extract i (P+1)).toList)=false›
      rw [hc.out _ (by omega)] at ht
      have hz:0 < b ∨ 3=0:=by simpa using ht
      have hfin:=hide (hrv.out.trans (Wd.rvF_lastB hB.out hlt hb (by omega) hz))
      go_ret3
      rw [hfin.out]
      exact ⟨ret3 (by omega) (by omega),(Below.refl _ _).drew.trans hbw⟩
   ·
    rcases hcase with ⟨rfl,rfl,rfl,rfl⟩ | ⟨rfl,rfl,rfl,hm⟩ | ⟨rfl,rfl,rfl,hm⟩ | ⟨rfl,rfl,rfl,hm⟩ | ⟨rfl,rfl,rfl,hm⟩ | ⟨rfl,rfl,rfl,hm⟩
    case inr.inr.inr.inr.inr =>
     have hfin:Hid (Wd.rv s i=none):=hrv.out.trans rfl
     have hP5:decide ((P:Int) < (i:Int)+5)=false:=by have:=hPk.out;simp;omega
     go_wp2
     go_ret3
     rw [hfin.out]
     exact ⟨rfl,Below.refl _ _⟩
    all_goals
     have hP5:decide ((P:Int) < (i:Int)+5)=true:=by have:=hPk.out;simp;omega
     have hmore:=hide (hrv.out.trans (Wd.rvF_moreB hB.out hlt hb))
     have hval':=hide (val_more s i P _ _ b hPk.out hval.out hB.out)
     have hall':=hide (all_more s i P _ b hPk.out hall.out hB.out (by omega))
     go_wp2
     go_round
     case rel =>
      refine ⟨_,_,_,_,P+1,?_,?_,by go_num,by omega,hmore,by have:=hPk.out;show _=_;omega,hval',hall',?_⟩
      · go_num
      · go_num
      · simp;try omega
     case measure => simp [intOf];omega
  ·
   have hfin:Hid (Wd.rv s i=none):=hrv.out.trans (Wd.rvF_end _ _ _ _ _ _ hlt)
   go_wp2
   go_ret3
   rw [hfin.out]
   exact ⟨rfl,Below.refl _ _⟩
theorem specRead_any (s:ByteArray) (i:Int) (w:World) (hs:s.size≤1048576) :
  Calls Tryz.prog 107 #[.string s,.int .i64 i] w fun e w' => e=.returned (rvAns (Wd.rvI s i))∧Below w.heap.size w w':=by
 by_cases h:i < 0 ∨ (s.size:Int) < i
 ·
  rw [show Wd.rvI s i=none from if_pos h]
  exact (specRead_out s i w hs h).mono fun e w' ⟨he,hw⟩ => ⟨he,hw ▸ Below.refl _ _⟩
 ·
  rw [show Wd.rvI s i=Wd.rv s i.toNat from if_neg h]
  obtain ⟨k,rfl⟩:=Int.eq_ofNat_of_zero_le (show 0≤i by omega)
  exact specRead_in s k w hs (by omega)
theorem specRead_some (s:ByteArray) (i:Int) (w:World) (a b:Nat) (hs:s.size≤1048576) (h:Wd.rvI s i=some (a,b)) :
  Calls Tryz.prog 107 #[.string s,.int .i64 i] w fun e w' => e=.returned (.tuple #[.int .i64 a,.int .i64 b,.bool true])∧Below w.heap.size w w':=by
 have:=specRead_any s i w hs;rw [h] at this;exact this
theorem specRead_none (s:ByteArray) (i:Int) (w:World) (hs:s.size≤1048576) (h:Wd.rvI s i=none) :
  Calls Tryz.prog 107 #[.string s,.int .i64 i] w fun e w' => e=.returned (.tuple #[.int .i64 0,.int .i64 0,.bool false])∧Below w.heap.size w w':=by
 have:=specRead_any s i w hs;rw [h] at this;exact this
theorem cut_at (s:ByteArray) (a b:Nat) (ai bi:Int) (R:ByteArray) (ha:ai=a) (hb:bi=b) (h1:a≤b) (h2:b≤s.size) (hR:s.extract a b=R) :
  ∀ W:World,(Instr.slice 9 (.string s) (some (.int .i64 ai)) (some (.int .i64 bi)) none).run Tryz.prog W=.ok (.string R) W:=by
 intro W
 subst ha hb hR
 have:=run_slice_string (P:=Tryz.prog) W 9 s .i64 .i64 (a:Int) (b:Int) Tryz.underlying9 (by omega) (by omega) (by omega)
 rw [this,Int.toNat_natCast,Int.toNat_natCast]
theorem txt_eq {a b:ByteArray} (h:a=b):(a.toList == b.toList)=true:=by rw [h];exact beq_self_eq_true _
theorem txt_ne {a b:ByteArray} (h:a ≠ b):(a.toList == b.toList)=false:=by
 rw [beq_eq_false_iff_ne,ByteArray.toList_eq,ByteArray.toList_eq]
 intro e
 exact h (ByteArray.ext (Array.toList_inj.1 e))
def CurB (w:World) (g:Nat) (t:ByteArray) (i:Nat) (bad:Bool):Prop:=w.heap[g]? = some (.cells #[.string t,.int .i64 (i:Int),.bool bad] 180 (0,0))
def varC (t:ByteArray) (i:Nat) (bad:Bool):Nat × Nat × Bool :=
 match bad,Wd.rv t i with
 | false,some (n,p) => (n,p,false)
 | _,_ => (0,i,true)
def takeC (t:ByteArray) (n i:Nat) (bad:Bool):ByteArray × Nat × Bool :=
 if bad=true ∨ t.size < i+n then (⟨#[]⟩,i,true) else (t.extract i (i+n),i+n,false)
def shortC (t:ByteArray) (i:Nat) (bad:Bool):ByteArray × Nat × Bool:=takeC t (varC t i bad).1 (varC t i bad).2.1 (varC t i bad).2.2
theorem varC_le {t:ByteArray} {i:Nat} (bad:Bool) (h:i≤t.size):(varC t i bad).2.1≤t.size∧(varC t i bad).1≤1000000000:=by
 unfold varC
 split
 ·
  rename_i n p hr
  have:=Wd.rv_bounds t i n p hr
  exact ⟨this.2.2,this.1⟩
 · exact ⟨h,Nat.zero_le _⟩
theorem takeC_le {t:ByteArray} {n i:Nat} (bad:Bool) (h:i≤t.size):(takeC t n i bad).2.1≤t.size∧(takeC t n i bad).1.size≤t.size:=by
 unfold takeC
 split
 · exact ⟨h,Nat.zero_le _⟩
 ·
  rename_i hc
  rw [ByteArray.size_extract]
  exact ⟨show i+n≤t.size by omega,by omega⟩
theorem curB_cells {w:World} {g:Nat} {t:ByteArray} {i:Nat} {bad:Bool} (h:CurB w g t i bad):w.cell? ⟨g,0,none⟩=some (.string t)∧w.cell? ⟨g,1,none⟩=some (.int .i64 (i:Int))∧w.cell? ⟨g,2,none⟩=some (.bool bad) :=
 ⟨(cell_of_row w g 0 _ _ (0,0) h).trans rfl,(cell_of_row w g 1 _ _ (0,0) h).trans rfl,(cell_of_row w g 2 _ _ (0,0) h).trans rfl⟩
theorem curB_lt {w:World} {g:Nat} {t:ByteArray} {i:Nat} {bad:Bool} (h:CurB w g t i bad):g < w.heap.size:=(Array.getElem?_eq_some_iff.1 h).1
theorem curB_below {w w':World} {g:Nat} {t:ByteArray} {i:Nat} {bad:Bool} (h:CurB w g t i bad) (hb:Below w.heap.size w w'):CurB w' g t i bad:=(hb.block g (curB_lt h)).trans h
theorem l05Var_any (t:ByteArray) (g i:Nat) (bad:Bool) (w:World) (ht:t.size≤1048576) (hi:i≤t.size) (h:CurB w g t i bad) :
  Calls Tryz.prog 109 #[.pointer (some ⟨g,0,none⟩)] w fun e w' => e=.returned (.int .i64 ((varC t i bad).1:Int))∧CurB w' g t (varC t i bad).2.1 (varC t i bad).2.2∧w.grownBy w' (some g):=by
 have HC:=hide h
 have hg:=curB_lt h
 obtain ⟨hc0,hc1,hc2⟩:=curB_cells h
 clear h
 cases hr:Wd.rv t i with
 | none =>
  have HV:Hid (varC t i bad=(0,i,true)):=by show _=_;unfold varC;rw [hr];cases bad <;> rfl
  have HR:Hid (∀ W,Calls Tryz.prog 107 #[.string t,.int .i64 (i:Int)] W fun e w' => e=.returned (.tuple #[.int .i64 0,.int .i64 0,.bool false])∧Below W.heap.size W w'):=fun W => by have h:=specRead_in t i W ht hi;rw [hr] at h;exact h
  rw [HV.out]
  clear hr
  cases bad <;>
  ·
   go_enter Tryz.func109,Tryz.ntmps109
   go_wp2_with fail
   go_region_held3 (fun w' => w'.cell? ⟨g,0,none⟩=some (.string t)∧w'.cell? ⟨g,1,none⟩=some (.int .i64 (i:Int))) (first | (go_keep;done) | (exact ⟨(B2.out.cell (p:=⟨g,0,none⟩) hg).trans hc0,(B2.out.cell (p:=⟨g,1,none⟩) hg).trans hc1⟩) | fail) ((first | (go_at_call 107;refine (HR.out _).mono ?_;rintro e w2 ⟨rfl,b2⟩;have B2:Hid (Below w.heap.size w w2):=(Below.refl _ _).drew.trans b2;clear b2) | fail))
   have HC2:=hide (curB_below HC.out B2.out)
   obtain ⟨_,_,hd2⟩:=curB_cells HC2.out
   have hf2:=frozen_of_row w2 g 2 _ _ HC2.out
   go_wp2
   go_ret
   exact ⟨rfl,(heap_setCell_same _ g _ _ _ _ HC2.out).trans rfl,grownBy_store (grownBy_below _ B2.out) 2 _⟩
 | some x =>
  obtain ⟨n,p⟩:=x
  have HR:Hid (∀ W,Calls Tryz.prog 107 #[.string t,.int .i64 (i:Int)] W fun e w' => e=.returned (.tuple #[.int .i64 (n:Int),.int .i64 (p:Int),.bool true])∧Below W.heap.size W w'):=fun W => by have h:=specRead_in t i W ht hi;rw [hr] at h;exact h
  cases bad
  ·
   have HV:Hid (varC t i false=(n,p,false)):=by show _=_;unfold varC;rw [hr]
   rw [HV.out]
   clear hr
   go_enter Tryz.func109,Tryz.ntmps109
   go_wp2_with fail
   go_region_held3 (fun w' => w'.cell? ⟨g,0,none⟩=some (.string t)∧w'.cell? ⟨g,1,none⟩=some (.int .i64 (i:Int))) (first | (go_keep;done) | (exact ⟨(B2.out.cell (p:=⟨g,0,none⟩) hg).trans hc0,(B2.out.cell (p:=⟨g,1,none⟩) hg).trans hc1⟩) | fail) ((first | (go_at_call 107;refine (HR.out _).mono ?_;rintro e w2 ⟨rfl,b2⟩;have B2:Hid (Below w.heap.size w w2):=(Below.refl _ _).drew.trans b2;clear b2) | fail))
   have HC2:=hide (curB_below HC.out B2.out)
   obtain ⟨_,hd1,hd2⟩:=curB_cells HC2.out
   have hf1:=frozen_of_row w2 g 1 _ _ HC2.out
   go_wp2
   go_ret
   exact ⟨rfl,(heap_setCell_same _ g _ _ _ _ HC2.out).trans rfl,grownBy_store (grownBy_below _ B2.out) 1 _⟩
  ·
   have HV:Hid (varC t i true=(0,i,true)):=by show _=_;unfold varC;rw [hr]
   rw [HV.out]
   clear hr
   go_enter Tryz.func109,Tryz.ntmps109
   go_wp2_with fail
   go_region_held3 (fun w' => w'.cell? ⟨g,0,none⟩=some (.string t)∧w'.cell? ⟨g,1,none⟩=some (.int .i64 (i:Int))) (first | (go_keep;done) | (exact ⟨(B2.out.cell (p:=⟨g,0,none⟩) hg).trans hc0,(B2.out.cell (p:=⟨g,1,none⟩) hg).trans hc1⟩) | fail) ((first | (go_at_call 107;refine (HR.out _).mono ?_;rintro e w2 ⟨rfl,b2⟩;have B2:Hid (Below w.heap.size w w2):=(Below.refl _ _).drew.trans b2;clear b2) | fail))
   have HC2:=hide (curB_below HC.out B2.out)
   obtain ⟨_,_,hd2⟩:=curB_cells HC2.out
   have hf2:=frozen_of_row w2 g 2 _ _ HC2.out
   go_wp2
   go_ret
   exact ⟨rfl,(heap_setCell_same _ g _ _ _ _ HC2.out).trans rfl,grownBy_store (grownBy_below _ B2.out) 2 _⟩
theorem l05Take_any (t:ByteArray) (g n i:Nat) (bad:Bool) (w:World) (ht:t.size≤1048576) (hi:i≤t.size) (hn:n≤1000000000) (h:CurB w g t i bad) :
  Calls Tryz.prog 108 #[.pointer (some ⟨g,0,none⟩),.int .i64 (n:Int)] w fun e w' => e=.returned (.string (takeC t n i bad).1)∧CurB w' g t (takeC t n i bad).2.1 (takeC t n i bad).2.2∧w.grownBy w' (some g):=by
 have HC:=hide h
 obtain ⟨hc0,hc1,hc2⟩:=curB_cells h
 have hf1:=frozen_of_row w g 1 _ _ h
 have hf2:=frozen_of_row w g 2 _ _ h
 have hw:IntKind.i64.wrap ((t.size:Int) - (i:Int))=(t.size:Int) - (i:Int):=by rw [IntKind.wrap_i64];omega
 clear h
 by_cases hc:bad=true ∨ t.size < i+n
 ·
  have HV:Hid (takeC t n i bad=(⟨#[]⟩,i,true)):=by show _=_;unfold takeC;rw [if_pos hc]
  rw [HV.out]
  cases bad
  ·
   have hlt:decide ((t.size:Int) - (i:Int) < (n:Int))=true:=by simp at hc;simp;omega
   clear hc
   go_enter Tryz.func108,Tryz.ntmps108
   go_wp2_with fail
   go_quiet (fail)
   go_wp2
   go_ret
   exact ⟨rfl,(heap_setCell_same _ g _ _ _ _ HC.out).trans rfl,grownBy_store (grownBy_below _ (below_drewN (Below.refl _ w) _)) 2 _⟩
  ·
   clear hc
   go_enter Tryz.func108,Tryz.ntmps108
   go_wp2_with fail
   go_quiet (fail)
   go_wp2
   go_ret
   exact ⟨rfl,(heap_setCell_same _ g _ _ _ _ HC.out).trans rfl,grownBy_store (grownBy_below _ (below_drewN (Below.refl _ w) _)) 2 _⟩
 ·
  have HV:Hid (takeC t n i bad=(t.extract i (i+n),i+n,false)):=by show _=_;unfold takeC;rw [if_neg hc]
  rw [HV.out]
  obtain rfl:bad=false:=by cases bad <;> simp at hc ⊢
  obtain ⟨P,hP⟩:∃ P:Nat,P=i+n:=⟨_,rfl⟩
  rw [← hP]
  have hlt:decide ((t.size:Int) - (i:Int) < (n:Int))=false:=by simp at hc;simp;omega
  have hw2:IntKind.i64.wrap ((i:Int)+(n:Int))=(P:Int):=by rw [IntKind.wrap_i64];omega
  have hw3:IntKind.i64.wrap ((P:Int) - (n:Int))=(i:Int):=by rw [IntKind.wrap_i64];omega
  obtain ⟨R,hR⟩:∃ R,t.extract i P=R:=⟨_,rfl⟩
  have hcut:=cut_at t i P (i:Int) (P:Int) R rfl rfl (by omega) (by simp at hc;omega) hR
  rw [hR]
  have HP:=hide hP
  clear hc hP hR
  go_enter Tryz.func108,Tryz.ntmps108
  go_wp2_with fail
  go_quiet (fail)
  go_wp2_with fail
  go_quiet (fail)
  go_wp2
  go_ret
  exact ⟨rfl,(heap_setCell_same _ g _ _ _ _ HC.out).trans rfl,grownBy_trans (grownBy_store (grownBy_below _ (below_drewN (Below.refl _ w) _)) 1 _) (grownBy_below _ (below_drewN (Below.refl _ _) _))⟩
theorem l05ReadShort_any (t:ByteArray) (g i:Nat) (bad:Bool) (w:World) (ht:t.size≤1048576) (hi:i≤t.size) (h:CurB w g t i bad) :
  Calls Tryz.prog 110 #[.pointer (some ⟨g,0,none⟩)] w fun e w' => e=.returned (.string (shortC t i bad).1)∧CurB w' g t (shortC t i bad).2.1 (shortC t i bad).2.2∧w.grownBy w' (some g):=by
 have HC:=hide h
 clear h
 have hv:=varC_le bad hi
 have hcall:=hide (fun W (hW:CurB W g t i bad) => l05Var_any t g i bad W ht hi hW)
 obtain ⟨x,HX⟩:∃ x,Hid (varC t i bad=x):=⟨_,rfl⟩
 obtain ⟨n,j,b⟩:=x
 have HS:Hid (shortC t i bad=takeC t n j b):=by show _=_;unfold shortC;rw [HX.out]
 rw [HX.out] at hv hcall
 rw [HS.out]
 go_enter Tryz.func110,Tryz.ntmps110
 go_wp2_with fail
 refine (hcall.out _ HC.out).mono ?_
 rintro e w1 ⟨rfl,hc1,hg1⟩
 have H1:=hide hc1
 have G1:=hide hg1
 clear hc1 hg1
 go_wp2_with fail
 refine (l05Take_any t g n j b _ ht hv.1 hv.2 H1.out).mono ?_
 rintro e w2 ⟨rfl,hc2,hg2⟩
 have H2:=hide hc2
 have G2:=hide hg2
 clear hc2 hg2
 go_wp2
 go_ret
 exact ⟨rfl,H2.out,grownBy_trans G1.out G2.out⟩
theorem conv_byte (W:World) (b:UInt8) (z:Int) (hz:(b.toNat:Int)=z) :
  (convert 133 9 (.slice (some ⟨W.heap.size,0,none⟩) 1 1)).run Tryz.prog (W.alloc (.cells #[.int .u8 z] 5))=.ok (.string ⟨#[b]⟩) (W.alloc (.cells #[.int .u8 z] 5)):=by
 refine run_convert_bytes_back (P:=Tryz.prog) (W.alloc (.cells #[.int .u8 z] 5)) 133 9 5 ⟨W.heap.size,0,none⟩ 1 [b] Tryz.underlying133 Tryz.underlying5 Tryz.underlying9 ?_
 intro j hj
 exact cells_new W #[.int .u8 z] 5 j _ (by
  have:j=0:=by simpa using hj
  subst this
  simp [hz])
def mk (k:Nat):List UInt8:=109 :: Wd.decA 20 k []
theorem mark_any (n:Nat) (w:World) (h0:0 < n) (h1:n≤9223372036854775807) :
  Calls Tryz.prog 29 #[.int .i64 n] w fun e w' => e=.returned (.string ⟨(mk n).toArray⟩)∧Below w.heap.size w w':=by
 have hz:decide ((n:Int)≤0)=false:=by simp;omega
 go_enter Tryz.func29,Tryz.ntmps29
 go_wp2
 go_loopw [0,3] (fun t v wr => ∃ (f m:Nat) (acc:List UInt8),t=.int .i64 m∧v=.string ⟨acc.toArray⟩∧m < 10 ^ f∧m≤9223372036854775807∧acc.length+f=20∧Hid (Wd.decA f m acc=Wd.decA 20 n [])∧Below w.heap.size w wr) (fun t _ _ => (intOf t).toNat)
 case atStart => exact ⟨20,n,[],rfl,rfl,by omega,h1,rfl,rfl,Below.refl _ _⟩
 case round =>
  obtain ⟨f,m,acc,rfl,rfl,hm,hm2,hl,hacc,hb⟩:=hrel
  have hbs:=hb.size
  by_cases hlt:0 < m
  ·
   obtain ⟨f,rfl⟩:∃ g,f=g+1:=by
    cases f with
    | zero => simp at hm;omega
    | succ g => exact ⟨g,rfl⟩
   have hfac:=hide (Wd.decA_step f m acc (by omega))
   have hdiv:m / 10 < 10 ^ f:=Nat.div_lt_of_lt_mul (by rw [Nat.mul_comm,← Nat.pow_succ];exact hm)
   have hcv:=conv_byte wr (Wd.figB (m % 10)) (48+(m:Int) % 10) (by rw [Wd.figB_val _ (by omega),Wd.figI_low _ (by omega)];omega)
   go_wp2
   go_roundw
   case rel =>
    refine ⟨f,m / 10,Wd.figB (m % 10) :: acc,by go_num,congrArg Value.string (cat_list [Wd.figB (m % 10)] acc),hdiv,by omega,by simp;omega,?_,hb.alloc hbs _⟩
    show _=_
    rw [← hacc.out,hfac.out]
   case measure => simp [intOf];omega
  ·
   have hm0:m=0:=by omega
   subst hm0
   have hfin:=hide ((Wd.decA_zero f acc).symm.trans hacc.out)
   go_wp2
   go_ret
   unfold mk
   rw [← hfin.out]
   exact ⟨congrArg (fun x => Ending.returned (Value.string x)) (cat_list [109] acc),hb⟩
end Go.Proofs.YtepdckehokdjlaaGreatDoor
