import Derived.WalkKit
import Derived.WalkSpells
import Derived.WalkLawsBesides
import Derived.Outline
import Derived.Laws.IdiomStrings
import Derived.Deep.AppendLies
import Derived.Deep.RegionHeld3
import Derived.BigQuiet
import Derived.WalkSmall
import Derived.Test.YtepdckehokdjlaaGreatDoorChecked
import Derived.Laws.BitsAllLaws
import Derived.Lib.Strings
import Derived.Lib.Walk
import Derived.Lib.BufferWrite
import Derived.Lib.UnsafeStr
import Derived.Laws.MakeOwn
import Derived.Laws.OwnMore
set_option maxRecDepth 100000
set_option maxHeartbeats 1000000
namespace Go.Proofs.YtepdckehokdjlaaGreatDoor
open Go.RowKit
theorem hide {p:Prop} (h:p):Hid p:=h
def bv (b:UInt8):Value:=.int .u8 (b.toNat:Int)
theorem bv_one (l:List UInt8):∀ u ∈ l.map bv,u.oneCell' = true:=by
 intro u hu
 obtain ⟨b,_,rfl⟩:=List.mem_map.1 hu
 rfl
theorem cells_new (w:World) (C:Array Value) (t:TypeId):∀ j u,C.toList[j]? = some u→(w.alloc (.cells C t)).cell? ((⟨w.heap.size,0,none⟩:Addr).add j)=some u:=by
 intro j u h
 simp only [Array.getElem?_toList] at h
 have e:((⟨w.heap.size,0,none⟩:Addr).add j)=⟨w.heap.size,j,none⟩:=by cases j <;> simp [Addr.add]
 rw [e]
 exact (World.cell?_alloc_mark w C t (0,0) j).trans h
theorem size_alloc_drew (w:World) (o:Obj):w.heap.size≤(w.alloc o).drew.heap.size:=by simp
theorem grownBy_trans {a b c:World} {r:Option Nat} (h:a.grownBy b r) (k:b.grownBy c r):a.grownBy c r :=
 ⟨k.os.trans h.os,k.tape.trans h.tape,k.output.trans h.output,Nat.le_trans h.size k.size,fun i hi hr => (k.block i (Nat.lt_of_lt_of_le hi h.size) hr).trans (h.block i hi hr)⟩
theorem grownBy_below {a b:World} (r:Option Nat) (h:Below a.heap.size a b):a.grownBy b r:=⟨h.os,h.tape,h.output,h.size,fun k hk _ => h.block k hk⟩
theorem grownBy_store {a b:World} {g:Nat} (h:a.grownBy b (some g)) (j:Nat) (u:Value):a.grownBy (b.setCell ⟨g,j,none⟩ u) (some g) :=
 ⟨h.os,h.tape,h.output,by have:=h.size;simpa [World.setCell] using this,fun k hk hne => (Below.heap_setCell _ _ _ _ (by intro e;exact hne (by rw [e]))).trans (h.block k hk hne)⟩
theorem ownsRow_below {w w':World} {B:Nat} {e:TypeId} {size:Nat} {v:Value} {n:Nat} {xs:List Value} (h:w.ownsRow B e size v n xs) (hb:Below w.heap.size w w'):w'.ownsRow B e size v n xs :=
 h.kept (grownBy_below none hb) (by cases hv:v.ownBlock with | none => exact .inl rfl | some k => exact .inr (by simp))
theorem ownsRow_drewN {w:World} {B:Nat} {e:TypeId} {size:Nat} {v:Value} {n:Nat} {xs:List Value} (h:w.ownsRow B e size v n xs) (q:Nat):(w.drewN q).ownsRow B e size v n xs:=h
theorem ownsRow_mono {w:World} {B B':Nat} {e:TypeId} {size:Nat} {v:Value} {n:Nat} {xs:List Value} (h:w.ownsRow B e size v n xs) (hB:B'≤B):w.ownsRow B' e size v n xs:=by
 refine ⟨h.1,?_⟩
 rcases h.2 with h | ⟨g,cap,cur,hv,hb,r⟩
 · exact .inl h
 · exact .inr ⟨g,cap,cur,hv,by omega,r⟩
theorem drewN_below (w:World) (q:Nat):Below w.heap.size w (w.drewN q):=below_drewN (Below.refl _ _) q
theorem cat_list (a b:List UInt8):(⟨a.toArray⟩:ByteArray) ++ ⟨b.toArray⟩=⟨(a ++ b).toArray⟩:=by
 apply ByteArray.ext
 simp
def sv (l:List UInt8):Value:=.string ⟨l.toArray⟩
theorem slice_form {w:World} {B:Nat} {e:TypeId} {size:Nat} {v:Value} {n:Nat} {xs:List Value} (h:w.ownsRow B e size v n xs):∃ a c,v=.slice a n c:=by
 rcases h.2 with ⟨rfl,rfl⟩ | ⟨g,cap,cur,rfl,_⟩
 · exact ⟨none,0,rfl⟩
 · exact ⟨_,cap,rfl⟩
section
variable {P:Program}
theorem conv_own (ts te tx:TypeId) (hts:P.underlying ts=some (.slice te)) (hte:P.underlying te=some (.int .u8)) (htx:P.underlying tx=some .string)
  (w:World) (base:Nat) (v:Value) (l:List UInt8) (h:w.ownsRow base te 1 v l.length (l.map bv)) :
  (convert ts tx v).run P w=.ok (.string ⟨l.toArray⟩) w:=by
 rcases h.2 with ⟨hv,hn⟩ | ⟨g,cap,cur,hv,hg,hh,hn,hm,hs,ht⟩
 ·
  have hl:=List.eq_nil_of_length_eq_zero hn
  subst hv hl
  rw [run_convert_bytes_string w ts tx te none 0 0 hts hte htx]
  rfl
 ·
  subst hv
  refine run_convert_bytes_back w ts tx te ⟨g,0,none⟩ cap l hts hte htx ?_
  intro j hj
  have:=h.cells (g:=g) rfl j (bv l[j]) (by simp [hj])
  exact this
theorem app_bytes {ops:Array Oper} {rest:List Oper} {o:Oper} {a:Act} {Q:Exit→Act→World→Prop} {C:Array Value} (wr:World) (ts te:TypeId) (hts:P.underlying ts=some (.slice te))
  (hinfo:(P.info? te).map (fun i => (i.zero,i.size,i.bytes))=some (some (.int .u8 0),1,1)) (w:World) (B:Nat) (hgd:o.guard=none) (s x:Operand)
  (ho:o.op=.call { callee:=.builtin .append,args:=#[s,x],argTypes:=#[ts,ts] }) (v:Value) (l news:List UInt8) (hs:a.eval s=v)
  (hown:wr.ownsRow B te 1 v l.length (l.map bv)) (hx:a.eval x=.slice (some ⟨wr.heap.size,0,none⟩) news.length news.length) (hC:C.toList=news.map bv)
  (hlen:l.length+news.length≤70368744177664) (hbel:Below B w wr) (hbase:B≤wr.heap.size)
  (h:∀ v' w',w'.ownsRow B te 1 v' (l ++ news).length ((l ++ news).map bv)→Below B w w'→wr.heap.size≤w'.heap.size→wpList P ops Q rest (a.put o.dst v') w') :
  wpList P ops Q (o :: rest) a (wr.alloc (.cells C te)):=by
 obtain ⟨i0,hi,hz0,hz1,hz2⟩:=info_parts hinfo
 have hsz:wr.heap.size≤(wr.alloc (.cells C te)).heap.size:=by simp
 refine wpList_append_own _ hgd s x ts ho B te i0 (.int .u8 0) 1 1 hts hi hz0 hz1 hz2 rfl (by decide) v l.length (l.map bv) hs (hown.alloc _) ⟨wr.heap.size,0,none⟩ news.length news.length (news.map bv) hx (by simp)
  (fun j u hj => cells_new wr C te j u (by rw [hC];exact hj)) (bv_one news) (by unfold maxLen;omega) (by omega) (by omega) ?_
 intro v' w' hown' hgrow _
 have hlt:=hown.lt
 have hb1:Below B w (wr.alloc (.cells C te)):=hbel.alloc hbase _
 refine h v' w' ?_ (hb1.grown hgrow (by omega) (fun k hk => (hlt k hk).1)) (Nat.le_trans hsz hgrow.size)
 rw [List.length_append,List.map_append]
 exact hown'
end
end Go.Proofs.YtepdckehokdjlaaGreatDoor
namespace Go.Proofs.YtepdckehokdjlaaGreatDoor
namespace Wd
def bt (s:ByteArray) (p:Nat):Nat:=if h:p < s.size then (s[p]'h).toNat else 0
theorem bt_eq (s:ByteArray) (p:Nat) (h:p < s.size):(s[p]'h).toNat=bt s p:=by simp [bt,h]
theorem bt_lt (s:ByteArray) (p:Nat):bt s p < 256:=by unfold bt;split;exact UInt8.toNat_lt _;omega
def varF:Nat→Nat→List UInt8
 | 0,_ => []
 | f+1,n => if n < 128 then [UInt8.ofNat n] else UInt8.ofNat (n % 128+128) :: varF f (n / 128)
theorem varF_low (f n:Nat) (h:n < 128):varF (f+1) n=[UInt8.ofNat n]:=by simp [varF,h]
theorem varF_high (f n:Nat) (h:¬ n < 128):varF (f+1) n=UInt8.ofNat (n % 128+128) :: varF f (n / 128):=by simp [varF,h]
theorem div_lt_pow (f m:Nat) (h:m < 128 ^ (f+1)):m / 128 < 128 ^ f:=by
 rw [Nat.pow_succ] at h;exact Nat.div_lt_of_lt_mul (by rw [Nat.mul_comm];exact h)
def rvF (s:ByteArray):Nat→Nat→Nat→Nat→Nat→Option (Nat × Nat)
 | 0,_,_,_,_ => none
 | f+1,p,k,q,n =>
  if p < s.size then
   (if bt s p < 128 then (if n+bt s p % 128 * q≤1000000000∧(0 < bt s p ∨ k=0) then some (n+bt s p % 128 * q,p+1) else none)
    else rvF s f (p+1) (k+1) (q * 128) (n+bt s p % 128 * q))
  else none
theorem rvF_end (s:ByteArray) (f p k q n:Nat) (h:¬ p < s.size):rvF s f p k q n=none:=by
 cases f <;> simp [rvF,h]
theorem rvF_more (s:ByteArray) (f p k q n:Nat) (h:p < s.size) (hb:¬ bt s p < 128):rvF s (f+1) p k q n=rvF s f (p+1) (k+1) (q * 128) (n+bt s p % 128 * q):=by
 simp [rvF,h,hb]
theorem rvF_last (s:ByteArray) (f p k q n:Nat) (h:p < s.size) (hb:bt s p < 128) (hn:n+bt s p % 128 * q≤1000000000) (hk:0 < bt s p ∨ k=0):rvF s (f+1) p k q n=some (n+bt s p % 128 * q,p+1):=by
 simp only [rvF,if_pos h,if_pos hb,if_pos (And.intro hn hk)]
theorem rvF_not (s:ByteArray) (f p k q n:Nat) (hb:bt s p < 128) (hn:¬ (n+bt s p % 128 * q≤1000000000∧(0 < bt s p ∨ k=0))):rvF s (f+1) p k q n=none:=by
 by_cases h:p < s.size
 · simp only [rvF,if_pos h,if_pos hb,if_neg hn]
 · exact rvF_end _ _ _ _ _ _ h
theorem rvF_moreB {s:ByteArray} {f p k q n b:Nat} (hB:bt s p=b) (h:p < s.size) (hb:¬ b < 128):rvF s (f+1) p k q n=rvF s f (p+1) (k+1) (q * 128) (n+b % 128 * q):=by
 subst hB;exact rvF_more s f p k q n h hb
theorem rvF_lastB {s:ByteArray} {f p k q n b:Nat} (hB:bt s p=b) (h:p < s.size) (hb:b < 128) (hn:n+b % 128 * q≤1000000000) (hk:0 < b ∨ k=0):rvF s (f+1) p k q n=some (n+b % 128 * q,p+1):=by
 subst hB;exact rvF_last s f p k q n h hb hn hk
theorem rvF_notB {s:ByteArray} {f p k q n b:Nat} (hB:bt s p=b) (hb:b < 128) (hn:¬ (n+b % 128 * q≤1000000000∧(0 < b ∨ k=0))):rvF s (f+1) p k q n=none:=by
 subst hB;exact rvF_not s f p k q n hb hn
def rv (s:ByteArray) (i:Nat):Option (Nat × Nat):=rvF s 5 i 0 1 0
def valF (s:ByteArray):Nat→Nat→Nat
 | _,0 => 0
 | i,k+1 => bt s i % 128+128 * valF s (i+1) k
def subF (s:ByteArray):Nat→Nat→List UInt8
 | _,0 => []
 | i,k+1 => UInt8.ofNat (bt s i) :: subF s (i+1) k
theorem subF_length (s:ByteArray):∀ k i,(subF s i k).length=k
 | 0,_ => rfl
 | k+1,i => by simp [subF,subF_length s k (i+1)]
theorem valF_snoc (s:ByteArray):∀ k i,valF s i (k+1)=valF s i k+bt s (i+k) % 128 * 128 ^ k
 | 0,i => by simp [valF]
 | k+1,i => by
  rw [valF,valF_snoc s k (i+1),valF,Nat.pow_succ,show i+1+k=i+(k+1) from by omega,Nat.mul_add,← Nat.mul_assoc,Nat.mul_comm 128 (bt s (i+(k+1)) % 128),Nat.mul_assoc,Nat.mul_comm 128 (128 ^ k),Nat.add_assoc]
theorem valF_zero (s:ByteArray) (k i:Nat) (h:valF s i (k+1)=0):bt s (i+k) % 128=0:=by
 rw [valF_snoc] at h
 have h1:bt s (i+k) % 128 * 128 ^ k=0:=by omega
 rcases Nat.mul_eq_zero.1 h1 with h2 | h2
 · exact h2
 · have:=Nat.pow_pos (n:=k) (show 0 < 128 by omega);omega
theorem canonF (s:ByteArray):∀ k i f,(∀ j,j < k→128≤bt s (i+j))→bt s (i+k) < 128→k < f→(varF f (valF s i (k+1))=subF s i (k+1) ↔ (0 < bt s (i+k) ∨ k=0))
 | 0,i,f,_,hb,hf => by
  obtain ⟨g,rfl⟩:∃ g,f=g+1:=⟨f - 1,by omega⟩
  have hb':bt s i < 128:=hb
  have hv:valF s i (0+1)=bt s i:=by simp [valF];omega
  rw [hv,varF_low g _ hb']
  simp [subF]
 | k+1,i,f,hj,hb,hf => by
  obtain ⟨g,rfl⟩:∃ g,f=g+1:=⟨f - 1,by omega⟩
  have hc:128≤bt s i:=hj 0 (by omega)
  have hc2:=bt_lt s i
  have ih:=canonF s k (i+1) g (fun j hjk => by have:=hj (j+1) (by omega);rw [show i+1+j=i+(j+1) from by omega];exact this) (by rw [show i+1+k=i+(k+1) from by omega];exact hb) (by omega)
  rw [show i+1+k=i+(k+1) from by omega] at ih
  have hv:valF s i (k+1+1)=bt s i % 128+128 * valF s (i+1) (k+1):=rfl
  have hs:subF s i (k+1+1)=UInt8.ofNat (bt s i) :: subF s (i+1) (k+1):=rfl
  rw [hv,hs]
  by_cases hV:valF s (i+1) (k+1)=0
  ·
   have hz:=valF_zero s k (i+1) hV
   rw [show i+1+k=i+(k+1) from by omega] at hz
   rw [varF_low g _ (by omega)]
   constructor
   ·
    intro h
    have:=congrArg List.length h
    simp [subF_length] at this
   · intro h;omega
  ·
   rw [varF_high g _ (by omega),show (bt s i % 128+128 * valF s (i+1) (k+1)) % 128+128=bt s i from by omega,show (bt s i % 128+128 * valF s (i+1) (k+1)) / 128=valF s (i+1) (k+1) from by omega]
   constructor
   ·
    intro h
    have h2:=ih.1 (List.cons.inj h).2
    rcases h2 with h2 | h2
    · exact .inl h2
    ·
     subst h2
     have e:valF s (i+1) (0+1)=bt s (i+1) % 128:=by simp [valF]
     rw [e] at hV
     left;show 0 < bt s (i+1);omega
   ·
    intro h
    rw [ih.2 (by omega)]
theorem subF_extract (s:ByteArray) (i k:Nat) (h:i+k≤s.size):(s.extract i (i+k)).data.toList=subF s i k:=by
 apply List.ext_getElem
 ·
  simp [subF_length]
  have:s.data.size=s.size:=rfl
  omega
 ·
  intro n h1 h2
  rw [subF_length] at h2
  have key:∀ k i n (hn:n < k) (hk:i+k≤s.size),(subF s i k)[n]'(by rw [subF_length];exact hn)=s[i+n]'(by omega):=by
   intro k
   induction k with
   | zero => intro i n hn;omega
   | succ k ih =>
    intro i n hn hk
    cases n with
    | zero =>
     have:=bt_eq s i (by omega)
     simp [subF,← this]
    | succ n =>
     have:=ih (i+1) n (by omega) (by omega)
     simp only [subF,List.getElem_cons_succ,this]
     congr 1;omega
  rw [key k i n h2 h]
  simp
  rfl
def figI (x:Int):Int:=if x < 10 then 48+x else 87+x
theorem figI_low (x:Int) (h:x < 10):figI x=48+x:=by simp [figI,h]
theorem figI_high (x:Int) (h:¬ x < 10):figI x=87+x:=by simp [figI,h]
theorem figI_bd (x:Int) (h0:0≤x) (h1:x < 16):48≤figI x∧figI x≤102:=by unfold figI;split <;> omega
def figB (x:Nat):UInt8:=UInt8.ofNat (figI x).toNat
theorem figB_val (x:Nat) (h:x < 16):((figB x).toNat:Int)=figI x:=by
 have:=figI_bd x (by omega) (by omega)
 simp only [figB,UInt8.toNat_ofNat']
 omega
def decA:Nat→Nat→List UInt8→List UInt8
 | 0,_,acc => acc
 | f+1,n,acc => if n=0 then acc else decA f (n / 10) (figB (n % 10) :: acc)
theorem decA_zero (f:Nat) (acc:List UInt8):decA f 0 acc=acc:=by cases f <;> simp [decA]
theorem decA_step (f n:Nat) (acc:List UInt8) (h:n ≠ 0):decA (f+1) n acc=decA f (n / 10) (figB (n % 10) :: acc):=by simp [decA,h]
def decS (n:Int):List UInt8:=if n=0 then [48] else if n < 0 then 45 :: decA 20 n.natAbs [] else decA 20 n.natAbs []
theorem decA_length:∀ f n acc m,n < 10 ^ m→(decA f n acc).length≤acc.length+m
 | 0,n,acc,m,_ => by simp [decA]
 | f+1,n,acc,m,h => by
  by_cases h0:n=0
  · subst h0;rw [decA_zero];omega
  ·
   rw [decA_step f n acc h0]
   cases m with
   | zero => simp at h;omega
   | succ m =>
    have:=decA_length f (n / 10) (figB (n % 10) :: acc) m (Nat.div_lt_of_lt_mul (by rw [Nat.mul_comm,← Nat.pow_succ];exact h))
    simp at this
    omega
def numF (s:ByteArray):Nat→Nat
 | 0 => 0
 | k+1 => 10 * numF s k+(bt s k - 48)
def digs (s:ByteArray) (k:Nat):Prop:=∀ p,p < k→48≤bt s p∧bt s p≤57
theorem numF_lt (s:ByteArray):∀ k,digs s k→numF s k < 10 ^ k
 | 0,_ => by simp [numF]
 | k+1,h => by
  have ih:=numF_lt s k (fun p hp => h p (by omega))
  have:=h k (by omega)
  rw [numF,Nat.pow_succ]
  omega
theorem numF_lead (s:ByteArray) (h0:bt s 0=48):∀ k,digs s (k+1)→numF s (k+1) < 10 ^ k
 | 0,_ => by simp [numF,h0]
 | k+1,h => by
  have ih:=numF_lead s h0 k (fun p hp => h p (by omega))
  have:=h (k+1) (by omega)
  rw [numF,Nat.pow_succ]
  omega
theorem numF_pos (s:ByteArray) (h0:bt s 0 ≠ 48):∀ k,digs s (k+1)→0 < numF s (k+1)
 | 0,h => by have:=h 0 (by omega);simp [numF];omega
 | k+1,h => by
  have ih:=numF_pos s h0 k (fun p hp => h p (by omega))
  rw [numF];omega
def tl (s:ByteArray):Nat→Nat→List UInt8
 | _,0 => []
 | k,n+1 => UInt8.ofNat (bt s k) :: tl s (k+1) n
theorem tl_length (s:ByteArray):∀ n k,(tl s k n).length=n
 | 0,_ => rfl
 | n+1,k => by simp [tl,tl_length s n (k+1)]
theorem figB_digit (s:ByteArray) (k:Nat) (h:48≤bt s k∧bt s k≤57):figB (bt s k - 48)=UInt8.ofNat (bt s k):=by
 unfold figB
 rw [figI_low _ (by omega)]
 congr 1
 omega
theorem decA_back (s:ByteArray) (L:Nat) (hd:digs s L) (h0:bt s 0 ≠ 48):∀ k f,k≤L→k≤f→decA f (numF s k) (tl s k (L - k))=tl s 0 L
 | 0,f,_,_ => by simp [numF,decA_zero]
 | k+1,f,hk,hf => by
  obtain ⟨g,rfl⟩:∃ g,f=g+1:=⟨f - 1,by omega⟩
  have hp:=numF_pos s h0 k (fun p hp => hd p (by omega))
  have hdk:=hd k (by omega)
  rw [decA_step g _ _ (by omega)]
  have e1:numF s (k+1) / 10=numF s k:=by rw [numF];omega
  have e2:numF s (k+1) % 10=bt s k - 48:=by rw [numF];omega
  rw [e1,e2,figB_digit s k hdk]
  have e3:UInt8.ofNat (bt s k) :: tl s (k+1) (L - (k+1))=tl s k (L - k):=by
   rw [show L - k=(L - (k+1))+1 from by omega];rfl
  rw [e3]
  exact decA_back s L hd h0 k g (by omega) (by omega)
theorem tl_all (s:ByteArray):tl s 0 s.size=s.data.toList:=by
 have key:∀ n k p (hp:p < n) (hk:k+n≤s.size),(tl s k n)[p]'(by rw [tl_length];exact hp)=s[k+p]'(by omega):=by
  intro n
  induction n with
  | zero => intro k p hp;omega
  | succ n ih =>
   intro k p hp hk
   cases p with
   | zero =>
    have:=bt_eq s k (by omega)
    simp [tl,← this]
   | succ p =>
    have:=ih (k+1) p (by omega) (by omega)
    simp only [tl,List.getElem_cons_succ,this]
    congr 1;omega
 apply List.ext_getElem
 · rw [tl_length];rfl
 ·
  intro p h1 h2
  rw [tl_length] at h1
  rw [key s.size 0 p h1 (by omega)]
  simp
  rfl
theorem dec_canon (s:ByteArray) (hd:digs s s.size) (h10:s.size≤10):decS (numF s s.size)=s.data.toList ↔ (s.size ≠ 0∧(s.size=1 ∨ bt s 0 ≠ 48)):=by
 rw [← tl_all]
 generalize hL:s.size=L at *
 constructor
 ·
  intro h
  have hlen:=congrArg List.length h
  rw [tl_length] at hlen
  cases L with
  | zero => simp [numF,decS] at hlen
  | succ k =>
   refine ⟨by omega,?_⟩
   by_cases h0:bt s 0=48
   ·
    left
    have hb:=numF_lead s h0 k hd
    by_cases hz:numF s (k+1)=0
    · rw [hz] at hlen;simp [decS] at hlen;omega
    ·
     have:=decA_length 20 (numF s (k+1)) [] k hb
     have e:decS (numF s (k+1))=decA 20 (numF s (k+1)) []:=by
      unfold decS;rw [if_neg (by omega),if_neg (by omega),Int.natAbs_natCast]
     rw [e] at hlen
     simp at this
     omega
   · exact .inr h0
 ·
  rintro ⟨h1,h2⟩
  by_cases h0:bt s 0=48
  ·
   have:L=1:=by omega
   subst this
   simp [numF,h0,decS,tl]
  ·
   obtain ⟨k,rfl⟩:∃ k,L=k+1:=⟨L - 1,by omega⟩
   have hp:=numF_pos s h0 k hd
   have e:decS (numF s (k+1))=decA 20 (numF s (k+1)) []:=by
    unfold decS;rw [if_neg (by omega),if_neg (by omega),Int.natAbs_natCast]
   rw [e]
   have:=decA_back s (k+1) hd h0 (k+1) 20 (Nat.le_refl _) (by omega)
   simpa [tl] using this
end Wd
end Go.Proofs.YtepdckehokdjlaaGreatDoor
namespace Go.Proofs.YtepdckehokdjlaaGreatDoor
open Go.RowKit
theorem Tryz.info5:(Tryz.prog.info? 5).map (fun i => (i.zero,i.size,i.bytes))=some (some (.int .u8 0),1,1):=by kernel_rfl
theorem Tryz.cells5:Tryz.prog.cellsOf 5=1:=by kernel_rfl
theorem l01In_any (x a b:Int) (w:World):Calls Tryz.prog 50 #[.int .i64 x,.int .i64 a,.int .i64 b] w fun e w' => e=.returned (.bool (decide (a≤x) && decide (x≤b)))∧w' = w:=by
 by_cases h:a≤x
 ·
  have h':decide (a≤x)=true:=by simp;omega
  rw [h',Bool.true_and]
  go_enter Tryz.func50,Tryz.ntmps50
  go_wp2
  go_ret
  exact ⟨rfl,rfl⟩
 ·
  have h':decide (a≤x)=false:=by simp;omega
  rw [h',Bool.false_and]
  go_enter Tryz.func50,Tryz.ntmps50
  go_wp2
  go_ret
  exact ⟨rfl,rfl⟩
theorem l01In_val (x a b:Int) (c:Bool) (w:World) (h:(decide (a≤x) && decide (x≤b))=c):Calls Tryz.prog 50 #[.int .i64 x,.int .i64 a,.int .i64 b] w fun e w' => e=.returned (.bool c)∧w' = w:=h ▸ l01In_any x a b w
def rvAns:Option (Nat × Nat)→Value
 | some (n,p) => .tuple #[.int .i64 n,.int .i64 p,.bool true]
 | none => .tuple #[.int .i64 0,.int .i64 0,.bool false]
theorem ret3 {a a' b b':Int} {c:Bool} (h1:a=a') (h2:b=b'):Ending.returned (.tuple #[.int .i64 a,.int .i64 b,.bool c])=.returned (.tuple #[.int .i64 a',.int .i64 b',.bool c]):=by rw [h1,h2]
theorem Wd.rvF_bounds (s:ByteArray):∀ f p k q n a b,Wd.rvF s f p k q n=some (a,b)→a≤1000000000∧p < b∧b≤s.size:=by
 intro f
 induction f with
 | zero => intro p k q n a b h;simp [Wd.rvF] at h
 | succ f ih =>
  intro p k q n a b h
  by_cases h1:p < s.size
  ·
   by_cases h2:Wd.bt s p < 128
   ·
    by_cases h3:n+Wd.bt s p % 128 * q≤1000000000∧(0 < Wd.bt s p ∨ k=0)
    ·
     rw [Wd.rvF_last s f p k q n h1 h2 h3.1 h3.2] at h
     simp at h
     omega
    · rw [Wd.rvF_not s f p k q n h2 h3] at h;simp at h
   ·
    rw [Wd.rvF_more s f p k q n h1 h2] at h
    have:=ih _ _ _ _ _ _ h
    omega
  · rw [Wd.rvF_end s _ p k q n h1] at h;simp at h
theorem Wd.rv_bounds (s:ByteArray) (i a b:Nat) (h:Wd.rv s i=some (a,b)):a≤1000000000∧i < b∧b≤s.size:=Wd.rvF_bounds s _ _ _ _ _ _ _ h
def Wd.rvI (s:ByteArray) (i:Int):Option (Nat × Nat):=if i < 0 ∨ (s.size:Int) < i then none else Wd.rv s i.toNat
theorem Wd.rvI_bounds (s:ByteArray) (i:Int) (a b:Nat) (h:Wd.rvI s i=some (a,b)):a≤1000000000∧b≤s.size:=by
 unfold Wd.rvI at h
 split at h
 · simp at h
 · have:=Wd.rv_bounds s _ _ _ h;omega
end Go.Proofs.YtepdckehokdjlaaGreatDoor
namespace Go.Proofs.YtepdckehokdjlaaGreatDoor
def hv (s:Nat):Nat:=if s % 2=1 then s / 2 ^^^ 3558460437 else s / 2
def hvN:Nat→Nat→Nat
 | 0,s => s
 | k+1,s => hvN k (hv s)
def sb (s b:Nat):Nat:=hvN 8 (s ^^^ b)
def sumL (s:Nat) (l:List UInt8):Nat:=l.foldl (fun s b => sb s b.toNat) s
def htab:List Nat:=[0x00000000,0x4589ac8d,0x8b13591a,0xce9af597,0xbe152a1f,0xfb9c8692,0x35067305,0x708fdf88,0xd419cc15,0x91906098,0x5f0a950f,0x1a833982,0x6a0ce60a,0x2f854a87,0xe11fbf10,0xa496139d]
def four (x:Nat):List UInt8:=[UInt8.ofNat (x / 16777216),UInt8.ofNat (x / 65536),UInt8.ofNat (x / 256),UInt8.ofNat x]
theorem xor_lt32 {a b:Nat} (ha:a < 4294967296) (hb:b < 4294967296):a ^^^ b < 4294967296:=Nat.xor_lt_two_pow (n:=32) ha hb
theorem hv_lt {s:Nat} (h:s < 4294967296):hv s < 4294967296:=by
 unfold hv
 split
 · exact xor_lt32 (by omega) (by decide)
 · omega
theorem hv_xor (a b:Nat):hv (a ^^^ b)=hv a ^^^ hv b:=by
 unfold hv
 have h2:(a ^^^ b) / 2=a / 2 ^^^ b / 2:=Nat.xor_div_two
 have hm:(a ^^^ b) % 2=(a+b) % 2:=by
  have e:(a ^^^ b) % 2 ^ 1=a % 2 ^ 1 ^^^ b % 2 ^ 1:=Nat.xor_mod_two_pow
  simp only [Nat.pow_one] at e
  rw [e]
  rcases Nat.mod_two_eq_zero_or_one a with ha | ha <;> rcases Nat.mod_two_eq_zero_or_one b with hb | hb <;> rw [ha,hb] <;> simp [Nat.add_mod,ha,hb]
 rw [h2,hm]
 rcases Nat.mod_two_eq_zero_or_one a with ha | ha <;> rcases Nat.mod_two_eq_zero_or_one b with hb | hb <;> simp [Nat.add_mod,ha,hb]
 · rw [Nat.xor_assoc]
 · rw [Nat.xor_assoc,Nat.xor_comm (b / 2),Nat.xor_assoc]
 · rw [Nat.xor_comm (b / 2) 3558460437,← Nat.xor_assoc,Nat.xor_assoc (a / 2),Nat.xor_self,Nat.xor_zero]
theorem hvN_xor (k:Nat):∀ a b,hvN k (a ^^^ b)=hvN k a ^^^ hvN k b:=by
 induction k with
 | zero => intro a b;rfl
 | succ k ih => intro a b;show hvN k (hv (a ^^^ b))=_;rw [hv_xor,ih];rfl
theorem hvN_lt (k:Nat):∀ {s},s < 4294967296→hvN k s < 4294967296:=by
 induction k with
 | zero => intro s h;exact h
 | succ k ih => intro s h;exact ih (hv_lt h)
theorem hv_even (q:Nat):hv (2 * q)=q:=by
 unfold hv
 rw [if_neg (by omega)];omega
theorem hvN_16 (q:Nat):hvN 4 (16 * q)=q:=by
 show hv (hv (hv (hv (16 * q))))=q
 rw [show 16 * q=2 * (2 * (2 * (2 * q))) by omega]
 simp only [hv_even]
theorem htab_hv:∀ r,r < 16→hvN 4 r=htab.getD r 0:=by decide
theorem split16 (s:Nat):s=16 * (s / 16) ^^^ s % 16:=by
 apply Nat.eq_of_testBit_eq
 intro i
 rw [Nat.testBit_xor,show 16 * (s / 16)=2 ^ 4 * (s / 2 ^ 4) from rfl,show s % 16=s % 2 ^ 4 from rfl,Nat.testBit_mod_two_pow,Nat.testBit_two_pow_mul,Nat.testBit_div_two_pow]
 by_cases h:4≤i
 ·
  have e:i - 4+4=i:=by omega
  simp [h,e,show ¬ i < 4 by omega]
 · simp [h,show i < 4 by omega]
theorem hvN_4 (s:Nat):hvN 4 s=s / 16 ^^^ htab.getD (s % 16) 0:=by
 rw [show hvN 4 s=hvN 4 (16 * (s / 16) ^^^ s % 16) from congrArg _ (split16 s),hvN_xor,hvN_16,htab_hv _ (Nat.mod_lt _ (by decide))]
theorem hvN_8 (s:Nat):hvN 8 s=hvN 4 s / 16 ^^^ htab.getD (hvN 4 s % 16) 0:=by
 rw [← hvN_4];rfl
theorem htab_lt (r:Nat):htab.getD r 0 < 4294967296:=by
 by_cases h:r < 16
 · revert h;revert r;decide
 ·
  have e:htab.getD r 0=0:=by
   rw [List.getD_eq_getElem?_getD,List.getElem?_eq_none (by show 16≤r;omega)];rfl
  rw [e];decide
theorem sb_lt {s b:Nat} (hs:s < 4294967296) (hb:b < 256):sb s b < 4294967296:=hvN_lt 8 (xor_lt32 hs (by omega))
theorem byte_lt (b:UInt8):b.toNat < 256:=b.toNat_lt
theorem sumL_lt (l:List UInt8):∀ {s},s < 4294967296→sumL s l < 4294967296:=by
 induction l with
 | nil => intro s h;exact h
 | cons b l ih => intro s h;exact ih (sb_lt h (byte_lt b))
end Go.Proofs.YtepdckehokdjlaaGreatDoor
namespace Go.Proofs.YtepdckehokdjlaaGreatDoor
open Go.RowKit
def SumTab (w:World):Prop:=∀ r,r < 16→w.cell? ⟨0,r,none⟩=some (.int .u32 (htab.getD r 0:Nat))
theorem sumTab_later {w w':World} (h:Below w.heap.size w w') (ht:SumTab w):SumTab w':=by
 intro r hr
 have:=ht r hr
 refine (h.cell (p:=⟨0,r,none⟩) ?_).trans this
 rcases Nat.lt_or_ge 0 w.heap.size with h' | h'
 · exact h'
 ·
  have e:=ht r hr
  unfold World.cell? at e
  rw [show w.heap[(⟨0,r,none⟩:Addr).block]? = none from Array.getElem?_eq_none h'] at e
  cases e
theorem withByte_any (s b:Nat) (w:World) (hs:s < 4294967296) (hb:b < 256) (hT:SumTab w) :
  Calls Tryz.prog 190 #[.int .u32 s,.int .u8 b] w fun e w' => e=.returned (.int .u32 (sb s b:Nat))∧w' = w:=by
 have HR:Hid (sb s b=hvN 8 (s ^^^ b)):=rfl
 have hx0:=u32_xor_nat s b hs (by omega)
 have hx1:=xor_lt32 hs (show b < 4294967296 by omega)
 generalize s ^^^ b=x at HR hx0 hx1
 have hc1:=hT (x % 16) (Nat.mod_lt _ (by decide))
 have hy0:=u32_xor_nat (x / 16) (htab.getD (x % 16) 0) (by omega) (htab_lt _)
 have hy1:=hvN_lt 4 hx1
 have HY:Hid (hvN 8 x=hvN 4 x / 16 ^^^ htab.getD (hvN 4 x % 16) 0):=hvN_8 x
 rw [← hvN_4,show ((x / 16:Nat):Int)=(x:Int) / 16 by omega] at hy0
 generalize htab.getD (x % 16) 0=T1 at hc1 hy0
 generalize hvN 4 x=y at HY hy0 hy1
 have hc2:=hT (y % 16) (Nat.mod_lt _ (by decide))
 have hz0:=u32_xor_nat (y / 16) (htab.getD (y % 16) 0) (by omega) (htab_lt _)
 rw [show ((y / 16:Nat):Int)=(y:Int) / 16 by omega] at hz0
 have HZ:Hid (sb s b=y / 16 ^^^ htab.getD (y % 16) 0):=HR.out.trans HY.out
 generalize y / 16 ^^^ htab.getD (y % 16) 0=z at HZ hz0
 generalize htab.getD (y % 16) 0=T2 at hc2 hz0
 clear hT HR HY
 go_enter Tryz.func190,Tryz.ntmps190
 go_wp2
 go_ret
 rw [HZ.out]
 exact ⟨rfl,rfl⟩
def sumB (q:Nat) (s:ByteArray):Nat:=sumL q s.data.toList
def sumFrom (q:Nat) (s:ByteArray) (k:Nat):Nat:=sumL q (s.data.toList.drop k)
theorem sumFrom_step (q:Nat) (s:ByteArray) (k:Nat) (h:k < s.size):sumFrom q s k=sumFrom (sb q (s[k]'h).toNat) s (k+1):=by
 have hk:k < s.data.toList.length:=by simpa using h
 unfold sumFrom
 rw [List.drop_eq_getElem_cons hk]
 rfl
theorem sumFrom_end (q:Nat) (s:ByteArray) (k:Nat) (h:s.size≤k):sumFrom q s k=q:=by
 unfold sumFrom
 rw [List.drop_eq_nil_of_le (by simpa using h)]
 rfl
theorem sumMore_any (q0:Nat) (s:ByteArray) (w:World) (hq0:q0 < 4294967296) (hl:s.size≤2097152) (hT:SumTab w) :
  Calls Tryz.prog 169 #[.int .u32 q0,.string s] w fun e w' => e=.returned (.int .u32 (sumB q0 s:Nat))∧w' = w:=by
 have HT:=hide hT
 clear hT
 go_enter Tryz.func169,Tryz.ntmps169
 go_wp2
 go_loop [5,10] (fun t u => ∃ (k q:Nat),t=.int .u32 q∧u=.int .i64 k∧k≤s.size∧q < 4294967296∧Hid (sumFrom q s k=sumB q0 s)) (fun _ u => s.size - (intOf u).toNat)
 case atStart => exact ⟨0,q0,rfl,rfl,by omega,hq0,rfl⟩
 case round =>
  obtain ⟨k,q,rfl,rfl,hk,hq,hrest⟩:=hrel
  by_cases hlt:k < s.size
  ·
   have hlt':decide ((k:Int) < (s.size:Int))=true:=by simp;omega
   have HS:=hide (sumFrom_step q s k hlt)
   obtain ⟨b,hbt,hb256⟩:∃ b:Nat,(s[k]'hlt).toNat=b∧b < 256:=⟨_,rfl,byte_lt _⟩
   rw [hbt] at HS
   have hq':=sb_lt hq hb256
   go_wp2_with (go_at_call 190;refine (withByte_any q b _ hq hb256 HT.out).mono ?_;rintro e w' ⟨rfl,rfl⟩)
   go_round
   case rel =>
    refine ⟨k+1,sb q b,rfl,by go_num,by omega,hq',?_⟩
    show _=_
    rw [← hrest.out,HS.out]
   case measure => simp [intOf];omega
  ·
   have hlt':decide ((k:Int) < (s.size:Int))=false:=by simp;omega
   have HF:Hid (sumB q0 s=q):=by show _=_;rw [← hrest.out,sumFrom_end _ _ _ (by omega)]
   go_wp2
   go_ret
   rw [HF.out]
   exact ⟨rfl,rfl⟩
theorem clone_any (s:ByteArray) (w:World) (hs:s.size≤1048576) :
  Calls Tryz.prog 167 #[.string s] w fun e w' => e=.returned (.string s)∧Below w.heap.size w w':=by
 by_cases h0:s.size=0
 ·
  have e0:s=⟨#[]⟩:=ByteArray.ext (Array.eq_empty_of_size_eq_zero h0)
  subst e0
  go_enter Tryz.func167,Tryz.ntmps167
  go_wp2
  go_ret
  exact ⟨rfl,Below.refl _ _⟩
 ·
  obtain ⟨i0,hi,hz0,hz1,hz2⟩:=info_parts Tryz.info5
  have hinfo:(Tryz.prog.info? 5).map (·.size)=some 1:=by rw [hi];simp [hz1]
  obtain ⟨M,hM⟩:∃ M,M=madeCells (Value.int .u8 0).cells (((s.size:Nat):Int).toNat * i0.size):=⟨_,rfl⟩
  have hmk:∀ W:World,(Instr.makeSlice 133 (.int .i64 (s.size:Int)) (.int .i64 (s.size:Int))).run Tryz.prog W=.ok (.slice (some ⟨W.heap.size,0,none⟩) s.size s.size) (W.alloc (.cells M 5)):=fun W => by
   have h:=run_make (P:=Tryz.prog) W 133 5 i0 (.int .u8 0) Tryz.underlying133 hi hz0 .i64 .i64 (s.size:Int) (s.size:Int) (by omega) (by omega) (by rw [hz2];omega) (by omega)
   rw [← hM] at h
   simpa using h
  have hMs:M.size=s.size:=by rw [hM,size_madeCells,hz1];simp
  clear hM
  have hcp:=Lib.run_copy_row_string (P:=Tryz.prog) (w.alloc (.cells M 5)) 133 9 3 5 w.heap.size 0 s.size s.size s M 5 Tryz.underlying133 hinfo (heap_alloc_new w _) (Nat.le_refl _) (by omega)
  obtain ⟨Y,hY⟩:∃ Y,Y=(M.toList.take 0 ++ Lib.byteCells s.data.toList ++ M.toList.drop (0+s.size)).toArray:=⟨_,rfl⟩
  rw [← hY] at hcp
  have hYl:Y.toList=Lib.byteCells s.data.toList:=by
   rw [hY,List.toList_toArray,List.take_zero,List.nil_append,List.drop_of_length_le (by rw [Array.length_toList];omega),List.append_nil]
  have hYs:Y.size=s.size:=by rw [← Array.length_toList,hYl,Lib.byteCells_length,← Lib.size_eq]
  have hgY:((w.alloc (.cells M 5)).setRow w.heap.size Y).heap[w.heap.size]? = some (.cells Y 5 (0,0)):=setRow_heap _ _ M _ 5 (0,0) (heap_alloc_new w _)
  have hne:s.data.toList ≠ []:=fun e => h0 (by rw [Lib.size_eq,e];rfl)
  have hUS:=Lib.run_unsafeString_row (P:=Tryz.prog) ((w.alloc (.cells M 5)).setRow w.heap.size Y) 249 3 9 5 Tryz.underlying249 Tryz.cells5 w.heap.size Y.size (by unfold World.shape?;rw [hgY]) s.data.toList hne (by rw [← Lib.size_eq];omega) (by rw [← Lib.size_eq];omega)
   (fun j x hx => Lib.cells_of_row hgY Y.size j _ (by rw [List.take_of_length_le (by rw [Array.length_toList];exact Nat.le_refl _),hYl];simp [Lib.byteCells,hx]))
  rw [← Lib.size_eq] at hUS
  clear hY
  go_enter Tryz.func167,Tryz.ntmps167
  go_wp2
  go_ret
  have hb1:Below w.heap.size w (w.alloc (.cells M 5)):=(Below.refl _ w).alloc (Nat.le_refl _) _
  have hb2:Below w.heap.size (w.alloc (.cells M 5)) ((w.alloc (.cells M 5)).setRow w.heap.size Y):=⟨rfl,rfl,rfl,by simp,fun k hk => setRow_other _ _ _ _ (by omega)⟩
  exact ⟨rfl,Lib.below_freeze (hb1.trans hb2) (p:=⟨w.heap.size,0,none⟩) (Nat.le_refl _) _⟩
theorem ownText_any (s:ByteArray) (w:World) (hs:s.size≤1048576) :
  Calls Tryz.prog 117 #[.string s] w fun e w' => e=.returned (.string s)∧Below w.heap.size w w':=by
 go_enter Tryz.func117,Tryz.ntmps117
 go_wp2_with (first | (go_at_call 167;refine (clone_any s _ hs).mono ?_;rintro e w' ⟨rfl,hb⟩) | go_in)
 go_ret
 exact ⟨rfl,hb⟩
theorem four_cells (w:World) (a b c d:UInt8) (t5:TypeId):(w.alloc (.cells #[.int .u8 a.toNat,.int .u8 b.toNat,.int .u8 c.toNat,.int .u8 d.toNat] t5)).ownsRow w.heap.size t5 1 (.slice (some ⟨w.heap.size,0,none⟩) 4 4) 4 ([a,b,c,d].map bv) :=
 World.ownsRow_lit w #[.int .u8 a.toNat,.int .u8 b.toNat,.int .u8 c.toNat,.int .u8 d.toNat] 4 (Nat.le_refl _) (by decide) rfl
theorem byte_of_div (s k:Nat):∃ b:UInt8,UInt8.ofNat (s / k)=b∧((s:Int) / k % 256=(b.toNat:Int)):=⟨_,rfl,by
 simp⟩
theorem inBytes_any (s:Nat) (w:World) (hs:s < 4294967296) :
  Calls Tryz.prog 158 #[.int .u32 s] w fun e w' => e=.returned (.string ⟨(four s).toArray⟩)∧Below w.heap.size w w':=by
 obtain ⟨b3,h3,e3⟩:=byte_of_div s 16777216
 obtain ⟨b2,h2,e2⟩:=byte_of_div s 65536
 obtain ⟨b1,h1,e1⟩:=byte_of_div s 256
 obtain ⟨b0,h0,e0⟩:=byte_of_div s 1
 have H4:Hid (four s=[b3,b2,b1,b0]):=by show _=_;rw [← h3,← h2,← h1,← h0,Nat.div_one];rfl
 have e3:(s:Int) / 16777216=(b3.toNat:Int):=by have:=e3;omega
 have e2:(s:Int) / 65536 % 256=(b2.toNat:Int):=e2
 have e1:(s:Int) / 256 % 256=(b1.toNat:Int):=e1
 have e0:(s:Int) % 256=(b0.toNat:Int):=by have:=e0;omega
 clear h3 h2 h1 h0
 have hcv:=conv_own (P:=Tryz.prog) 133 5 9 Tryz.underlying133 Tryz.underlying5 Tryz.underlying9 _ _ _ [b3,b2,b1,b0] (four_cells w b3 b2 b1 b0 5)
 go_enter Tryz.func158,Tryz.ntmps158
 go_wp2
 go_ret
 rw [H4.out]
 exact ⟨rfl,(Below.refl _ w).alloc (Nat.le_refl _) _⟩
theorem sumOf_any (s:ByteArray) (w:World) (hl:s.size≤2097152) (hT:SumTab w) :
  Calls Tryz.prog 157 #[.string s] w fun e w' => e=.returned (.int .u32 (sumB 4294967295 s:Nat))∧w' = w:=by
 have HT:=hide hT
 clear hT
 go_enter Tryz.func157,Tryz.ntmps157
 go_wp2_with (go_at_call 169;refine (sumMore_any 4294967295 s _ (by decide) hl HT.out).mono ?_;rintro e w' ⟨rfl,rfl⟩)
 go_ret
 exact ⟨rfl,rfl⟩
theorem sumB_lt (s:ByteArray):sumB 4294967295 s < 4294967296:=sumL_lt _ (by decide)
end Go.Proofs.YtepdckehokdjlaaGreatDoor
