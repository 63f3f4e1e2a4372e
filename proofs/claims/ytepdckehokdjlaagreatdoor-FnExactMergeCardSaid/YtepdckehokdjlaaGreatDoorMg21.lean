import Derived.Deep.RegionHeld3
import Derived.Laws.MakeOwn
import Derived.Lib.SmallJoins
import Derived.OpenShut
import Derived.Test.YtepdckehokdjlaaGreatDoorMg0
import Derived.Test.YtepdckehokdjlaaGreatDoorMg10
import Derived.Test.YtepdckehokdjlaaGreatDoorMg1
import Derived.Test.YtepdckehokdjlaaGreatDoorMg11
import Derived.Test.YtepdckehokdjlaaGreatDoorMg18
import Derived.Test.YtepdckehokdjlaaGreatDoorMg6
set_option maxRecDepth 100000
set_option maxHeartbeats 1600000
namespace Go.Proofs.YtepdckehokdjlaaGreatDoor
open Go.RowKit
def TextsAt (w:World) (ao:Option Addr) (ts:List ByteArray):Prop:=∀ j (h:j < ts.length),∃ b off:Nat,ao=some ⟨b,off,none⟩∧b < w.heap.size∧w.cell? ⟨b,off+j,none⟩=some (.string ts[j])
theorem textsAt_keep {w w':World} {ao:Option Addr} {ts:List ByteArray} (h:TextsAt w ao ts) (hb:Below w.heap.size w w'):TextsAt w' ao ts:=by
 intro j hj
 obtain ⟨b,off,h1,h2,h3⟩:=h j hj
 exact ⟨b,off,h1,Nat.lt_of_lt_of_le h2 hb.size,(hb.cell (p:=⟨b,off+j,none⟩) h2).trans h3⟩
theorem eqAct_same (A:ActD) (w:World) :
  Calls Tryz.prog 26 #[.agg #[.int .i64 A.kind,.string A.name,.string A.text,.string A.toN],.agg #[.int .i64 A.kind,.string A.name,.string A.text,.string A.toN]] w fun e w' => e=.returned (.bool true)∧Below w.heap.size w w':=by
 obtain ⟨a0,a1,a2,a3⟩:=A
 have h0:(a0 == a0)=true:=beq_self_eq_true _
 have h1:(a1.toList == a1.toList)=true:=beq_self_eq_true _
 have h2:(a2.toList == a2.toList)=true:=beq_self_eq_true _
 have h3:(a3.toList == a3.toList)=true:=beq_self_eq_true _
 go_enter Tryz.func26,Tryz.ntmps26
 go_wp2
 go_ret
 exact ⟨rfl,((Below.refl _ w).alloc (Nat.le_refl _) _).alloc (by simp) _⟩
def ActsIn (C:Array Value) (fs:List ActD) (k:Nat):Prop:=∀ j (h:j < fs.length),j < k→C[j * 4]? = some (.int .i64 fs[j].kind)∧C[j * 4+1]? = some (.string fs[j].name)∧C[j * 4+2]? = some (.string fs[j].text)∧C[j * 4+3]? = some (.string fs[j].toN)
theorem Tryz.infoAct:(Tryz.prog.info? 51).map (fun i => (i.zero,i.size,i.bytes))=some (some (.agg #[.int .i64 0,.string ⟨#[]⟩,.string ⟨#[]⟩,.string ⟨#[]⟩]),4,56):=by kernel_rfl
def putAct (C:Array Value) (k:Nat) (A:ActD):Array Value:=(((C.setIfInBounds (k * 4) (.int .i64 A.kind)).setIfInBounds (k * 4+1) (.string A.name)).setIfInBounds (k * 4+2) (.string A.text)).setIfInBounds (k * 4+3) (.string A.toN)
theorem putAct_size (C:Array Value) (k:Nat) (A:ActD):(putAct C k A).size=C.size:=by simp [putAct]
theorem actsIn_put {C:Array Value} {fs:List ActD} {k:Nat} (h:ActsIn C fs k) (hk:k < fs.length) (hs:fs.length * 4≤C.size):ActsIn (putAct C k fs[k]) fs (k+1):=by
 intro j hj hjk
 unfold putAct
 by_cases e:j=k
 ·
  subst e
  refine ⟨?_,?_,?_,?_⟩ <;> simp [Array.getElem?_setIfInBounds] <;> omega
 ·
  obtain ⟨h0,h1,h2,h3⟩:=h j hj (by omega)
  refine ⟨?_,?_,?_,?_⟩
  · rw [Array.getElem?_setIfInBounds_ne (by omega),Array.getElem?_setIfInBounds_ne (by omega),Array.getElem?_setIfInBounds_ne (by omega),Array.getElem?_setIfInBounds_ne (by omega)];exact h0
  · rw [Array.getElem?_setIfInBounds_ne (by omega),Array.getElem?_setIfInBounds_ne (by omega),Array.getElem?_setIfInBounds_ne (by omega),Array.getElem?_setIfInBounds_ne (by omega)];exact h1
  · rw [Array.getElem?_setIfInBounds_ne (by omega),Array.getElem?_setIfInBounds_ne (by omega),Array.getElem?_setIfInBounds_ne (by omega),Array.getElem?_setIfInBounds_ne (by omega)];exact h2
  · rw [Array.getElem?_setIfInBounds_ne (by omega),Array.getElem?_setIfInBounds_ne (by omega),Array.getElem?_setIfInBounds_ne (by omega),Array.getElem?_setIfInBounds_ne (by omega)];exact h3
theorem actsAt_own {w:World} {g:Nat} {C:Array Value} {t:TypeId} {fs:List ActD} (h:w.heap[g]? = some (.cells C t (0,0))) (hC:ActsIn C fs fs.length):ActsAt w (some ⟨g,0,none⟩) fs:=by
 intro j hj
 obtain ⟨h0,h1,h2,h3⟩:=hC j hj hj
 have hg:g < w.heap.size:=(Array.getElem?_eq_some_iff.1 h).1
 refine ⟨g,0,rfl,hg,?_,?_,?_,?_⟩
 · rw [Nat.zero_add,cell_of_row w g _ C t (0,0) h,h0]
 · rw [Nat.zero_add,cell_of_row w g _ C t (0,0) h,h1]
 · rw [Nat.zero_add,cell_of_row w g _ C t (0,0) h,h2]
 · rw [Nat.zero_add,cell_of_row w g _ C t (0,0) h,h3]
theorem eqActS_same (fs:List ActD) (ao ao2:Option Addr) (cap cap2:Nat) (w:World) (hl:fs.length≤maxLen) (h1:ActsAt w ao fs) (h2:ActsAt w ao2 fs) :
  Calls Tryz.prog 9 #[.slice ao fs.length cap,.slice ao2 fs.length cap2] w fun e w' => e=.returned (.bool true)∧Below w.heap.size w w':=by
 have H1:=hide h1
 have H2:=hide h2
 clear h1 h2
 unfold maxLen at hl
 have hne:(!((fs.length:Int) == (fs.length:Int)))=false:=by simp
 go_enter Tryz.func9,Tryz.ntmps9
 go_wp2
 go_loopw [5] (fun ii wr => ∃ (k:Nat),ii=.int .i64 k∧k≤fs.length∧Hid (Below w.heap.size w wr)) (fun ii _ => fs.length - (intOf ii).toNat)
 case atStart => exact ⟨0,rfl,Nat.zero_le _,Below.refl _ _⟩
 case round =>
  obtain ⟨k,rfl,hk,HB⟩:=hrel
  by_cases hlt:k < fs.length
  ·
   have hlt':decide ((k:Int) < (fs.length:Int))=true:=by simp;omega
   obtain ⟨b,off,rfl,hbw,hc0,hc1,hc2,hc3⟩:=actsAt_keep H1.out HB.out k hlt
   obtain ⟨b',off',rfl,hbw',hd0,hd1,hd2,hd3⟩:=actsAt_keep H2.out HB.out k hlt
   generalize fs[k]=F at hc0 hc1 hc2 hc3 hd0 hd1 hd2 hd3
   have hi0:(0:Int)≤(k:Int):=by omega
   have hi1:(k:Int) < (fs.length:Int):=by omega
   have HBw:=hide hbw
   have HBw':=hide hbw'
   clear hbw hbw'
   go_wp2_with fail
   go_region_held3 (fun w' => w'.cell? ⟨b,off+k * 4,none⟩=some (.int .i64 F.kind)∧w'.cell? ⟨b,off+k * 4+1,none⟩=some (.string F.name)∧w'.cell? ⟨b,off+k * 4+2,none⟩=some (.string F.text)∧w'.cell? ⟨b,off+k * 4+3,none⟩=some (.string F.toN)∧w'.cell? ⟨b',off'+k * 4,none⟩=some (.int .i64 F.kind)∧w'.cell? ⟨b',off'+k * 4+1,none⟩=some (.string F.name)∧w'.cell? ⟨b',off'+k * 4+2,none⟩=some (.string F.text)∧w'.cell? ⟨b',off'+k * 4+3,none⟩=some (.string F.toN)) (first | go_keep | (exact ⟨(b1.cell (p:=⟨b,off+k * 4,none⟩) HBw.out).trans hc0,(b1.cell (p:=⟨b,off+k * 4+1,none⟩) HBw.out).trans hc1,(b1.cell (p:=⟨b,off+k * 4+2,none⟩) HBw.out).trans hc2,(b1.cell (p:=⟨b,off+k * 4+3,none⟩) HBw.out).trans hc3,(b1.cell (p:=⟨b',off'+k * 4,none⟩) HBw'.out).trans hd0,(b1.cell (p:=⟨b',off'+k * 4+1,none⟩) HBw'.out).trans hd1,(b1.cell (p:=⟨b',off'+k * 4+2,none⟩) HBw'.out).trans hd2,(b1.cell (p:=⟨b',off'+k * 4+3,none⟩) HBw'.out).trans hd3⟩)) ((go_at_call 26;refine (eqAct_same F _).mono ?_;rintro e w1 ⟨rfl,b1⟩))
   go_wp2
   go_roundw
   case rel => exact ⟨k+1,by go_num,by omega,HB.out.trans (((Below.refl _ _).drew.trans b1).mono HB.out.size)⟩
   case measure => simp [intOf];omega
  ·
   have hlt':decide ((k:Int) < (fs.length:Int))=false:=by simp;omega
   go_wp2
   go_ret
   exact ⟨rfl,HB.out⟩
def markActD (k:Nat):ActD:=⟨((k:Nat):Int),⟨(mk (k+1)).toArray⟩,⟨(mk (k+2)).toArray⟩,⟨(mk (k+3)).toArray⟩⟩
def markActDs (k n:Nat):List ActD:=(List.range n).map (fun j => markActD (k+4 * j))
theorem markActDs_length (k n:Nat):(markActDs k n).length=n:=by simp [markActDs]
theorem markActDs_get (k n j:Nat) (h:j < (markActDs k n).length):(markActDs k n)[j]=markActD (k+4 * j):=by simp [markActDs]
theorem markAct_1 (K:Nat) (w:World) (h:K≤20000000):Calls Tryz.prog 29 #[.int .i64 ((K:Int)+1)] w fun e w' => e=.returned (.string ⟨(mk (K+1)).toArray⟩)∧Below w.heap.size w w':=by
 have h:=mark_any (K+1) w (by omega) (by omega)
 rw [show (((K+1:Nat)):Int)=(K:Int)+1 from by omega] at h
 exact h
theorem markAct_2 (K:Nat) (w:World) (h:K≤20000000):Calls Tryz.prog 29 #[.int .i64 ((K:Int)+1+1)] w fun e w' => e=.returned (.string ⟨(mk (K+2)).toArray⟩)∧Below w.heap.size w w':=by
 have h:=mark_any (K+2) w (by omega) (by omega)
 rw [show (((K+2:Nat)):Int)=(K:Int)+1+1 from by omega] at h
 exact h
theorem markAct_3 (K:Nat) (w:World) (h:K≤20000000):Calls Tryz.prog 29 #[.int .i64 ((K:Int)+1+1+1)] w fun e w' => e=.returned (.string ⟨(mk (K+3)).toArray⟩)∧Below w.heap.size w w':=by
 have h:=mark_any (K+3) w (by omega) (by omega)
 rw [show (((K+3:Nat)):Int)=(K:Int)+1+1+1 from by omega] at h
 exact h
theorem markActS_row (g cap n:Nat) (C0:Array Value) (k:Nat) (w:World) (hn:n≤1048576) (hk0:0 < k) (hk:k≤10000000) (hC:w.heap[g]? = some (.cells C0 51 (0,0))) (hs:n * 4≤C0.size) :
  Calls Tryz.prog 11 #[.slice (some ⟨g,0,none⟩) n cap,.int .i64 (k:Int)] w fun e w' => e=.returned (.int .i64 ((k+4 * n:Nat):Int))∧(∃ C:Array Value,w'.heap[g]? = some (.cells C 51 (0,0))∧C.size=C0.size∧ActsIn C (markActDs k n) n)∧w.grownBy w' (some g):=by
 have HC0:=hide hC
 clear hC
 go_enter Tryz.func11,Tryz.ntmps11
 go_wp2
 go_loopw [1,5] (fun kk ii wr => ∃ (j:Nat) (C:Array Value),kk=.int .i64 ((k+4 * j:Nat):Int)∧ii=.int .i64 j∧j≤n∧Hid (wr.heap[g]? = some (.cells C 51 (0,0)))∧C.size=C0.size∧Hid (ActsIn C (markActDs k n) j)∧Hid (w.grownBy wr (some g))) (fun _ ii _ => n - (intOf ii).toNat)
 case atStart => exact ⟨0,C0,rfl,rfl,Nat.zero_le _,HC0,rfl,fun j _ hj => absurd hj (by omega),World.grownBy.refl _ _⟩
 case round =>
  obtain ⟨j,C,rfl,rfl,hj,HC,hCs,HI,HG⟩:=hrel
  by_cases hlt:j < n
  ·
   have hlt':decide ((j:Int) < (n:Int))=true:=by simp;omega
   have hi0:(0:Int)≤(j:Int):=by omega
   have hi1:(j:Int) < (n:Int):=by omega
   have hgw:g < wr.heap.size:=(Array.getElem?_eq_some_iff.1 HC.out).1
   obtain ⟨K,HK⟩:∃ K:Nat,Hid (K=k+4 * j):=⟨_,hide rfl⟩
   have hKb:0 < K∧K≤15000000:=by have:=HK.out;omega
   rw [← HK.out]
   have hq0:=cell_of_row wr g (j * 4) _ _ (0,0) HC.out
   have hf0:=frozen_of_row wr g (j * 4) _ _ HC.out
   rw [Array.getElem?_eq_getElem (by first | omega | (simp;omega))] at hq0
   go_wp2_with fail
   refine (markAct_1 K _ (by omega)).mono ?_
   rintro e w1 ⟨rfl,b1⟩
   have HC1:Hid (w1.heap[g]? = some (.cells (C.setIfInBounds (j * 4) (.int .i64 ((K:Nat):Int))) 51 (0,0))):=(b1.block g (by simpa [World.setCell] using hgw)).trans (heap_setCell_same _ g _ _ _ _ HC.out)
   have hgw1:g < w1.heap.size:=(Array.getElem?_eq_some_iff.1 HC1.out).1
   have HG1:Hid (w.grownBy w1 (some g)):=grownBy_trans (grownBy_store HG.out (j * 4) _) (grownBy_below _ b1)
   clear hq0 hf0
   have hq1:=cell_of_row w1 g (j * 4+1) _ _ (0,0) HC1.out
   have hf1:=frozen_of_row w1 g (j * 4+1) _ _ HC1.out
   rw [Array.getElem?_eq_getElem (by first | omega | (simp;omega))] at hq1
   go_wp2_with fail
   refine (markAct_2 K _ (by omega)).mono ?_
   rintro e w2 ⟨rfl,b2⟩
   have HC2:Hid (w2.heap[g]? = some (.cells ((C.setIfInBounds (j * 4) (.int .i64 ((K:Nat):Int))).setIfInBounds (j * 4+1) (.string ⟨(mk (K+1)).toArray⟩)) 51 (0,0))):=(b2.block g (by have:=b1.size;simp [World.setCell] at *;omega)).trans (heap_setCell_same _ g _ _ _ _ HC1.out)
   have hgw2:g < w2.heap.size:=(Array.getElem?_eq_some_iff.1 HC2.out).1
   have HG2:Hid (w.grownBy w2 (some g)):=grownBy_trans (grownBy_store HG1.out (j * 4+1) _) (grownBy_below _ b2)
   clear hq1 hf1
   have hq2:=cell_of_row w2 g (j * 4+2) _ _ (0,0) HC2.out
   have hf2:=frozen_of_row w2 g (j * 4+2) _ _ HC2.out
   rw [Array.getElem?_eq_getElem (by first | omega | (simp;omega))] at hq2
   go_wp2_with fail
   refine (markAct_3 K _ (by omega)).mono ?_
   rintro e w3 ⟨rfl,b3⟩
   have HC3:Hid (w3.heap[g]? = some (.cells (((C.setIfInBounds (j * 4) (.int .i64 ((K:Nat):Int))).setIfInBounds (j * 4+1) (.string ⟨(mk (K+1)).toArray⟩)).setIfInBounds (j * 4+2) (.string ⟨(mk (K+2)).toArray⟩)) 51 (0,0))):=(b3.block g (by have:=b2.size;simp [World.setCell] at *;omega)).trans (heap_setCell_same _ g _ _ _ _ HC2.out)
   have hgw3:g < w3.heap.size:=(Array.getElem?_eq_some_iff.1 HC3.out).1
   have HG3:Hid (w.grownBy w3 (some g)):=grownBy_trans (grownBy_store HG2.out (j * 4+2) _) (grownBy_below _ b3)
   clear hq2 hf2
   have hq3:=cell_of_row w3 g (j * 4+3) _ _ (0,0) HC3.out
   have hf3:=frozen_of_row w3 g (j * 4+3) _ _ HC3.out
   rw [Array.getElem?_eq_getElem (by first | omega | (simp;omega))] at hq3
   go_wp2_with fail
   go_roundw
   case rel =>
    have hl:=markActDs_length k n
    have HP:=actsIn_put HI.out (by omega) (by omega)
    rw [markActDs_get,← HK.out] at HP
    refine ⟨j+1,putAct C j (markActD K),?_,by go_num,by omega,heap_setCell_same _ g _ _ _ _ HC3.out,by rw [putAct_size];exact hCs,HP,grownBy_store HG3.out (j * 4+3) _⟩
    have:=HK.out
    congr 1
    omega
   case measure => simp [intOf];omega
  ·
   have hlt':decide ((j:Int) < (n:Int))=false:=by simp;omega
   have hje:j=n:=by omega
   subst hje
   go_wp2
   go_ret
   exact ⟨rfl,⟨C,HC.out,hCs,HI.out⟩,HG.out⟩
def cellsAct:List ActD→List Value
 | [] => []
 | A :: r => .int .i64 A.kind :: .string A.name :: .string A.text :: .string A.toN :: cellsAct r
theorem cellsAct_append:∀ (a b:List ActD),cellsAct (a ++ b)=cellsAct a ++ cellsAct b
 | [],_ => rfl
 | A :: r,b => by simp [cellsAct,cellsAct_append r b]
theorem cellsAct_length:∀ a:List ActD,(cellsAct a).length=a.length * 4
 | [] => rfl
 | A :: r => by simp [cellsAct,cellsAct_length r];omega
theorem cellsAct_one:∀ (a:List ActD),∀ u ∈ cellsAct a,u.oneCell' = true
 | [],u,h => absurd h List.not_mem_nil
 | A :: r,u,h => by
  simp only [cellsAct,List.mem_cons] at h
  rcases h with rfl | rfl | rfl | rfl | h
  · rfl
  · rfl
  · rfl
  · rfl
  · exact cellsAct_one r u h
theorem cellsAct_get:∀ (a:List ActD) (j:Nat) (h:j < a.length),(cellsAct a)[j * 4]? = some (.int .i64 a[j].kind)∧(cellsAct a)[j * 4+1]? = some (.string a[j].name)∧(cellsAct a)[j * 4+2]? = some (.string a[j].text)∧(cellsAct a)[j * 4+3]? = some (.string a[j].toN)
 | [],_,h => absurd h (by simp)
 | A :: r,0,_ => by simp [cellsAct]
 | A :: r,j+1,h => by
  have:=cellsAct_get r j (by simpa using h)
  have e:(j+1) * 4=j * 4+4:=by omega
  simp only [cellsAct,e]
  simpa using this
def RowAct (w:World) (B:Nat) (v:Value) (fs:List ActD):Prop:=(v=.slice none 0 0∧fs=[]) ∨
 ∃ (g cap:Nat) (C:Array Value),v=.slice (some ⟨g,0,none⟩) fs.length cap∧B≤g∧w.heap[g]? = some (.cells C 51 (0,0))∧fs.length * 4≤C.size∧ActsIn C fs fs.length
theorem rowAct_at {w:World} {B:Nat} {v:Value} {fs:List ActD} (h:RowAct w B v fs):∃ ao cap,v=.slice ao fs.length cap∧ActsAt w ao fs:=by
 rcases h with ⟨rfl,rfl⟩ | ⟨g,cap,C,rfl,_,hC,_,hI⟩
 · exact ⟨none,0,rfl,fun j hj => absurd hj (by simp)⟩
 · exact ⟨_,cap,rfl,actsAt_own hC hI⟩
theorem rowAct_lt {w:World} {B:Nat} {v:Value} {fs:List ActD} (h:RowAct w B v fs):∀ g,v.ownBlock=some g→B≤g∧g < w.heap.size:=by
 rcases h with ⟨rfl,rfl⟩ | ⟨g,cap,C,rfl,hB,hC,_,hI⟩
 · intro g h;cases h
 ·
  intro g' h
  obtain rfl:g=g':=by simpa [Value.ownBlock] using h
  exact ⟨hB,(Array.getElem?_eq_some_iff.1 hC).1⟩
theorem rowAct_keep {w w':World} {B:Nat} {v:Value} {fs:List ActD} (h:RowAct w B v fs) (hk:∀ g,v.ownBlock=some g→w'.heap[g]? = w.heap[g]?):RowAct w' B v fs:=by
 rcases h with ⟨rfl,rfl⟩ | ⟨g,cap,C,rfl,hB,hC,hs,hI⟩
 · exact .inl ⟨rfl,rfl⟩
 · exact .inr ⟨g,cap,C,rfl,hB,(hk g rfl).trans hC,hs,hI⟩
theorem rowAct_below {w w':World} {B:Nat} {v:Value} {fs:List ActD} (h:RowAct w B v fs) (hb:Below w.heap.size w w'):RowAct w' B v fs :=
 rowAct_keep h (fun g hg => hb.block g (rowAct_lt h g hg).2)
theorem rowAct_grown {w w':World} {B:Nat} {v:Value} {fs:List ActD} {r:Option Nat} (h:RowAct w B v fs) (hb:w.grownBy w' r) (hr:∀ g,v.ownBlock=some g→some g ≠ r):RowAct w' B v fs :=
 rowAct_keep h (fun g hg => hb.block g (rowAct_lt h g hg).2 (hr g hg))
theorem rowAct_le {w:World} {B B':Nat} {v:Value} {fs:List ActD} (h:RowAct w B v fs) (hB:B'≤B):RowAct w B' v fs:=by
 rcases h with h | ⟨g,cap,C,h1,h2,h3⟩
 · exact .inl h
 · exact .inr ⟨g,cap,C,h1,by omega,h3⟩
theorem rowAct_rows {w:World} {B n c:Nat} {a:Option Addr} {fs:List ActD} (h:RowAct w B (.slice a n c) fs):ActsAt w a fs:=by
 obtain ⟨ao,cap,e,hf⟩:=rowAct_at h
 cases e
 exact hf
theorem take_getAct {C:Array Value} {xs:List Value} {n:Nat} (h:C.toList.take n=xs) {j:Nat} {u:Value} (hj:j < n) (hu:xs[j]? = some u):C[j]? = some u:=by
 rw [← h,List.getElem?_take_of_lt hj] at hu
 simpa using hu
theorem rowAct_own {w:World} {B:Nat} {v:Value} {fs:List ActD} (h:w.ownsRow B 51 4 v fs.length (cellsAct fs)):RowAct w B v fs:=by
 rcases h.2 with ⟨rfl,hn⟩ | ⟨g,cap,cur,rfl,hB,hC,hle,_,hs,ht⟩
 · exact .inl ⟨rfl,List.eq_nil_of_length_eq_zero hn⟩
 ·
  refine .inr ⟨g,cap,cur,rfl,hB,hC,by omega,?_⟩
  intro j hj _
  obtain ⟨h0,h1,h2,h3⟩:=cellsAct_get fs j hj
  exact ⟨take_getAct ht (by omega) h0,take_getAct ht (by omega) h1,take_getAct ht (by omega) h2,take_getAct ht (by omega) h3⟩
theorem app_act {ops:Array Oper} {rest:List Oper} {o:Oper} {a:Act} {Q:Exit→Act→World→Prop} (W:World) (B:Nat) (hgd:o.guard=none) (s y:Operand)
  (ho:o.op=.call { callee:=.builtin .append,args:=#[s,y],argTypes:=#[35,35] }) (v:Value) (l:List ActD) (F:ActD) (hs:a.eval s=v)
  (hown:W.ownsRow B 51 4 v l.length (cellsAct l)) (k:Nat) (hx:a.eval y=.slice (some ⟨k,0,none⟩) 1 1) (hblk:W.heap[k]? = some (.cells #[.int .i64 F.kind,.string F.name,.string F.text,.string F.toN] 51 (0,0)))
  (hlen:l.length≤1048576) (hbase:B≤W.heap.size)
  (h:∀ g cap w',w'.ownsRow B 51 4 (.slice (some ⟨g,0,none⟩) (l.length+1) cap) (l ++ [F]).length (cellsAct (l ++ [F]))→Below B W w'→B≤g→g < w'.heap.size→wpList Tryz.prog ops Q rest (a.put o.dst (.slice (some ⟨g,0,none⟩) (l.length+1) cap)) w') :
  wpList Tryz.prog ops Q (o :: rest) a W:=by
 obtain ⟨i0,hi,hz0,hz1,hz2⟩:=info_parts Tryz.infoAct
 refine wpList_append_lies W hgd s y 35 ho B 51 i0 (.agg #[.int .i64 0,.string ⟨#[]⟩,.string ⟨#[]⟩,.string ⟨#[]⟩]) 4 56 Tryz.underlying35 hi hz0 hz1 hz2 rfl (by decide) v l.length (cellsAct l) hs hown ⟨k,0,none⟩ 1 1 (cellsAct [F]) hx (by rw [cellsAct_length];rfl)
  (fun j u hj => World.news_of_block hblk j u hj) (cellsAct_one [F]) (by omega) (by unfold maxLen;omega) (by omega) hbase W.heap.size rfl ?_
 intro g cap w' hown' hgrow hg hgl
 have hlt:=hown.lt
 refine h g cap w' ?_ ((Below.refl B W).grown hgrow hbase (fun k hk => (hlt k hk).1)) ?_ hgl
 ·
  rw [cellsAct_append,List.length_append]
  exact hown'
 ·
  rcases hg with hg | rfl
  · exact (hlt g hg).1
  · exact hbase
theorem app_acts {ops:Array Oper} {rest:List Oper} {o:Oper} {a:Act} {Q:Exit→Act→World→Prop} (W:World) (B:Nat) (hgd:o.guard=none) (s y:Operand)
  (ho:o.op=.call { callee:=.builtin .append,args:=#[s,y],argTypes:=#[35,35] }) (v:Value) (l rs:List ActD) (hs:a.eval s=v)
  (hown:W.ownsRow B 51 4 v l.length (cellsAct l)) (k n:Nat) (hn:rs.length=n) (hx:a.eval y=.slice (some ⟨k,0,none⟩) n n) (hblk:W.heap[k]? = some (.cells (cellsAct rs).toArray 51 (0,0)))
  (hlen:l.length≤1048576) (hn0:0 < n) (hn1:n≤1000) (hbase:B≤W.heap.size)
  (h:∀ g cap w',w'.ownsRow B 51 4 (.slice (some ⟨g,0,none⟩) (l.length+n) cap) (l ++ rs).length (cellsAct (l ++ rs))→Below B W w'→B≤g→g < w'.heap.size→wpList Tryz.prog ops Q rest (a.put o.dst (.slice (some ⟨g,0,none⟩) (l.length+n) cap)) w') :
  wpList Tryz.prog ops Q (o :: rest) a W:=by
 subst hn
 obtain ⟨i0,hi,hz0,hz1,hz2⟩:=info_parts Tryz.infoAct
 refine wpList_append_lies W hgd s y 35 ho B 51 i0 (.agg #[.int .i64 0,.string ⟨#[]⟩,.string ⟨#[]⟩,.string ⟨#[]⟩]) 4 56 Tryz.underlying35 hi hz0 hz1 hz2 rfl (by decide) v l.length (cellsAct l) hs hown ⟨k,0,none⟩ rs.length rs.length (cellsAct rs) hx (by rw [cellsAct_length])
  (fun j u hj => World.news_of_block hblk j u (by simpa using hj)) (cellsAct_one rs) (by omega) (by unfold maxLen;omega) (by omega) hbase W.heap.size rfl ?_
 intro g cap w' hown' hgrow hg hgl
 have hlt:=hown.lt
 refine h g cap w' ?_ ((Below.refl B W).grown hgrow hbase (fun k hk => (hlt k hk).1)) ?_ hgl
 ·
  rw [cellsAct_append,List.length_append]
  exact hown'
 ·
  rcases hg with hg | rfl
  · exact (hlt g hg).1
  · exact hbase
theorem app_actsR {ops:Array Oper} {rest:List Oper} {o:Oper} {a:Act} {Q:Exit→Act→World→Prop} (W:World) (B:Nat) (hgd:o.guard=none) (s y:Operand)
  (ho:o.op=.call { callee:=.builtin .append,args:=#[s,y],argTypes:=#[35,35] }) (v:Value) (l rs:List ActD) (hs:a.eval s=v)
  (hown:W.ownsRow B 51 4 v l.length (cellsAct l)) (B2 n:Nat) (v2:Value) (hn:rs.length=n) (hx:a.eval y=v2) (hown2:W.ownsRow B2 51 4 v2 rs.length (cellsAct rs))
  (hlen:l.length≤1048576) (hn0:0 < n) (hn1:n≤1000000) (hbase:B≤W.heap.size)
  (h:∀ g cap w',w'.ownsRow B 51 4 (.slice (some ⟨g,0,none⟩) (l.length+n) cap) (l ++ rs).length (cellsAct (l ++ rs))→Below B W w'→B≤g→g < w'.heap.size→wpList Tryz.prog ops Q rest (a.put o.dst (.slice (some ⟨g,0,none⟩) (l.length+n) cap)) w') :
  wpList Tryz.prog ops Q (o :: rest) a W:=by
 subst hn
 obtain ⟨i0,hi,hz0,hz1,hz2⟩:=info_parts Tryz.infoAct
 rcases hown2.2 with ⟨rfl,hn⟩ | ⟨g2,cap2,cur2,rfl,-⟩
 · omega
 refine wpList_append_lies W hgd s y 35 ho B 51 i0 (.agg #[.int .i64 0,.string ⟨#[]⟩,.string ⟨#[]⟩,.string ⟨#[]⟩]) 4 56 Tryz.underlying35 hi hz0 hz1 hz2 rfl (by decide) v l.length (cellsAct l) hs hown ⟨g2,0,none⟩ rs.length cap2 (cellsAct rs) hx (by rw [cellsAct_length])
  (fun j u hj => hown2.cells (g:=g2) rfl j u hj) (cellsAct_one rs) (by omega) (by unfold maxLen;omega) (by omega) hbase W.heap.size rfl ?_
 intro g cap w' hown' hgrow hg hgl
 have hlt:=hown.lt
 refine h g cap w' ?_ ((Below.refl B W).grown hgrow hbase (fun k hk => (hlt k hk).1)) ?_ hgl
 ·
  rw [cellsAct_append,List.length_append]
  exact hown'
 ·
  rcases hg with hg | rfl
  · exact (hlt g hg).1
  · exact hbase
theorem isSegmentBelow_any (m:Nat) (nm:ByteArray) (w:World) (hm:m≤100) :
  Calls Tryz.prog 116 #[.int .i64 (m:Int),.string nm] w fun e w' => e=.returned (.bool (isBelow m nm))∧w' = w:=by
 obtain ⟨R,HR⟩:∃ R,Hid (isBelow m nm=R):=⟨_,hide rfl⟩
 rw [HR.out]
 go_enter Tryz.func116,Tryz.ntmps116
 go_wp2_with fail
 go_loopw [7] (fun ii wr => ∃ (k:Nat),ii=.int .i64 k∧k≤m∧Hid (isBelow k nm=false)∧wr=w) (fun ii _ => m - (intOf ii).toNat)
 case atStart => exact ⟨0,rfl,Nat.zero_le _,rfl,rfl⟩
 case round =>
  obtain ⟨k,rfl,hk,HK,rfl⟩:=hrel
  by_cases hlt:k < m
  ·
   have hlt':decide ((k:Int) < (m:Int))=true:=by simp;omega
   obtain ⟨X,HX⟩:∃ X,Hid (segNm (k:Int)=X):=⟨_,hide rfl⟩
   have HN:Hid (∀ W:World,Calls Tryz.prog 99 #[.int .i64 (k:Int)] W fun e w' => e=.returned (.string X)∧w' = W):=fun W => by rw [← HX.out];exact implSegName_any (k:Int) W
   cases hb:(X.toList == nm.toList) with
   | true =>
    have hE:Hid (R=true):=by show _=_;rw [← HR.out];exact isBelow_at hlt (by rw [HX.out];exact hb)
    go_wp2_with fail
    refine (HN.out _).mono ?_
    rintro e w1 ⟨rfl,rfl⟩
    go_wp2
    go_ret
    rw [hE.out]
    exact ⟨rfl,rfl⟩
   | false =>
    have hE:Hid (isBelow (k+1) nm=false):=by show _=_;rw [isBelow_succ,HK.out,HX.out,hb];rfl
    go_wp2_with fail
    refine (HN.out _).mono ?_
    rintro e w1 ⟨rfl,rfl⟩
    go_wp2
    go_roundw
    case rel => exact ⟨k+1,by go_num,by omega,hE,by first | rfl | trivial⟩
    case measure => simp [intOf];omega
  ·
   have hlt':decide ((k:Int) < (m:Int))=false:=by simp;omega
   have hke:k=m:=by omega
   subst hke
   have hE:Hid (R=false):=by show _=_;rw [← HR.out];exact HK.out
   go_wp2
   go_ret
   rw [hE.out]
   exact ⟨rfl,rfl⟩
theorem seven_cells {W:World} {g:Nat} {a b c d e f f':Value} {t:TypeId} (h:W.heap[g]? = some (.cells #[a,b,c,d,e,f,f'] t (0,0))):W.cell? ⟨g,0,none⟩=some a∧W.cell? ⟨g,1,none⟩=some b∧W.cell? ⟨g,2,none⟩=some c∧W.cell? ⟨g,3,none⟩=some d∧W.cell? ⟨g,4,none⟩=some e∧W.cell? ⟨g,5,none⟩=some f∧W.cell? ⟨g,6,none⟩=some f' :=
 ⟨(cell_of_row W g 0 _ _ (0,0) h).trans rfl,(cell_of_row W g 1 _ _ (0,0) h).trans rfl,(cell_of_row W g 2 _ _ (0,0) h).trans rfl,(cell_of_row W g 3 _ _ (0,0) h).trans rfl,(cell_of_row W g 4 _ _ (0,0) h).trans rfl,(cell_of_row W g 5 _ _ (0,0) h).trans rfl,(cell_of_row W g 6 _ _ (0,0) h).trans rfl⟩
theorem lastOf_any (l:List SegD) (v:Value) (B K:Nat) (w:World) (hl:l.length≤100) (h0:0 < l.length) (h:BuildG w B K v l) :
  Calls Tryz.prog 90 #[v] w fun e w' => (∃ a c a' c',e=.returned (.agg #[.int .i64 ((l[l.length - 1]'(by omega)).num:Int),.int .i64 ((l[l.length - 1]'(by omega)).frm:Int),.slice a (l[l.length - 1]'(by omega)).bs.length c,.slice a' (l[l.length - 1]'(by omega)).pls.length c',.int .i64 ((l[l.length - 1]'(by omega)).fin:Int),.bool (l[l.length - 1]'(by omega)).right,.bool (l[l.length - 1]'(by omega)).torn])∧RowBatch w K (.slice a (l[l.length - 1]'(by omega)).bs.length c) (l[l.length - 1]'(by omega)).bs)∧Below w.heap.size w w':=by
 obtain ⟨ao,cap,rfl⟩:=buildG_form h
 obtain ⟨g,hg,hgw,hc0,hc1,⟨a,c,hc2,hrb⟩,⟨a',c',hc3,hrp⟩,hc4,hc5,hc6⟩:=buildG_at h (l.length - 1) (by omega)
 subst hg
 have HRB:=hide hrb
 clear hrb hrp h
 generalize l[l.length - 1]'(by omega)=F at hc0 hc1 hc2 hc3 hc4 hc5 hc6 HRB
 have hj0:(0:Int)≤(l.length:Int) - 1:=by omega
 have hj1:(l.length:Int) - 1 < (l.length:Int):=by omega
 have hjn:((l.length:Int) - 1).toNat=l.length - 1:=by omega
 have hjw:IntKind.i64.wrap ((l.length:Int) - 1)=(l.length:Int) - 1:=by rw [IntKind.wrap_i64];omega
 go_enter Tryz.func90,Tryz.ntmps90
 go_wp2
 obtain ⟨y0,y1,y2,y3,y4,y5,y6⟩:=seven_cells (heap_alloc_new w (.cells #[.int .i64 (F.num:Int),.int .i64 (F.frm:Int),.slice a F.bs.length c,.slice a' F.pls.length c',.int .i64 (F.fin:Int),.bool F.right,.bool F.torn] 158))
 refine bodyPost_ret (v:=.agg #[.int .i64 (F.num:Int),.int .i64 (F.frm:Int),.slice a F.bs.length c,.slice a' F.pls.length c',.int .i64 (F.fin:Int),.bool F.right,.bool F.torn]) ?_ rfl ?_
 · simp [results,Tryz.results90,go_sem,y0,y1,y2,y3,y4,y5,y6]
 · exact ⟨⟨a,c,a',c',rfl,HRB.out⟩,(Below.refl _ w).alloc (Nat.le_refl _) _⟩
theorem newFileActs_any (nm:ByteArray) (ts:List ByteArray) (ao:Option Addr) (cap:Nat) (w:World) (hl:ts.length≤1000000) (hts:TextsAt w ao ts) :
  Calls Tryz.prog 98 #[.string nm,.slice ao ts.length cap] w fun e w' => (∃ a c,e=.returned (.slice a (ts.length+2) c)∧w'.ownsRow w.heap.size 51 4 (.slice a (ts.length+2) c) (newsA nm ts).length (cellsAct (newsA nm ts)))∧Below w.heap.size w w':=by
 have HTS:=hide hts
 clear hts
 go_enter Tryz.func98,Tryz.ntmps98
 go_wp2_with fail
 go_loopw [5,10] (fun vo ii wr => ∃ (k:Nat),ii=.int .i64 k∧k≤ts.length∧Hid (wr.ownsRow w.heap.size 51 4 vo ((ts.take k).map addA).length (cellsAct ((ts.take k).map addA)))∧Hid (Below w.heap.size w wr)) (fun _ ii _ => ts.length - (intOf ii).toNat)
 case atStart => exact ⟨0,rfl,Nat.zero_le _,World.ownsRow_nil _ _ _ _,Below.refl _ _⟩
 case round =>
  obtain ⟨k,rfl,hk,HO,HB⟩:=hrel
  have hws:=HB.out.size
  by_cases hlt:k < ts.length
  ·
   have hlt':decide ((k:Int) < (ts.length:Int))=true:=by simp;omega
   have hi0:(0:Int)≤(k:Int):=by omega
   have hi1:(k:Int) < (ts.length:Int):=by omega
   obtain ⟨b,off,hab,hbw,hc0⟩:=textsAt_keep HTS.out HB.out k hlt
   have htk:=hide (List.take_succ_eq_append_getElem hlt)
   generalize ts[k]=T at hc0 htk
   subst hab
   obtain ⟨L,HL⟩:∃ L,Hid ((ts.take k).map addA=L):=⟨_,hide rfl⟩
   have hLl:L.length≤1048576:=by
    rw [← HL.out,List.length_map,List.length_take]
    omega
   rw [HL.out] at HO
   go_wp2_with fail
   refine (ownText_any ⟨#[109,43]⟩ _ (by decide)).mono ?_
   rintro e w3 ⟨rfl,b3⟩
   have B3:=hide b3
   have hw3:=b3.size
   clear b3
   go_wp2_with (at_builtin;refine app_act _ w.heap.size (by rfl) _ _ (by rfl) _ L (addA T) (by rfl) ((ownsRow_below HO.out B3.out).alloc _) w3.heap.size (by rfl) (heap_alloc_new w3 _) hLl (by simp;omega) ?_;intro g5 cap5 w5 ho5 hb5 hg5 hgl5;have HO5:=hide ho5;have HB5:=hide hb5;clear ho5 hb5 hg5 hgl5)
   go_roundw
   case rel =>
    refine ⟨k+1,by go_num,by omega,?_,((HB.out.trans (B3.out.mono hws)).alloc (by omega) _).trans HB5.out⟩
    show World.ownsRow _ _ _ _ _ _ _
    rw [htk.out,List.map_append,HL.out]
    exact HO5.out
   case measure => simp [intOf];omega
  ·
   have hlt':decide ((k:Int) < (ts.length:Int))=false:=by simp;omega
   have hke:k=ts.length:=by omega
   subst hke
   rw [List.take_length] at HO
   obtain ⟨L,HL⟩:∃ L,Hid (ts.map addA=L):=⟨_,hide rfl⟩
   have hLl:L.length≤1048576:=by
    rw [← HL.out,List.length_map]
    omega
   have hLe:Hid (L.length=ts.length):=by show _=_;rw [← HL.out,List.length_map]
   rw [HL.out] at HO
   have HE:Hid (newsA nm ts=L ++ [⟨2,nmNew,⟨#[]⟩,⟨#[]⟩⟩,⟨3,nmNew,⟨#[]⟩,nm⟩]):=by show _=_;unfold newsA;rw [HL.out]
   go_wp2_with fail
   refine (ownText_any ⟨#[109,43]⟩ _ (by decide)).mono ?_
   rintro e w3 ⟨rfl,b3⟩
   have B3:=hide b3
   have hw3:=b3.size
   clear b3
   go_wp2_with fail
   refine (ownText_any ⟨#[109,43]⟩ _ (by decide)).mono ?_
   rintro e w4 ⟨rfl,b4⟩
   have B4:=hide (B3.out.trans (b4.mono B3.out.size))
   have hw4:=b4.size
   clear b4
   go_wp2_with (at_builtin;refine app_acts _ w.heap.size (by rfl) _ _ (by rfl) _ L [⟨2,nmNew,⟨#[]⟩,⟨#[]⟩⟩,⟨3,nmNew,⟨#[]⟩,nm⟩] (by rfl) ((ownsRow_below HO.out B4.out).alloc _) w4.heap.size 2 (by rfl) (by rfl) (heap_alloc_new w4 _) hLl (by omega) (by omega) (by simp;omega) ?_;intro g5 cap5 w5 ho5 hb5 hg5 hgl5;have HO5:=hide ho5;have HB5:=hide hb5;clear ho5 hb5 hg5 hgl5)
   rw [hLe.out] at HO5 ⊢
   go_ret
   rw [HE.out]
   exact ⟨⟨_,_,rfl,HO5.out⟩,((HB.out.trans (B4.out.mono hws)).alloc (by omega) _).trans HB5.out⟩
theorem newFileActs_one (nm text:ByteArray) (k:Nat) (w:World) (hk:k < w.heap.size) (hc:w.cell? ⟨k,0,none⟩=some (.string text)) :
  Calls Tryz.prog 98 #[.string nm,.slice (some ⟨k,0,none⟩) 1 1] w fun e w' => (∃ a c,e=.returned (.slice a 3 c)∧w'.ownsRow w.heap.size 51 4 (.slice a 3 c) (newA nm text).length (cellsAct (newA nm text)))∧Below w.heap.size w w' :=
 newFileActs_any nm [text] (some ⟨k,0,none⟩) 1 w (by simp) (fun j hj => by
  have hj0:j=0:=by simp at hj;omega
  subst hj0
  exact ⟨k,0,rfl,hk,hc⟩)
theorem specFileAt_some' (fs:List FileD) (ao:Option Addr) (cap:Nat) (nm:ByteArray) (w:World) (F:FileD) (hl:fs.length≤1048576) (hfs:FilesAt w ao fs) (h:fileD fs nm=some F) :
  Calls Tryz.prog 37 #[.agg #[.slice ao fs.length cap],.string nm] w fun e w' => e=.returned (.tuple #[.string F.text,.bool true])∧Below w.heap.size w w':=by
 refine (specFileAt_any fs ao cap nm w hl hfs).mono ?_
 rintro e w' ⟨⟨hn,-⟩ | ⟨G,hG,-,rfl⟩,hb⟩
 · rw [h] at hn;cases hn
 · rw [h] at hG;cases hG;exact ⟨rfl,hb⟩
theorem szFs_small:∀ (fs:List FileD) (n:Int),n≤1048576→0≤n→0≤szFs fs n→∀ F ∈ fs,F.name.size≤1048576∧F.text.size≤1048576
 | [],_,_,_,_,F,h => absurd h List.not_mem_nil
 | G :: r,n,h1,h2,h3,F,h => by
  rw [szFs] at h3
  by_cases hneg:szF G n < 0
  · rw [if_pos hneg] at h3;omega
  ·
   rw [if_neg hneg] at h3
   have hle:=szF_le G n h2
   rcases List.mem_cons.1 h with rfl | h
   ·
    unfold szF at hneg
    split at hneg
    · omega
    · split at hneg <;> omega
   · exact szFs_small r _ (by omega) (by omega) h3 F h
end Go.Proofs.YtepdckehokdjlaaGreatDoor
