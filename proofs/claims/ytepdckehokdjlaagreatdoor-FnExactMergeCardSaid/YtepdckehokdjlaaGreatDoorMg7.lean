import Derived.Laws.MakeOwn
import Derived.Lib.SmallJoins
import Derived.OpenShut
import Derived.Test.YtepdckehokdjlaaGreatDoorMg0
import Derived.Test.YtepdckehokdjlaaGreatDoorMg1
set_option maxRecDepth 100000
set_option maxHeartbeats 1600000
namespace Go.Proofs.YtepdckehokdjlaaGreatDoor
open Go.RowKit
structure SpotD where
 key:ByteArray
 seg:Int
 pos:Int
 seq:Int
def SpotsAt (w:World) (ao:Option Addr) (fs:List SpotD):Prop:=∀ j (h:j < fs.length),∃ b off:Nat,ao=some ⟨b,off,none⟩∧b < w.heap.size ∧
 w.cell? ⟨b,off+j * 4,none⟩=some (.string fs[j].key)∧w.cell? ⟨b,off+j * 4+1,none⟩=some (.int .i64 fs[j].seg)∧w.cell? ⟨b,off+j * 4+2,none⟩=some (.int .i64 fs[j].pos)∧w.cell? ⟨b,off+j * 4+3,none⟩=some (.int .i64 fs[j].seq)
theorem spotsAt_keep {w w':World} {ao:Option Addr} {fs:List SpotD} (h:SpotsAt w ao fs) (hb:Below w.heap.size w w'):SpotsAt w' ao fs:=by
 intro j hj
 obtain ⟨b,off,h1,h2,h3,h4,h5,h6⟩:=h j hj
 exact ⟨b,off,h1,Nat.lt_of_lt_of_le h2 hb.size,(hb.cell (p:=⟨b,off+j * 4,none⟩) h2).trans h3,(hb.cell (p:=⟨b,off+j * 4+1,none⟩) h2).trans h4,(hb.cell (p:=⟨b,off+j * 4+2,none⟩) h2).trans h5,(hb.cell (p:=⟨b,off+j * 4+3,none⟩) h2).trans h6⟩
def szSpotD (A:SpotD) (n:Int):Int:=if n < (A.key.size:Int) then -1 else n - A.key.size
theorem szSpot_any (A:SpotD) (n:Int) (w:World) (h0:0≤n) (h1:n≤1048576) (hN0:A.key.size≤maxLen) :
  Calls Tryz.prog 33 #[.agg #[.string A.key,.int .i64 A.seg,.int .i64 A.pos,.int .i64 A.seq],.int .i64 n] w fun e w' => e=.returned (.int .i64 (szSpotD A n))∧Below w.heap.size w w':=by
 obtain ⟨a0,a1,a2,a3⟩:=A
 simp only [szSpotD] at hN0 ⊢
 unfold maxLen at hN0
 by_cases q0:n < (a0.size:Int)
 ·
  have q0':decide (n - (a0.size:Int) < 0)=true:=by simp;omega
  rw [if_pos q0]
  go_enter Tryz.func33,Tryz.ntmps33
  go_wp2
  go_ret
  exact ⟨rfl,(Below.refl _ w).alloc (Nat.le_refl _) _⟩
 ·
  have q0':decide (n - (a0.size:Int) < 0)=false:=by simp;omega
  rw [if_neg q0]
  go_enter Tryz.func33,Tryz.ntmps33
  go_wp2
  go_ret
  exact ⟨rfl,(Below.refl _ w).alloc (Nat.le_refl _) _⟩
theorem szSpotD_le (A:SpotD) (n:Int) (h:0≤n):szSpotD A n≤n:=by
 unfold szSpotD
 repeat' split
 all_goals omega
def szSpotDs:List SpotD→Int→Int
 | [],n => n
 | A :: r,n => if szSpotD A n < 0 then -1 else szSpotDs r (szSpotD A n)
theorem szSpotDs_le:∀ (fs:List SpotD) (n:Int),0≤n→szSpotDs fs n≤n
 | [],_,_ => Int.le_refl _
 | F :: r,n,h => by
  unfold szSpotDs
  split
  · omega
  ·
   have:=szSpotD_le F n h
   have:=szSpotDs_le r (szSpotD F n) (by omega)
   omega
theorem szSpotS_any (fs:List SpotD) (ao:Option Addr) (cap:Nat) (n:Int) (w:World) (h0:0≤n) (h1:n≤1048576) (hl:fs.length≤maxLen) (hfs:SpotsAt w ao fs) (hsz:∀ A ∈ fs,A.key.size≤maxLen) :
  Calls Tryz.prog 15 #[.slice ao fs.length cap,.int .i64 n] w fun e w' => e=.returned (.int .i64 (if n < fs.length then -1 else szSpotDs fs (n - fs.length)))∧Below w.heap.size w w':=by
 have HF:=hide hfs
 have HS:=hide hsz
 clear hfs hsz
 unfold maxLen at hl
 by_cases hn:n < fs.length
 ·
  have hn':decide (n - (fs.length:Int) < 0)=true:=by simp;omega
  rw [if_pos hn]
  go_enter Tryz.func15,Tryz.ntmps15
  go_wp2
  go_ret
  exact ⟨rfl,Below.refl _ _⟩
 ·
  have hn':decide (n - (fs.length:Int) < 0)=false:=by simp;omega
  rw [if_neg hn]
  obtain ⟨R,HR⟩:∃ R,Hid (szSpotDs fs (n - fs.length)=R):=⟨_,rfl⟩
  rw [HR.out]
  go_enter Tryz.func15,Tryz.ntmps15
  go_wp2
  go_loopw [1,5] (fun m ii wr => ∃ (k:Nat) (x:Int),ii=.int .i64 k∧m=.int .i64 x∧k≤fs.length∧0≤x∧x≤1048576∧Hid (szSpotDs (fs.drop k) x=R)∧Hid (Below w.heap.size w wr)) (fun _ ii _ => fs.length - (intOf ii).toNat)
  case atStart => exact ⟨0,n - fs.length,rfl,rfl,Nat.zero_le _,by omega,by omega,HR.out,Below.refl _ _⟩
  case round =>
   obtain ⟨k,x,rfl,rfl,hk,hx0,hx1,HX,HB⟩:=hrel
   by_cases hlt:k < fs.length
   ·
    have hlt':decide ((k:Int) < (fs.length:Int))=true:=by simp;omega
    obtain ⟨b,off,rfl,hbw,hc0,hc1,hc2,hc3⟩:=spotsAt_keep HF.out HB.out k hlt
    have hsA:=HS.out fs[k] (List.getElem_mem hlt)
    have HD:Hid (szSpotDs (fs.drop k) x=if szSpotD fs[k] x < 0 then -1 else szSpotDs (fs.drop (k+1)) (szSpotD fs[k] x)):=by show _=_;rw [List.drop_eq_getElem_cons hlt];rfl
    have hle:=szSpotD_le fs[k] x hx0
    generalize fs[k]=F at hc0 hc1 hc2 hc3 hsA HD hle
    have hi0:(0:Int)≤(k:Int):=by omega
    have hi1:(k:Int) < (fs.length:Int):=by omega
    go_wp2_with fail
    refine (szSpot_any F x _ hx0 hx1 hsA).mono ?_
    rintro e w1 ⟨rfl,b1⟩
    have HB1:=hide (HB.out.trans (b1.mono HB.out.size))
    clear b1 hc0 hc1 hc2 hc3
    generalize szSpotD F x=y at HD hle
    by_cases hneg:y < 0
    ·
     have hneg':decide (y < 0)=true:=by simp;omega
     have hR:Hid (R = -1):=by show _=_;rw [← HX.out,HD.out,if_pos hneg]
     go_wp2
     go_ret
     rw [hR.out]
     exact ⟨rfl,HB1.out⟩
    ·
     have hneg':decide (y < 0)=false:=by simp;omega
     have hR:Hid (szSpotDs (fs.drop (k+1)) y=R):=by show _=_;rw [← HX.out,HD.out,if_neg hneg]
     go_wp2
     go_roundw
     case rel => exact ⟨k+1,y,by go_num,rfl,by omega,by omega,by omega,hR,HB1⟩
     case measure => simp [intOf];omega
   ·
    have hlt':decide ((k:Int) < (fs.length:Int))=false:=by simp;omega
    have hR:Hid (x=R):=by show _=_;rw [← HX.out,List.drop_eq_nil_of_le (by omega)];rfl
    go_wp2
    go_ret
    rw [← hR.out]
    exact ⟨rfl,HB.out⟩
theorem eqSpot_same (A:SpotD) (w:World) :
  Calls Tryz.prog 69 #[.agg #[.string A.key,.int .i64 A.seg,.int .i64 A.pos,.int .i64 A.seq],.agg #[.string A.key,.int .i64 A.seg,.int .i64 A.pos,.int .i64 A.seq]] w fun e w' => e=.returned (.bool true)∧Below w.heap.size w w':=by
 obtain ⟨a0,a1,a2,a3⟩:=A
 have h0:(a0.toList == a0.toList)=true:=beq_self_eq_true _
 have h1:(a1 == a1)=true:=beq_self_eq_true _
 have h2:(a2 == a2)=true:=beq_self_eq_true _
 have h3:(a3 == a3)=true:=beq_self_eq_true _
 go_enter Tryz.func69,Tryz.ntmps69
 go_wp2
 go_ret
 exact ⟨rfl,((Below.refl _ w).alloc (Nat.le_refl _) _).alloc (by simp) _⟩
theorem toSpot_any (A:SpotD) (w:World) :
  Calls Tryz.prog 58 #[.agg #[.string A.key,.int .i64 A.seg,.int .i64 A.pos,.int .i64 A.seq]] w fun e w' => e=.returned (.agg #[.string A.key,.int .i64 A.seg,.int .i64 A.pos,.int .i64 A.seq])∧Below w.heap.size w w':=by
 obtain ⟨a0,a1,a2,a3⟩:=A
 go_enter Tryz.func58,Tryz.ntmps58
 go_wp2
 refine bodyPost_ret (v:=.agg #[.string a0,.int .i64 a1,.int .i64 a2,.int .i64 a3]) (by simp [results,Tryz.results58,go_sem]) rfl ⟨rfl,?_⟩
 exact (((Below.refl _ w).alloc (Nat.le_refl _) _).alloc (by simp) _).alloc (by simp;omega) _
def SpotsIn (C:Array Value) (fs:List SpotD) (k:Nat):Prop:=∀ j (h:j < fs.length),j < k→C[j * 4]? = some (.string fs[j].key)∧C[j * 4+1]? = some (.int .i64 fs[j].seg)∧C[j * 4+2]? = some (.int .i64 fs[j].pos)∧C[j * 4+3]? = some (.int .i64 fs[j].seq)
theorem Tryz.infoSpot:(Tryz.prog.info? 106).map (fun i => (i.zero,i.size,i.bytes))=some (some (.agg #[.string ⟨#[]⟩,.int .i64 0,.int .i64 0,.int .i64 0]),4,40):=by kernel_rfl
def putSpot (C:Array Value) (k:Nat) (A:SpotD):Array Value:=(((C.setIfInBounds (k * 4) (.string A.key)).setIfInBounds (k * 4+1) (.int .i64 A.seg)).setIfInBounds (k * 4+2) (.int .i64 A.pos)).setIfInBounds (k * 4+3) (.int .i64 A.seq)
theorem putSpot_size (C:Array Value) (k:Nat) (A:SpotD):(putSpot C k A).size=C.size:=by simp [putSpot]
theorem spotsIn_put {C:Array Value} {fs:List SpotD} {k:Nat} (h:SpotsIn C fs k) (hk:k < fs.length) (hs:fs.length * 4≤C.size):SpotsIn (putSpot C k fs[k]) fs (k+1):=by
 intro j hj hjk
 unfold putSpot
 by_cases e:j=k
 ·
  subst e
  refine ⟨?_,?_,?_,?_⟩ <;> simp [Array.getElem?_setIfInBounds] <;> omega
 ·
  obtain ⟨h0,h1,h2,h3⟩:=h j hj (by omega)
  refine ⟨?_,?_,?_,?_⟩
  · rw [Array.getElem?_setIfInBounds_ne (by omega),Array.getElem?_setIfInBounds_ne (by omega),Array.getElem?_setIfInBounds_ne (by omega),Array.getElem?_setIfInBounds_ne (by omega)];exact h0
  · rw [Array.getElem?_setIfInBounds_ne (by omega),Array.getElem?_setIfInBounds_ne (by omega),Array.getElem?_setIfInBounds_ne (by omega),Array.getElem?_setIfInBounds_ne (by omega)];exact h1
  · rw [Array.getElem?_setIfInBounds_ne (by omega),Array.getElem?_setIfInBounds_ne (by omega),Array.getElem?_setIfInBounds_ne (by omega),Array.getElem?_setIfInBounds_ne (by omega)];exact h2
  · rw [Array.getElem?_setIfInBounds_ne (by omega),Array.getElem?_setIfInBounds_ne (by omega),Array.getElem?_setIfInBounds_ne (by omega),Array.getElem?_setIfInBounds_ne (by omega)];exact h3
theorem spot_stored {w:World} {g k:Nat} {C:Array Value} {t:TypeId} (A:SpotD) (h:w.heap[g]? = some (.cells C t (0,0))) :
  ((((w.setCell ⟨g,k * 4,none⟩ (.string A.key)).setCell ⟨g,k * 4+1,none⟩ (.int .i64 A.seg)).setCell ⟨g,k * 4+2,none⟩ (.int .i64 A.pos)).setCell ⟨g,k * 4+3,none⟩ (.int .i64 A.seq)).heap[g]? = some (.cells (putSpot C k A) t (0,0)):=heap_setCell_same _ g _ _ t _ (heap_setCell_same _ g _ _ t _ (heap_setCell_same _ g _ _ t _ (heap_setCell_same w g _ C t _ h)))
theorem spotsAt_own {w:World} {g:Nat} {C:Array Value} {t:TypeId} {fs:List SpotD} (h:w.heap[g]? = some (.cells C t (0,0))) (hC:SpotsIn C fs fs.length):SpotsAt w (some ⟨g,0,none⟩) fs:=by
 intro j hj
 obtain ⟨h0,h1,h2,h3⟩:=hC j hj hj
 have hg:g < w.heap.size:=(Array.getElem?_eq_some_iff.1 h).1
 refine ⟨g,0,rfl,hg,?_,?_,?_,?_⟩
 · rw [Nat.zero_add,cell_of_row w g _ C t (0,0) h,h0]
 · rw [Nat.zero_add,cell_of_row w g _ C t (0,0) h,h1]
 · rw [Nat.zero_add,cell_of_row w g _ C t (0,0) h,h2]
 · rw [Nat.zero_add,cell_of_row w g _ C t (0,0) h,h3]
theorem toSpotS_any (fs:List SpotD) (ao:Option Addr) (cap:Nat) (w:World) (hl:fs.length≤1048576) (hfs:SpotsAt w ao fs) :
  Calls Tryz.prog 21 #[.slice ao fs.length cap] w fun e w' => (∃ C:Array Value,e=.returned (.slice (some ⟨w.heap.size,0,none⟩) fs.length fs.length)∧w'.heap[w.heap.size]? = some (.cells C 106 (0,0))∧C.size=fs.length * 4∧SpotsIn C fs fs.length)∧Below w.heap.size w w':=by
 have HF:=hide hfs
 clear hfs
 obtain ⟨i0,hi,hz0,hz1,hz2⟩:=info_parts Tryz.infoSpot
 obtain ⟨M,hM⟩:∃ M,M=madeCells (Value.agg #[.string ⟨#[]⟩,.int .i64 0,.int .i64 0,.int .i64 0]).cells (((fs.length:Nat):Int).toNat * i0.size):=⟨_,rfl⟩
 have hmk:∀ W:World,(Instr.makeSlice 32 (.int .i64 (fs.length:Int)) (.int .i64 (fs.length:Int))).run Tryz.prog W=.ok (.slice (some ⟨W.heap.size,0,none⟩) fs.length fs.length) (W.alloc (.cells M 106)):=fun W => by
  have h:=run_make (P:=Tryz.prog) W 32 106 i0 (.agg #[.string ⟨#[]⟩,.int .i64 0,.int .i64 0,.int .i64 0]) Tryz.underlying32 hi hz0 .i64 .i64 (fs.length:Int) (fs.length:Int) (by omega) (by omega) (by rw [hz2];omega) (by omega)
  rw [← hM] at h
  simpa using h
 have hMs:M.size=fs.length * 4:=by rw [hM,size_madeCells,hz1];simp
 clear hM
 go_enter Tryz.func21,Tryz.ntmps21
 go_wp2
 go_loopw [4] (fun ii wr => ∃ (k:Nat) (C:Array Value),ii=.int .i64 k∧k≤fs.length∧Hid (wr.heap[w.heap.size]? = some (.cells C 106 (0,0)))∧C.size=fs.length * 4∧Hid (SpotsIn C fs k)∧Hid (Below w.heap.size w wr)) (fun ii _ => fs.length - (intOf ii).toNat)
 case atStart => exact ⟨0,M,rfl,Nat.zero_le _,heap_alloc_new w _,hMs,fun j _ hj => absurd hj (by omega),(Below.refl _ w).alloc (Nat.le_refl _) _⟩
 case round =>
  obtain ⟨k,C,rfl,hk,HC,hCs,HI,HB⟩:=hrel
  by_cases hlt:k < fs.length
  ·
   have hlt':decide ((k:Int) < (fs.length:Int))=true:=by simp;omega
   obtain ⟨b,off,rfl,hbw,hc0,hc1,hc2,hc3⟩:=spotsAt_keep HF.out HB.out k hlt
   obtain ⟨F,HFk⟩:∃ F,Hid (fs[k]=F):=⟨fs[k],hide rfl⟩
   rw [HFk.out] at hc0 hc1 hc2 hc3
   have hi0:(0:Int)≤(k:Int):=by omega
   have hi1:(k:Int) < (fs.length:Int):=by omega
   go_wp2_with fail
   refine (toSpot_any F _).mono ?_
   rintro e w1 ⟨rfl,b1⟩
   have HB1:=hide (HB.out.trans (b1.mono HB.out.size))
   have hlt1:w.heap.size < wr.heap.size:=by
    rcases Nat.lt_or_ge w.heap.size wr.heap.size with h | h
    · exact h
    · have:=HC.out;rw [Array.getElem?_eq_none h] at this;cases this
   have hC1:w1.heap[w.heap.size]? = some (.cells C 106 (0,0)):=(b1.block _ hlt1).trans HC.out
   clear b1 hc0 hc1 hc2 hc3
   have hq0:=cell_of_row w1 w.heap.size (k * 4) C 106 (0,0) hC1
   have hq1:=cell_of_row w1 w.heap.size (k * 4+1) C 106 (0,0) hC1
   have hq2:=cell_of_row w1 w.heap.size (k * 4+2) C 106 (0,0) hC1
   have hq3:=cell_of_row w1 w.heap.size (k * 4+3) C 106 (0,0) hC1
   have hf0:=frozen_of_row w1 w.heap.size (k * 4) C 106 hC1
   have hf1:=frozen_of_row w1 w.heap.size (k * 4+1) C 106 hC1
   have hf2:=frozen_of_row w1 w.heap.size (k * 4+2) C 106 hC1
   have hf3:=frozen_of_row w1 w.heap.size (k * 4+3) C 106 hC1
   rw [Array.getElem?_eq_getElem (by omega)] at hq0 hq1 hq2 hq3
   have HC1:=hide hC1
   clear hC1
   have HN:Hid (SpotsIn (putSpot C k F) fs (k+1)):=by have:=spotsIn_put HI.out hlt (by omega);rw [HFk.out] at this;exact this
   have HC2:=hide (spot_stored (k:=k) F HC1.out)
   have HB2:=hide ((((HB1.out.setCell (p:=⟨w.heap.size,k * 4,none⟩) (Nat.le_refl _) (.string F.key)).setCell (p:=⟨w.heap.size,k * 4+1,none⟩) (Nat.le_refl _) (.int .i64 F.seg)).setCell (p:=⟨w.heap.size,k * 4+2,none⟩) (Nat.le_refl _) (.int .i64 F.pos)).setCell (p:=⟨w.heap.size,k * 4+3,none⟩) (Nat.le_refl _) (.int .i64 F.seq))
   go_wp2_with fail
   go_roundw
   case rel => exact ⟨k+1,putSpot C k F,by go_num,by omega,HC2,by rw [putSpot_size];exact hCs,HN,HB2⟩
   case measure => simp [intOf];omega
  ·
   have hlt':decide ((k:Int) < (fs.length:Int))=false:=by simp;omega
   have hke:k=fs.length:=by omega
   subst hke
   go_wp2
   go_ret
   exact ⟨⟨C,rfl,HC.out,hCs,HI.out⟩,HB.out⟩
theorem eqSpotS_same (fs:List SpotD) (ao ao2:Option Addr) (cap cap2:Nat) (w:World) (hl:fs.length≤maxLen) (h1:SpotsAt w ao fs) (h2:SpotsAt w ao2 fs) :
  Calls Tryz.prog 25 #[.slice ao fs.length cap,.slice ao2 fs.length cap2] w fun e w' => e=.returned (.bool true)∧Below w.heap.size w w':=by
 have H1:=hide h1
 have H2:=hide h2
 clear h1 h2
 unfold maxLen at hl
 have hne:(!((fs.length:Int) == (fs.length:Int)))=false:=by simp
 go_enter Tryz.func25,Tryz.ntmps25
 go_wp2
 go_loopw [5] (fun ii wr => ∃ (k:Nat),ii=.int .i64 k∧k≤fs.length∧Hid (Below w.heap.size w wr)) (fun ii _ => fs.length - (intOf ii).toNat)
 case atStart => exact ⟨0,rfl,Nat.zero_le _,Below.refl _ _⟩
 case round =>
  obtain ⟨k,rfl,hk,HB⟩:=hrel
  by_cases hlt:k < fs.length
  ·
   have hlt':decide ((k:Int) < (fs.length:Int))=true:=by simp;omega
   obtain ⟨b,off,rfl,hbw,hc0,hc1,hc2,hc3⟩:=spotsAt_keep H1.out HB.out k hlt
   obtain ⟨b',off',rfl,hbw',hd0,hd1,hd2,hd3⟩:=spotsAt_keep H2.out HB.out k hlt
   generalize fs[k]=F at hc0 hc1 hc2 hc3 hd0 hd1 hd2 hd3
   have hi0:(0:Int)≤(k:Int):=by omega
   have hi1:(k:Int) < (fs.length:Int):=by omega
   have HBw:=hide hbw
   have HBw':=hide hbw'
   clear hbw hbw'
   go_wp2_with fail
   go_region_held3 (fun w' => w'.cell? ⟨b,off+k * 4,none⟩=some (.string F.key)∧w'.cell? ⟨b,off+k * 4+1,none⟩=some (.int .i64 F.seg)∧w'.cell? ⟨b,off+k * 4+2,none⟩=some (.int .i64 F.pos)∧w'.cell? ⟨b,off+k * 4+3,none⟩=some (.int .i64 F.seq)∧w'.cell? ⟨b',off'+k * 4,none⟩=some (.string F.key)∧w'.cell? ⟨b',off'+k * 4+1,none⟩=some (.int .i64 F.seg)∧w'.cell? ⟨b',off'+k * 4+2,none⟩=some (.int .i64 F.pos)∧w'.cell? ⟨b',off'+k * 4+3,none⟩=some (.int .i64 F.seq)) (first | go_keep | (exact ⟨(b1.cell (p:=⟨b,off+k * 4,none⟩) HBw.out).trans hc0,(b1.cell (p:=⟨b,off+k * 4+1,none⟩) HBw.out).trans hc1,(b1.cell (p:=⟨b,off+k * 4+2,none⟩) HBw.out).trans hc2,(b1.cell (p:=⟨b,off+k * 4+3,none⟩) HBw.out).trans hc3,(b1.cell (p:=⟨b',off'+k * 4,none⟩) HBw'.out).trans hd0,(b1.cell (p:=⟨b',off'+k * 4+1,none⟩) HBw'.out).trans hd1,(b1.cell (p:=⟨b',off'+k * 4+2,none⟩) HBw'.out).trans hd2,(b1.cell (p:=⟨b',off'+k * 4+3,none⟩) HBw'.out).trans hd3⟩)) ((go_at_call 69;refine (eqSpot_same F _).mono ?_;rintro e w1 ⟨rfl,b1⟩))
   go_wp2
   go_roundw
   case rel => exact ⟨k+1,by go_num,by omega,HB.out.trans (((Below.refl _ _).drew.trans b1).mono HB.out.size)⟩
   case measure => simp [intOf];omega
  ·
   have hlt':decide ((k:Int) < (fs.length:Int))=false:=by simp;omega
   go_wp2
   go_ret
   exact ⟨rfl,HB.out⟩
def markSpotD (k:Nat):SpotD:=⟨⟨(mk (k)).toArray⟩,((k+1:Nat):Int),((k+2:Nat):Int),((k+3:Nat):Int)⟩
def markSpotDs (k n:Nat):List SpotD:=(List.range n).map (fun j => markSpotD (k+4 * j))
theorem markSpotDs_length (k n:Nat):(markSpotDs k n).length=n:=by simp [markSpotDs]
theorem markSpotDs_get (k n j:Nat) (h:j < (markSpotDs k n).length):(markSpotDs k n)[j]=markSpotD (k+4 * j):=by simp [markSpotDs]
theorem markSpot_0 (K:Nat) (w:World) (h0:0 < K) (h:K≤20000000):Calls Tryz.prog 29 #[.int .i64 (K:Int)] w fun e w' => e=.returned (.string ⟨(mk K).toArray⟩)∧Below w.heap.size w w':=mark_any K w (by omega) (by omega)
theorem markSpotS_row (g cap n:Nat) (C0:Array Value) (k:Nat) (w:World) (hn:n≤1048576) (hk0:0 < k) (hk:k≤10000000) (hC:w.heap[g]? = some (.cells C0 106 (0,0))) (hs:n * 4≤C0.size) :
  Calls Tryz.prog 28 #[.slice (some ⟨g,0,none⟩) n cap,.int .i64 (k:Int)] w fun e w' => e=.returned (.int .i64 ((k+4 * n:Nat):Int))∧(∃ C:Array Value,w'.heap[g]? = some (.cells C 106 (0,0))∧C.size=C0.size∧SpotsIn C (markSpotDs k n) n)∧w.grownBy w' (some g):=by
 have HC0:=hide hC
 clear hC
 go_enter Tryz.func28,Tryz.ntmps28
 go_wp2
 go_loopw [1,5] (fun kk ii wr => ∃ (j:Nat) (C:Array Value),kk=.int .i64 ((k+4 * j:Nat):Int)∧ii=.int .i64 j∧j≤n∧Hid (wr.heap[g]? = some (.cells C 106 (0,0)))∧C.size=C0.size∧Hid (SpotsIn C (markSpotDs k n) j)∧Hid (w.grownBy wr (some g))) (fun _ ii _ => n - (intOf ii).toNat)
 case atStart => exact ⟨0,C0,rfl,rfl,Nat.zero_le _,HC0,rfl,fun j _ hj => absurd hj (by omega),World.grownBy.refl _ _⟩
 case round =>
  obtain ⟨j,C,rfl,rfl,hj,HC,hCs,HI,HG⟩:=hrel
  by_cases hlt:j < n
  ·
   have hlt':decide ((j:Int) < (n:Int))=true:=by simp;omega
   have hi0:(0:Int)≤(j:Int):=by omega
   have hi1:(j:Int) < (n:Int):=by omega
   have hgw:g < wr.heap.size:=(Array.getElem?_eq_some_iff.1 HC.out).1
   obtain ⟨K,HK⟩:∃ K:Nat,Hid (K=k+4 * j):=⟨_,hide rfl⟩
   have hKb:0 < K∧K≤15000000:=by have:=HK.out;omega
   rw [← HK.out]
   go_wp2_with fail
   refine (markSpot_0 K _ hKb.1 (by omega)).mono ?_
   rintro e w1 ⟨rfl,b1⟩
   have HC1:Hid (w1.heap[g]? = some (.cells (C) 106 (0,0))):=(b1.block g (by exact hgw)).trans HC.out
   have hgw1:g < w1.heap.size:=(Array.getElem?_eq_some_iff.1 HC1.out).1
   have HG1:Hid (w.grownBy w1 (some g)):=grownBy_trans (HG.out) (grownBy_below _ b1)
   have hq0:=cell_of_row w1 g (j * 4) _ _ (0,0) HC1.out
   have hf0:=frozen_of_row w1 g (j * 4) _ _ HC1.out
   have hq1:=cell_of_row w1 g (j * 4+1) _ _ (0,0) HC1.out
   have hf1:=frozen_of_row w1 g (j * 4+1) _ _ HC1.out
   have hq2:=cell_of_row w1 g (j * 4+2) _ _ (0,0) HC1.out
   have hf2:=frozen_of_row w1 g (j * 4+2) _ _ HC1.out
   have hq3:=cell_of_row w1 g (j * 4+3) _ _ (0,0) HC1.out
   have hf3:=frozen_of_row w1 g (j * 4+3) _ _ HC1.out
   rw [Array.getElem?_eq_getElem (by first | omega | (simp;omega))] at hq0 hq1 hq2 hq3
   go_wp2_with fail
   go_roundw
   case rel =>
    have hl:=markSpotDs_length k n
    have HP:=spotsIn_put HI.out (by omega) (by omega)
    rw [markSpotDs_get,← HK.out] at HP
    refine ⟨j+1,putSpot C j (markSpotD K),?_,by go_num,by omega,heap_setCell_same _ g _ _ _ _ (heap_setCell_same _ g _ _ _ _ (heap_setCell_same _ g _ _ _ _ (heap_setCell_same _ g _ _ _ _ HC1.out))),by rw [putSpot_size];exact hCs,HP,grownBy_store (grownBy_store (grownBy_store (grownBy_store HG1.out (j * 4) _) (j * 4+1) _) (j * 4+2) _) (j * 4+3) _⟩
    have:=HK.out
    congr 1
    omega
   case measure => simp [intOf];omega
  ·
   have hlt':decide ((j:Int) < (n:Int))=false:=by simp;omega
   have hje:j=n:=by omega
   subst hje
   go_wp2
   go_ret
   exact ⟨rfl,⟨C,HC.out,hCs,HI.out⟩,HG.out⟩
theorem heldSpotS_any (ao:Option Addr) (cap n k:Nat) (w:World) (hn:n≤1048576) (hk0:0 < k) (hk:k≤10000000) (h:SpotsAt w ao (markSpotDs k n)) :
  Calls Tryz.prog 31 #[.slice ao n cap,.int .i64 (k:Int)] w fun e w' => e=.returned (.int .i64 ((k+4 * n:Nat):Int))∧Below w.heap.size w w':=by
 have HF:=hide h
 clear h
 go_enter Tryz.func31,Tryz.ntmps31
 go_wp2
 go_loopw [1,5] (fun kk ii wr => ∃ (j:Nat),kk=.int .i64 ((k+4 * j:Nat):Int)∧ii=.int .i64 j∧j≤n∧Hid (Below w.heap.size w wr)) (fun _ ii _ => n - (intOf ii).toNat)
 case atStart => exact ⟨0,rfl,rfl,Nat.zero_le _,Below.refl _ _⟩
 case round =>
  obtain ⟨j,rfl,rfl,hj,HB⟩:=hrel
  by_cases hlt:j < n
  ·
   have hlt':decide ((j:Int) < (n:Int))=true:=by simp;omega
   have hi0:(0:Int)≤(j:Int):=by omega
   have hi1:(j:Int) < (n:Int):=by omega
   obtain ⟨b,off,rfl,hbw,hc0,hc1,hc2,hc3⟩:=spotsAt_keep HF.out HB.out j (by rw [markSpotDs_length];exact hlt)
   rw [markSpotDs_get] at hc0 hc1 hc2 hc3
   obtain ⟨K,HK⟩:∃ K:Nat,Hid (K=k+4 * j):=⟨_,hide rfl⟩
   have hKb:0 < K∧K≤15000000:=by have:=HK.out;omega
   rw [← HK.out] at hc0 hc1 hc2 hc3 ⊢
   obtain ⟨s0,hs0⟩:∃ s0:ByteArray,s0=⟨(mk (K)).toArray⟩:=⟨_,rfl⟩
   have hd0:wr.cell? ⟨b,off+j * 4,none⟩=some (.string s0):=by rw [hs0];exact hc0
   have he0:(s0.toList == s0.toList)=true:=beq_self_eq_true _
   have HM0:Hid (∀ W,Calls Tryz.prog 29 #[.int .i64 ((K:Int))] W fun e w' => e=.returned (.string s0)∧Below W.heap.size W w'):=fun W => by rw [hs0];exact markSpot_0 K W hKb.1 (by omega)
   have hd1:wr.cell? ⟨b,off+j * 4+1,none⟩=some (.int .i64 ((K:Int)+1)):=hc1.trans (by simp only [markSpotD];congr 2)
   have he1:(((K:Int)+1) == ((K:Int)+1))=true:=beq_self_eq_true _
   have hd2:wr.cell? ⟨b,off+j * 4+2,none⟩=some (.int .i64 ((K:Int)+1+1)):=hc2.trans (by simp only [markSpotD];congr 2)
   have he2:(((K:Int)+1+1) == ((K:Int)+1+1))=true:=beq_self_eq_true _
   have hd3:wr.cell? ⟨b,off+j * 4+3,none⟩=some (.int .i64 ((K:Int)+1+1+1)):=hc3.trans (by simp only [markSpotD];congr 2)
   have he3:(((K:Int)+1+1+1) == ((K:Int)+1+1+1))=true:=beq_self_eq_true _
   clear hc0 hc1 hc2 hc3 hs0
   have HBW:=hide hbw
   clear hbw
   have B0:Hid (Below wr.heap.size wr wr):=Below.refl _ _
   go_wp2_with fail
   go_region_held3 (fun w' => w'.cell? ⟨b,off+j * 4,none⟩=some (.string s0)) (first | go_keep | (exact (b1.cell (p:=⟨b,off+j * 4,none⟩) HBW.out).trans hd0)) ((go_at_call 29;refine (HM0.out _).mono ?_;rintro e v1 ⟨rfl,b1⟩))
   have B1:Hid (Below wr.heap.size wr v1):=B0.out.trans (((Below.refl _ _).drew.trans b1).mono B0.out.size)
   clear b1
   have hx1_1:=(B1.out.cell (p:=⟨b,off+j * 4+1,none⟩) HBW.out).trans hd1
   have hx1_2:=(B1.out.cell (p:=⟨b,off+j * 4+2,none⟩) HBW.out).trans hd2
   have hx1_3:=(B1.out.cell (p:=⟨b,off+j * 4+3,none⟩) HBW.out).trans hd3
   go_wp2
   go_roundw
   case rel =>
    refine ⟨j+1,?_,by go_num,by omega,HB.out.trans (B1.out.mono HB.out.size)⟩
    have:=HK.out
    congr 1
    omega
   case measure => simp [intOf];omega
  ·
   have hlt':decide ((j:Int) < (n:Int))=false:=by simp;omega
   have hje:j=n:=by omega
   subst hje
   go_wp2
   go_ret
   exact ⟨rfl,HB.out⟩
def cellsSpot:List SpotD→List Value
 | [] => []
 | A :: r => .string A.key :: .int .i64 A.seg :: .int .i64 A.pos :: .int .i64 A.seq :: cellsSpot r
theorem cellsSpot_append:∀ (a b:List SpotD),cellsSpot (a ++ b)=cellsSpot a ++ cellsSpot b
 | [],_ => rfl
 | A :: r,b => by simp [cellsSpot,cellsSpot_append r b]
theorem cellsSpot_length:∀ a:List SpotD,(cellsSpot a).length=a.length * 4
 | [] => rfl
 | A :: r => by simp [cellsSpot,cellsSpot_length r];omega
theorem cellsSpot_one:∀ (a:List SpotD),∀ u ∈ cellsSpot a,u.oneCell' = true
 | [],u,h => absurd h List.not_mem_nil
 | A :: r,u,h => by
  simp only [cellsSpot,List.mem_cons] at h
  rcases h with rfl | rfl | rfl | rfl | h
  · rfl
  · rfl
  · rfl
  · rfl
  · exact cellsSpot_one r u h
theorem cellsSpot_get:∀ (a:List SpotD) (j:Nat) (h:j < a.length),(cellsSpot a)[j * 4]? = some (.string a[j].key)∧(cellsSpot a)[j * 4+1]? = some (.int .i64 a[j].seg)∧(cellsSpot a)[j * 4+2]? = some (.int .i64 a[j].pos)∧(cellsSpot a)[j * 4+3]? = some (.int .i64 a[j].seq)
 | [],_,h => absurd h (by simp)
 | A :: r,0,_ => by simp [cellsSpot]
 | A :: r,j+1,h => by
  have:=cellsSpot_get r j (by simpa using h)
  have e:(j+1) * 4=j * 4+4:=by omega
  simp only [cellsSpot,e]
  simpa using this
def RowSpot (w:World) (B:Nat) (v:Value) (fs:List SpotD):Prop:=(v=.slice none 0 0∧fs=[]) ∨
 ∃ (g cap:Nat) (C:Array Value),v=.slice (some ⟨g,0,none⟩) fs.length cap∧B≤g∧w.heap[g]? = some (.cells C 106 (0,0))∧fs.length * 4≤C.size∧SpotsIn C fs fs.length
theorem rowSpot_at {w:World} {B:Nat} {v:Value} {fs:List SpotD} (h:RowSpot w B v fs):∃ ao cap,v=.slice ao fs.length cap∧SpotsAt w ao fs:=by
 rcases h with ⟨rfl,rfl⟩ | ⟨g,cap,C,rfl,_,hC,_,hI⟩
 · exact ⟨none,0,rfl,fun j hj => absurd hj (by simp)⟩
 · exact ⟨_,cap,rfl,spotsAt_own hC hI⟩
theorem rowSpot_lt {w:World} {B:Nat} {v:Value} {fs:List SpotD} (h:RowSpot w B v fs):∀ g,v.ownBlock=some g→B≤g∧g < w.heap.size:=by
 rcases h with ⟨rfl,rfl⟩ | ⟨g,cap,C,rfl,hB,hC,_,hI⟩
 · intro g h;cases h
 ·
  intro g' h
  obtain rfl:g=g':=by simpa [Value.ownBlock] using h
  exact ⟨hB,(Array.getElem?_eq_some_iff.1 hC).1⟩
theorem rowSpot_keep {w w':World} {B:Nat} {v:Value} {fs:List SpotD} (h:RowSpot w B v fs) (hk:∀ g,v.ownBlock=some g→w'.heap[g]? = w.heap[g]?):RowSpot w' B v fs:=by
 rcases h with ⟨rfl,rfl⟩ | ⟨g,cap,C,rfl,hB,hC,hs,hI⟩
 · exact .inl ⟨rfl,rfl⟩
 · exact .inr ⟨g,cap,C,rfl,hB,(hk g rfl).trans hC,hs,hI⟩
theorem rowSpot_below {w w':World} {B:Nat} {v:Value} {fs:List SpotD} (h:RowSpot w B v fs) (hb:Below w.heap.size w w'):RowSpot w' B v fs :=
 rowSpot_keep h (fun g hg => hb.block g (rowSpot_lt h g hg).2)
theorem rowSpot_grown {w w':World} {B:Nat} {v:Value} {fs:List SpotD} {r:Option Nat} (h:RowSpot w B v fs) (hb:w.grownBy w' r) (hr:∀ g,v.ownBlock=some g→some g ≠ r):RowSpot w' B v fs :=
 rowSpot_keep h (fun g hg => hb.block g (rowSpot_lt h g hg).2 (hr g hg))
theorem rowSpot_le {w:World} {B B':Nat} {v:Value} {fs:List SpotD} (h:RowSpot w B v fs) (hB:B'≤B):RowSpot w B' v fs:=by
 rcases h with h | ⟨g,cap,C,h1,h2,h3⟩
 · exact .inl h
 · exact .inr ⟨g,cap,C,h1,by omega,h3⟩
theorem rowSpot_rows {w:World} {B n c:Nat} {a:Option Addr} {fs:List SpotD} (h:RowSpot w B (.slice a n c) fs):SpotsAt w a fs:=by
 obtain ⟨ao,cap,e,hf⟩:=rowSpot_at h
 cases e
 exact hf
theorem take_getSpot {C:Array Value} {xs:List Value} {n:Nat} (h:C.toList.take n=xs) {j:Nat} {u:Value} (hj:j < n) (hu:xs[j]? = some u):C[j]? = some u:=by
 rw [← h,List.getElem?_take_of_lt hj] at hu
 simpa using hu
theorem rowSpot_own {w:World} {B:Nat} {v:Value} {fs:List SpotD} (h:w.ownsRow B 106 4 v fs.length (cellsSpot fs)):RowSpot w B v fs:=by
 rcases h.2 with ⟨rfl,hn⟩ | ⟨g,cap,cur,rfl,hB,hC,hle,_,hs,ht⟩
 · exact .inl ⟨rfl,List.eq_nil_of_length_eq_zero hn⟩
 ·
  refine .inr ⟨g,cap,cur,rfl,hB,hC,by omega,?_⟩
  intro j hj _
  obtain ⟨h0,h1,h2,h3⟩:=cellsSpot_get fs j hj
  exact ⟨take_getSpot ht (by omega) h0,take_getSpot ht (by omega) h1,take_getSpot ht (by omega) h2,take_getSpot ht (by omega) h3⟩
theorem app_spot {ops:Array Oper} {rest:List Oper} {o:Oper} {a:Act} {Q:Exit→Act→World→Prop} (W:World) (B:Nat) (hgd:o.guard=none) (s y:Operand)
  (ho:o.op=.call { callee:=.builtin .append,args:=#[s,y],argTypes:=#[32,32] }) (v:Value) (l:List SpotD) (F:SpotD) (hs:a.eval s=v)
  (hown:W.ownsRow B 106 4 v l.length (cellsSpot l)) (k:Nat) (hx:a.eval y=.slice (some ⟨k,0,none⟩) 1 1) (hblk:W.heap[k]? = some (.cells #[.string F.key,.int .i64 F.seg,.int .i64 F.pos,.int .i64 F.seq] 106 (0,0)))
  (hlen:l.length≤1048576) (hbase:B≤W.heap.size)
  (h:∀ g cap w',w'.ownsRow B 106 4 (.slice (some ⟨g,0,none⟩) (l.length+1) cap) (l ++ [F]).length (cellsSpot (l ++ [F]))→Below B W w'→B≤g→g < w'.heap.size→wpList Tryz.prog ops Q rest (a.put o.dst (.slice (some ⟨g,0,none⟩) (l.length+1) cap)) w') :
  wpList Tryz.prog ops Q (o :: rest) a W:=by
 obtain ⟨i0,hi,hz0,hz1,hz2⟩:=info_parts Tryz.infoSpot
 refine wpList_append_lies W hgd s y 32 ho B 106 i0 (.agg #[.string ⟨#[]⟩,.int .i64 0,.int .i64 0,.int .i64 0]) 4 40 Tryz.underlying32 hi hz0 hz1 hz2 rfl (by decide) v l.length (cellsSpot l) hs hown ⟨k,0,none⟩ 1 1 (cellsSpot [F]) hx (by rw [cellsSpot_length];rfl)
  (fun j u hj => World.news_of_block hblk j u hj) (cellsSpot_one [F]) (by omega) (by unfold maxLen;omega) (by omega) hbase W.heap.size rfl ?_
 intro g cap w' hown' hgrow hg hgl
 have hlt:=hown.lt
 refine h g cap w' ?_ ((Below.refl B W).grown hgrow hbase (fun k hk => (hlt k hk).1)) ?_ hgl
 ·
  rw [cellsSpot_append,List.length_append]
  exact hown'
 ·
  rcases hg with hg | rfl
  · exact (hlt g hg).1
  · exact hbase
open Go.ChangeShapes Go.WideShapes Go.Deep Go.Joins in
theorem spot_in {H:Type} {enc:TypeId × Value→H} {w:World} {fuel:Nat} {cs:List Value} {z:DataW H × List MemPlace} (h:DataW.trod enc Tryz.prog w 0 (fun _ => true) true fuel 72 cs=some z) :
  ∃ A:SpotD,cs=[.string A.key,.int .i64 A.seg,.int .i64 A.pos,.int .i64 A.seq]∧A.key.size≤maxLen:=by
 obtain ⟨y0,y1,y2,y3,n,hx,hl,h0,h1,h2,h3⟩:=trod_struct4 Tryz.underlying72 h
 have hc:Tryz.prog.cellsOf 72=4:=by kernel_rfl
 have ki:Tryz.prog.cellsOf 3=1:=by kernel_rfl
 have ks:Tryz.prog.cellsOf 9=1:=by kernel_rfl
 rw [hc] at hl
 match cs,hl with
 | [v0,v1,v2,v3],_ =>
  simp only [ki,ks] at h0 h1 h2 h3
  obtain ⟨s0,e0,_,z0⟩:=DataW.trod_string Tryz.underlying9 h0
  obtain ⟨s1,e1,_,_⟩:=DataW.trod_int Tryz.underlying3 h1
  obtain ⟨s2,e2,_,_⟩:=DataW.trod_int Tryz.underlying3 h2
  obtain ⟨s3,e3,_,_⟩:=DataW.trod_int Tryz.underlying3 h3
  simp at e0 e1 e2 e3
  subst e0 e1 e2 e3
  exact ⟨⟨s0,s1,s2,s3⟩,rfl,z0⟩
end Go.Proofs.YtepdckehokdjlaaGreatDoor
