import Derived.Test.YtbenmgokhklnjaaGreatDoorTb9
import Derived.Test.YtbenmgokhklnjaaGreatDoorTb1
import Derived.Test.YtbenmgokhklnjaaGreatDoorTb17
import Derived.Test.YtbenmgokhklnjaaGreatDoorTb0
import Derived.Test.YtbenmgokhklnjaaGreatDoorTb43
import Derived.Test.YtbenmgokhklnjaaGreatDoorTb28
import Derived.Test.YtbenmgokhklnjaaGreatDoorTb35
set_option maxRecDepth 100000
set_option maxHeartbeats 1600000
namespace Go.Proofs.YtbenmgokhklnjaaGreatDoor
open Go.RowKit
def markF (k:Nat):FileD:=⟨⟨(mk k).toArray⟩,⟨(mk (k+1)).toArray⟩,((k+2:Nat):Int)⟩
def marksF (k n:Nat):List FileD:=(List.range n).map (fun j => markF (k+3 * j))
theorem marksF_length (k n:Nat):(marksF k n).length=n:=by simp [marksF]
theorem marksF_get (k n j:Nat) (h:j < (marksF k n).length):(marksF k n)[j]=markF (k+3 * j):=by simp [marksF]
theorem filesIn_put' {C:Array Value} {fs:List FileD} {k:Nat} (h:FilesIn C fs k) (hk:k < fs.length) (hs:fs.length * 3≤C.size):FilesIn (putFile C k fs[k]) fs (k+1):=by
 intro j hj hjk
 unfold putFile
 by_cases e:j=k
 ·
  subst e
  refine ⟨?_,?_,?_⟩ <;> simp [Array.getElem?_setIfInBounds] <;> omega
 ·
  obtain ⟨h1,h2,h3⟩:=h j hj (by omega)
  refine ⟨?_,?_,?_⟩
  · rw [Array.getElem?_setIfInBounds_ne (by omega),Array.getElem?_setIfInBounds_ne (by omega),Array.getElem?_setIfInBounds_ne (by omega)];exact h1
  · rw [Array.getElem?_setIfInBounds_ne (by omega),Array.getElem?_setIfInBounds_ne (by omega),Array.getElem?_setIfInBounds_ne (by omega)];exact h2
  · rw [Array.getElem?_setIfInBounds_ne (by omega),Array.getElem?_setIfInBounds_ne (by omega),Array.getElem?_setIfInBounds_ne (by omega)];exact h3
theorem mark_next (K:Nat) (w:World) (h:K≤20000000):Calls Tryz.prog 28 #[.int .i64 ((K:Int)+1)] w fun e w' => e=.returned (.string ⟨(mk (K+1)).toArray⟩)∧Below w.heap.size w w':=by
 have h:=mark_any (K+1) w (by omega) (by omega)
 rw [show (((K+1:Nat)):Int)=(K:Int)+1 from by omega] at h
 exact h
theorem markFileS_row (g cap n:Nat) (C0:Array Value) (k:Nat) (w:World) (hn:n≤1048576) (hk0:0 < k) (hk:k≤10000000) (hC:w.heap[g]? = some (.cells C0 115 (0,0))) (hs:n * 3≤C0.size) :
  Calls Tryz.prog 53 #[.slice (some ⟨g,0,none⟩) n cap,.int .i64 (k:Int)] w fun e w' => e=.returned (.int .i64 ((k+3 * n:Nat):Int))∧(∃ C:Array Value,w'.heap[g]? = some (.cells C 115 (0,0))∧C.size=C0.size∧FilesIn C (marksF k n) n)∧w.grownBy w' (some g):=by
 have HC0:=hide hC
 clear hC
 go_enter Tryz.func53,Tryz.ntmps53
 go_wp2
 go_loopw [1,5] (fun kk ii wr => ∃ (j:Nat) (C:Array Value),kk=.int .i64 ((k+3 * j:Nat):Int)∧ii=.int .i64 j∧j≤n∧Hid (wr.heap[g]? = some (.cells C 115 (0,0)))∧C.size=C0.size∧Hid (FilesIn C (marksF k n) j)∧Hid (w.grownBy wr (some g))) (fun _ ii _ => n - (intOf ii).toNat)
 case atStart => exact ⟨0,C0,rfl,rfl,Nat.zero_le _,HC0,rfl,fun j _ hj => absurd hj (by omega),World.grownBy.refl _ _⟩
 case round =>
  obtain ⟨j,C,rfl,rfl,hj,HC,hCs,HI,HG⟩:=hrel
  by_cases hlt:j < n
  ·
   have hlt':decide ((j:Int) < (n:Int))=true:=by simp;omega
   have hi0:(0:Int)≤(j:Int):=by omega
   have hi1:(j:Int) < (n:Int):=by omega
   have hgw:g < wr.heap.size:=(Array.getElem?_eq_some_iff.1 HC.out).1
   obtain ⟨K,HK⟩:∃ K:Nat,Hid (K=k+3 * j):=⟨_,hide rfl⟩
   have hKb:0 < K∧K≤14000000:=by have:=HK.out;omega
   rw [← HK.out]
   go_wp2_with fail
   refine (mark_any K _ (by omega) (by omega)).mono ?_
   rintro e w1 ⟨rfl,b1⟩
   have hC1:w1.heap[g]? = some (.cells C 115 (0,0)):=(b1.block g hgw).trans HC.out
   have hq0:=cell_of_row w1 g (j * 3) C _ (0,0) hC1
   have hf0:=frozen_of_row w1 g (j * 3) C _ hC1
   rw [Array.getElem?_eq_getElem (by omega)] at hq0
   have HB1:=hide b1
   have HC1:=hide hC1
   clear b1 hC1
   go_wp2_with fail
   refine (mark_next K _ (by omega)).mono ?_
   rintro e w2 ⟨rfl,b2⟩
   have hC2:w2.heap[g]? = some (.cells (C.setIfInBounds (j * 3) (.string ⟨(mk K).toArray⟩)) 115 (0,0)):=(b2.block g (by have:=HB1.out.size;simpa [World.setCell] using Nat.lt_of_lt_of_le hgw this)).trans (heap_setCell_same w1 g (j * 3) C _ _ HC1.out)
   have hr1:=cell_of_row w2 g (j * 3+1) _ _ (0,0) hC2
   have hr2:=cell_of_row w2 g (j * 3+2) _ _ (0,0) hC2
   have he1:=frozen_of_row w2 g (j * 3+1) _ _ hC2
   have he2:=frozen_of_row w2 g (j * 3+2) _ _ hC2
   rw [Array.getElem?_eq_getElem (by simp;omega)] at hr1 hr2
   have HC2:=hide hC2
   have HB2:=hide b2
   clear hC2 b2 hq0 hf0
   go_wp2_with fail
   go_roundw
   case rel =>
    have hl:=marksF_length k n
    have HP:=filesIn_put' HI.out (by omega) (by omega)
    rw [marksF_get,← HK.out] at HP
    have hg2:w.grownBy w2 (some g):=grownBy_trans (grownBy_store (grownBy_trans HG.out (grownBy_below _ HB1.out)) (j * 3) (.string ⟨(mk K).toArray⟩)) (grownBy_below _ HB2.out)
    refine ⟨j+1,putFile C j (markF K),?_,by go_num,by omega,heap_setCell_same _ g _ _ _ _ (heap_setCell_same _ g _ _ _ _ HC2.out),by rw [putFile_size];exact hCs,HP,grownBy_store (grownBy_store hg2 (j * 3+1) _) (j * 3+2) _⟩
    have:=HK.out
    congr 1
    omega
   case measure => simp [intOf];omega
  ·
   have hlt':decide ((j:Int) < (n:Int))=false:=by simp;omega
   have hje:j=n:=by omega
   subst hje
   go_wp2
   go_ret
   exact ⟨rfl,⟨C,HC.out,hCs,HI.out⟩,HG.out⟩
theorem markFileS_nil (k:Int) (w:World) :
  Calls Tryz.prog 53 #[.slice none 0 0,.int .i64 k] w fun e w' => e=.returned (.int .i64 k)∧w' = w:=by
 go_enter Tryz.func53,Tryz.ntmps53
 go_wp2
 go_loop [1,5] (fun kk ii => kk=.int .i64 k∧ii=.int .i64 0) (fun _ _ => 0)
 case atStart => exact ⟨rfl,rfl⟩
 case round =>
  obtain ⟨rfl,rfl⟩:=hrel
  go_wp2
  go_ret
  exact ⟨rfl,rfl⟩
theorem markDisk_row (v:Value) (fs:List FileD) (B k:Nat) (w:World) (hn:fs.length≤1048576) (hk0:0 < k) (hk:k≤10000000) (h:RowF w B v fs) :
  Calls Tryz.prog 26 #[.agg #[v],.int .i64 (k:Int)] w fun e w' => e=.returned (.int .i64 ((k+3 * fs.length:Nat):Int))∧RowF w' B v (marksF k fs.length)∧w.grownBy w' v.ownBlock:=by
 rcases h with ⟨rfl,rfl⟩ | ⟨g,cap,C,rfl,hB,hC,hs,hI⟩
 ·
  go_enter Tryz.func26,Tryz.ntmps26
  go_wp2_with fail
  refine (markFileS_nil _ _).mono ?_
  rintro e w1 ⟨rfl,rfl⟩
  go_wp2
  go_ret
  exact ⟨rfl,.inl ⟨rfl,rfl⟩,grownBy_below _ ((Below.refl _ w).alloc (Nat.le_refl _) _)⟩
 ·
  have hgw:g < w.heap.size:=(Array.getElem?_eq_some_iff.1 hC).1
  have HC:=hide hC
  clear hC hI
  obtain ⟨n,hN⟩:∃ n,n=fs.length:=⟨_,rfl⟩
  rw [← hN] at hn hs ⊢
  clear hN
  have b0:Below w.heap.size w (w.alloc (.cells #[.slice (some ⟨g,0,none⟩) n cap] 34)):=(Below.refl _ w).alloc (Nat.le_refl _) _
  have HB0:=hide b0
  clear b0
  go_enter Tryz.func26,Tryz.ntmps26
  go_wp2_with fail
  refine (markFileS_row g cap n C k _ hn hk0 hk ((HB0.out.block g hgw).trans HC.out) hs).mono ?_
  rintro e w1 ⟨rfl,⟨C1,hC1,hCs,hI1⟩,hg1⟩
  have H1:=hide hC1
  have H2:=hide hI1
  have H3:=hide hg1
  clear hC1 hI1 hg1
  go_wp2
  go_ret
  have hl:=marksF_length k n
  refine ⟨rfl,.inr ⟨g,cap,C1,by rw [hl],hB,H1.out,by omega,by rw [hl];exact H2.out⟩,grownBy_trans (grownBy_below _ HB0.out) H3.out⟩
theorem markSpotS_nil (k:Int) (w:World) :
  Calls Tryz.prog 27 #[.slice none 0 0,.int .i64 k] w fun e w' => e=.returned (.int .i64 k)∧w' = w:=by
 go_enter Tryz.func27,Tryz.ntmps27
 go_wp2
 go_loop [1,5] (fun kk ii => kk=.int .i64 k∧ii=.int .i64 0) (fun _ _ => 0)
 case atStart => exact ⟨rfl,rfl⟩
 case round =>
  obtain ⟨rfl,rfl⟩:=hrel
  go_wp2
  go_ret
  exact ⟨rfl,rfl⟩
theorem markSpotS_own (v:Value) (fs:List SpotD) (B k:Nat) (w:World) (hn:fs.length≤1048576) (hk0:0 < k) (hk:k≤10000000) (h:RowSpot w B v fs) :
  Calls Tryz.prog 27 #[v,.int .i64 (k:Int)] w fun e w' => e=.returned (.int .i64 ((k+4 * fs.length:Nat):Int))∧RowSpot w' B v (markSpotDs k fs.length)∧w.grownBy w' v.ownBlock:=by
 rcases h with ⟨rfl,rfl⟩ | ⟨g,cap,C,rfl,hB,hC,hs,hI⟩
 ·
  refine (markSpotS_nil _ _).mono ?_
  rintro e w1 ⟨rfl,rfl⟩
  exact ⟨rfl,.inl ⟨rfl,rfl⟩,World.grownBy.refl _ _⟩
 ·
  refine (markSpotS_row g cap fs.length C k w hn hk0 hk hC hs).mono ?_
  rintro e w1 ⟨rfl,⟨C1,hC1,hs1,hI1⟩,hg⟩
  refine ⟨rfl,.inr ⟨g,cap,C1,by rw [markSpotDs_length],hB,hC1,by rw [markSpotDs_length];omega,by rw [markSpotDs_length];exact hI1⟩,hg⟩
theorem files_spots_ne {w:World} {B B' g:Nat} {vd vr:Value} {fs:List FileD} {dir:List SpotD} (h1:RowF w B vd fs) (h2:RowSpot w B' vr dir) (e1:vd.ownBlock=some g) (e2:vr.ownBlock=some g):False:=by
 rcases h1 with ⟨rfl,-⟩ | ⟨g1,c1,C1,rfl,-,hC1,-⟩
 · cases e1
 ·
  rcases h2 with ⟨rfl,-⟩ | ⟨g2,c2,C2,rfl,-,hC2,-⟩
  · cases e2
  ·
   obtain rfl:g1=g:=by simpa [Value.ownBlock] using e1
   obtain rfl:g2=g1:=by simpa [Value.ownBlock] using e2
   rw [hC1] at hC2
   simp at hC2
theorem markEngine_own (vd vr:Value) (fs:List FileD) (dir:List SpotD) (room act seq:Int) (B k:Nat) (w:World) (hn:fs.length≤1048576) (hm:dir.length≤1048576) (hk0:0 < k) (hk:k≤1000000) (hB:B≤w.heap.size) (h1:RowF w B vd fs) (h2:RowSpot w B vr dir) :
  Calls Tryz.prog 10 #[.agg #[vd,.int .i64 room,.int .i64 act,.int .i64 seq,vr],.int .i64 (k:Int)] w fun e w' => e=.returned (.int .i64 ((k+3 * fs.length+4 * dir.length:Nat):Int))∧RowF w' B vd (marksF k fs.length)∧RowSpot w' B vr (markSpotDs (k+3 * fs.length) dir.length)∧Below B w w'∧(∀ x,x < w.heap.size→vd.ownBlock ≠ some x→vr.ownBlock ≠ some x→w'.heap[x]? = w.heap[x]?):=by
 obtain ⟨ad,cd,hvd,-⟩:=rowF_at h1
 obtain ⟨ar,cr,hvr,-⟩:=rowSpot_at h2
 subst hvd hvr
 have HRF:=hide h1
 have HRS:=hide h2
 clear h1 h2
 obtain ⟨wb,hwb⟩:∃ wb,wb=w.alloc (.cells #[.slice ad fs.length cd,.int .i64 room,.int .i64 act,.int .i64 seq,.slice ar dir.length cr] 37):=⟨_,rfl⟩
 have HB0:Hid (Below w.heap.size w wb):=by rw [hwb];exact (Below.refl _ w).alloc (Nat.le_refl _) _
 have HBE:Hid (wb.heap[w.heap.size]? = some (.cells #[.slice ad fs.length cd,.int .i64 room,.int .i64 act,.int .i64 seq,.slice ar dir.length cr] 37 (0,0))):=by rw [hwb];exact heap_alloc_new _ _
 have HMD:=hide (markDisk_row (.slice ad fs.length cd) fs B k wb hn hk0 (by omega) (rowF_below HRF.out HB0.out))
 obtain ⟨z0,z1,z2,z3,z4,-⟩:=five_cells HBE.out
 go_enter Tryz.func10,Tryz.ntmps10
 go_wp2_with fail
 rw [← hwb]
 clear hwb
 go_wp2_with fail
 refine HMD.out.mono ?_
 rintro e w1 ⟨rfl,rf1,g1⟩
 have RS1:=hide (rowSpot_grown (rowSpot_below HRS.out HB0.out) g1 (fun g hg e => files_spots_ne (rowF_below HRF.out HB0.out) (rowSpot_below HRS.out HB0.out) e.symm hg))
 have RF1:=hide rf1
 have B1:Hid (Below B w w1):=(HB0.out.mono hB).grown g1 (Nat.le_trans hB HB0.out.size) (fun g hg => (rowF_lt HRF.out g hg).1)
 have HE1:Hid (w1.heap[w.heap.size]? = some (.cells #[.slice ad fs.length cd,.int .i64 room,.int .i64 act,.int .i64 seq,.slice ar dir.length cr] 37 (0,0))):=by
  show _=_
  rw [g1.block _ (heap_lt HBE.out) (fun e => by have:=(rowF_lt HRF.out _ e.symm).2;omega)]
  exact HBE.out
 have hw1:w.heap.size < w1.heap.size:=heap_lt HE1.out
 have X1:Hid (∀ x,x < w.heap.size→(Value.slice ad fs.length cd).ownBlock ≠ some x→w1.heap[x]? = w.heap[x]?):=fun x hx h => (g1.block x (by have:=HB0.out.size;omega) (fun e => h e.symm)).trans (HB0.out.block x hx)
 clear rf1 g1 HMD z0 z1 z2 z3 z4 HBE
 have HMS:=hide (markSpotS_own (.slice ar dir.length cr) dir B (k+3 * fs.length) w1 hm (by omega) (by omega) RS1.out)
 obtain ⟨z0,z1,z2,z3,z4,-⟩:=five_cells HE1.out
 go_wp2_with fail
 refine HMS.out.mono ?_
 rintro e w2 ⟨rfl,rs2,g2⟩
 have RF2:=hide (rowF_grown RF1.out g2 (fun g hg e => files_spots_ne RF1.out RS1.out hg e.symm))
 have RS2:=hide rs2
 have B2:Hid (Below B w w2):=B1.out.grown g2 (by omega) (fun g hg => (rowSpot_lt RS1.out g hg).1)
 have X2:Hid (∀ x,x < w.heap.size→(Value.slice ad fs.length cd).ownBlock ≠ some x→(Value.slice ar dir.length cr).ownBlock ≠ some x→w2.heap[x]? = w.heap[x]?):=fun x hx h h' => (g2.block x (by omega) (fun e => h' e.symm)).trans (X1.out x hx h)
 clear rs2 g2 HMS z0 z1 z2 z3 z4
 go_wp2
 go_ret
 exact ⟨rfl,RF2.out,RS2.out,B2.out,X2.out⟩
def sumI:List EntD→Nat
 | [] => 0
 | e :: r => e.val.items.length+sumI r
theorem sumI_append:∀ (a b:List EntD),sumI (a ++ b)=sumI a+sumI b
 | [],_ => by simp [sumI]
 | e :: r,b => by simp [sumI,sumI_append r b];omega
theorem sumI_take (es:List EntD) (k:Nat):sumI (es.take k)≤sumI es:=by
 have:=sumI_append (es.take k) (es.drop k)
 rw [List.take_append_drop] at this
 omega
def markEntD (K n:Nat):EntD:=⟨⟨(mk K).toArray⟩,⟨(K:Int)+1,(K:Int)+1+1,⟨(mk (K+3)).toArray⟩,markTs (K+4) n⟩⟩
def markEEnd:Nat→List EntD→Nat
 | k,[] => k
 | k,e :: r => markEEnd (k+4+e.val.items.length) r
def markEntDs:Nat→List EntD→List EntD
 | _,[] => []
 | k,e :: r => markEntD k e.val.items.length :: markEntDs (k+4+e.val.items.length) r
theorem markEntDs_length:∀ (es:List EntD) (k:Nat),(markEntDs k es).length=es.length
 | [],_ => rfl
 | e :: r,k => by simp [markEntDs,markEntDs_length r]
theorem markEEnd_snoc:∀ (es:List EntD) (k:Nat) (e:EntD),markEEnd k (es ++ [e])=markEEnd k es+4+e.val.items.length
 | [],_,_ => rfl
 | _ :: r,_,e => markEEnd_snoc r _ e
theorem markEntDs_snoc:∀ (es:List EntD) (k:Nat) (e:EntD),markEntDs k (es ++ [e])=markEntDs k es ++ [markEntD (markEEnd k es) e.val.items.length]
 | [],_,_ => rfl
 | c :: r,k,e => by
  show _ :: markEntDs _ (r ++ [e])=_ :: (_ ++ _)
  rw [markEntDs_snoc r _ e]
  rfl
theorem markEEnd_eq:∀ (es:List EntD) (k:Nat),markEEnd k es=k+4 * es.length+sumI es
 | [],k => by simp [markEEnd,sumI]
 | e :: r,k => by
  simp only [markEEnd,sumI,List.length_cons,markEEnd_eq r]
  omega
theorem markEntDs_get (es:List EntD) (k j:Nat) (h:j < es.length):(markEntDs k es)[j]? = some (markEntD (markEEnd k (es.take j)) es[j].val.items.length):=by
 induction es generalizing k j with
 | nil => simp at h
 | cons e r ih =>
  cases j with
  | zero => rfl
  | succ j =>
   have:=ih (k+4+e.val.items.length) j (by simpa using h)
   simpa [markEntDs,markEEnd] using this
def mixE (k:Nat) (es:List EntD) (i:Nat):List EntD:=markEntDs k (es.take i) ++ es.drop i
theorem mixE_length (k:Nat) (es:List EntD) (i:Nat):(mixE k es i).length=es.length:=by
 unfold mixE
 rw [List.length_append,markEntDs_length,← List.length_append,List.take_append_drop]
theorem mixE_here (k:Nat) (es:List EntD) (i:Nat) (h:i < es.length):(mixE k es i)[i]? = some es[i]:=by
 unfold mixE
 rw [List.getElem?_append_right (by rw [markEntDs_length,List.length_take];omega),markEntDs_length,List.length_take,Nat.min_eq_left (by omega),Nat.sub_self,List.getElem?_drop]
 simp [h]
theorem mixE_next (k:Nat) (es:List EntD) (i:Nat) (h:i < es.length):mixE k es (i+1)=(mixE k es i).set i (markEntD (markEEnd k (es.take i)) es[i].val.items.length):=by
 unfold mixE
 have hd:es.drop i=es[i] :: es.drop (i+1):=List.drop_eq_getElem_cons h
 rw [List.take_succ_eq_append_getElem h,markEntDs_snoc,hd]
 have hl:(markEntDs k (es.take i)).length=i:=by rw [markEntDs_length,List.length_take];omega
 rw [List.set_append_right _ _ (by omega),hl,Nat.sub_self,List.set_cons_zero,List.append_assoc]
 rfl
theorem mixE_end (k:Nat) (es:List EntD):mixE k es es.length=markEntDs k es:=by
 unfold mixE
 rw [List.take_length,List.drop_length,List.append_nil]
def put4 (C:Array Value) (k:Nat) (e:EntD):Array Value:=(((C.setIfInBounds (k * 5) (.string e.key)).setIfInBounds (k * 5+1) (.int .i64 e.val.kind)).setIfInBounds (k * 5+2) (.int .i64 e.val.til)).setIfInBounds (k * 5+3) (.string e.val.text)
theorem put4_size (C:Array Value) (k:Nat) (e:EntD):(put4 C k e).size=C.size:=by simp [put4]
theorem put4_other (C:Array Value) (k:Nat) (e:EntD) (i:Nat) (h:i < k * 5 ∨ k * 5+3 < i):(put4 C k e)[i]? = C[i]?:=by
 unfold put4
 rw [Array.getElem?_setIfInBounds_ne (by omega),Array.getElem?_setIfInBounds_ne (by omega),Array.getElem?_setIfInBounds_ne (by omega),Array.getElem?_setIfInBounds_ne (by omega)]
theorem put4_here (C:Array Value) (k:Nat) (e:EntD) (h:k * 5+4 < C.size):(put4 C k e)[k * 5]? = some (.string e.key)∧(put4 C k e)[k * 5+1]? = some (.int .i64 e.val.kind)∧(put4 C k e)[k * 5+2]? = some (.int .i64 e.val.til)∧(put4 C k e)[k * 5+3]? = some (.string e.val.text):=by
 unfold put4
 refine ⟨?_,?_,?_,?_⟩ <;> simp [Array.getElem?_setIfInBounds] <;> omega
theorem kidsE_set {w w3:World} {B g i:Nat} {C:Array Value} {L:List EntD} {x:Value} {e:EntD} (hI:KidsE w B g C L L.length) (hi:i < L.length) (hx:C[i * 5+4]? = some x) (hs:L.length * 5≤C.size)
  (hk:∀ b,b ≠ g→x.ownBlock ≠ some b→b < w.heap.size→w3.heap[b]? = w.heap[b]?) (hr:RowText w3 B x e.val.items):KidsE w3 B g (put4 C i e) (L.set i e) L.length:=by
 have odd:∀ j,(put4 C i e)[j * 5+4]? = C[j * 5+4]?:=fun j => put4_other _ _ _ _ (by omega)
 refine ⟨fun j hj hjk => ?_,?_⟩
 ·
  by_cases hji:j=i
  ·
   subst hji
   obtain ⟨-,-,-,-,y,k5,-,k7⟩:=hI.1 j hi hi
   rw [hx] at k5
   obtain rfl:=Option.some.inj k5
   obtain ⟨h1,h2,h3,h4⟩:=put4_here C j e (by omega)
   rw [List.getElem_set_self]
   exact ⟨h1,h2,h3,h4,x,by rw [odd];exact hx,hr,k7⟩
  ·
   obtain ⟨k1,k2,k3,k4,y,k5,k6,k7⟩:=hI.1 j hjk hjk
   rw [List.getElem_set_ne (by omega)]
   refine ⟨by rw [put4_other _ _ _ _ (by omega)];exact k1,by rw [put4_other _ _ _ _ (by omega)];exact k2,by rw [put4_other _ _ _ _ (by omega)];exact k3,by rw [put4_other _ _ _ _ (by omega)];exact k4,y,by rw [odd];exact k5,rowText_keep k6 (fun b hb => ?_),k7⟩
   exact hk b (fun h => k7 (by rw [hb,h])) (fun h => hI.2 j i y x b hji hjk hi k5 hx hb h) (rowText_lt k6 b hb).2
 ·
  intro a b y z h hab ha hb hy hz
  rw [odd] at hy hz
  exact hI.2 a b y z h hab ha hb hy hz
def TopE (w:World) (T:Nat) (v:Value) (es:List EntD):Prop:=∀ g,v.ownBlock=some g→g < T∧∀ C t,w.heap[g]? = some (.cells C t (0,0))→∀ (j:Nat) (x:Value),j < es.length→C[j * 5+4]? = some x→∀ h,x.ownBlock=some h→h < T
theorem topE_of {w:World} {B:Nat} {v:Value} {es:List EntD} (h:RowEnt w B v es):TopE w w.heap.size v es:=by
 rcases h with ⟨rfl,rfl⟩ | ⟨g,cap,C0,rfl,hB,hC,hs,hI⟩
 · intro g hg;cases hg
 ·
  intro g' hg
  have e:g=g':=Option.some.inj hg
  subst e
  refine ⟨obj_lt hC,fun C t hC' j x hj hx h hh => ?_⟩
  rw [hC] at hC'
  have e2:C0=C:=by injection hC' with h1;injection h1
  subst e2
  obtain ⟨-,-,-,-,y,k5,k6,-⟩:=hI.1 j hj hj
  rw [hx] at k5
  obtain rfl:=Option.some.inj k5
  exact (rowText_lt k6 h hh).2
theorem markEntryS_row (v:Value) (es:List EntD) (B k:Nat) (w:World) (hn:4 * es.length+sumI es≤6000000) (hc:∀ e ∈ es,e.val.items.length≤1048576) (hk0:0 < k) (hk:k≤10) (h:RowEnt w B v es) (T:Nat) (hT:TopE w T v es) :
  Calls Tryz.prog 11 #[v,.int .i64 (k:Int)] w fun e w' => e=.returned (.int .i64 ((markEEnd k es:Nat):Int))∧RowEnt w' B v (markEntDs k es)∧Below B w w'∧∀ b,T≤b→b < w.heap.size→w'.heap[b]? = w.heap[b]?:=by
 rcases h with ⟨rfl,rfl⟩ | ⟨g,cap,C0,rfl,hB,hC,hs,hI⟩
 ·
  go_enter Tryz.func11,Tryz.ntmps11
  go_wp2
  go_loop [1,5] (fun kk ii => kk=.int .i64 k∧ii=.int .i64 0) (fun _ _ => 0)
  case atStart => exact ⟨rfl,rfl⟩
  case round =>
   obtain ⟨rfl,rfl⟩:=hrel
   go_wp2
   go_ret
   exact ⟨rfl,.inl ⟨rfl,rfl⟩,Below.refl _ _,fun _ _ _ => rfl⟩
 ·
  have HC0:=hide hC
  have HCH:=hide hc
  have HI0:Hid (KidsE w B g C0 (mixE k es 0) es.length):=hI
  obtain ⟨hgT,hT1⟩:=hT g rfl
  have HT0:=hide (hT1 C0 _ hC)
  clear hT hT1
  have hsz0:B≤w.heap.size:=by have:=obj_lt hC;omega
  clear hC hI hc
  go_enter Tryz.func11,Tryz.ntmps11
  go_wp2
  go_loopw [1,5] (fun kk ii wr => ∃ (j:Nat) (C:Array Value),kk=.int .i64 ((markEEnd k (es.take j):Nat):Int)∧ii=.int .i64 j∧j≤es.length∧Hid (wr.heap[g]? = some (.cells C 57 (0,0)))∧C.size=C0.size∧Hid (KidsE wr B g C (mixE k es j) es.length)∧Hid (Below B w wr)∧Hid (∀ (i:Nat) (x:Value),i < es.length→C[i * 5+4]? = some x→∀ h,x.ownBlock=some h→h < T)∧Hid (∀ b,T≤b→b < w.heap.size→wr.heap[b]? = w.heap[b]?)) (fun _ ii _ => es.length - (intOf ii).toNat)
  case atStart => exact ⟨0,C0,rfl,rfl,Nat.zero_le _,HC0,rfl,HI0,Below.refl _ _,HT0,fun _ _ _ => rfl⟩
  case round =>
   obtain ⟨j,C,rfl,rfl,hj,HC,hCs,HI,HB,HTC,HTB⟩:=hrel
   by_cases hlt:j < es.length
   ·
    have hlt':decide ((j:Int) < (es.length:Int))=true:=by simp;omega
    have hi0:(0:Int)≤(j:Int):=by omega
    have hi1:(j:Int) < (es.length:Int):=by omega
    have hgw:g < wr.heap.size:=obj_lt HC.out
    obtain ⟨K,HK⟩:∃ K:Nat,Hid (K=markEEnd k (es.take j)):=⟨_,hide rfl⟩
    have hFl:=HCH.out es[j] (List.getElem_mem hlt)
    have hKb:0 < K∧K≤6000010:=by
     have h1:=markEEnd_eq (es.take j) k
     have h2:=sumI_take es j
     have h3:(es.take j).length≤es.length:=by rw [List.length_take];omega
     have:=HK.out
     omega
    have hml:=mixE_length k es j
    obtain ⟨-,-,-,-,x,hx1,hx2,hx3⟩:=HI.out.1 j (by omega) hlt
    have hhere:=mixE_here k es j hlt
    have hhe:(mixE k es j)[j]'(by omega)=es[j]:=by rw [List.getElem?_eq_getElem (by omega)] at hhere;exact Option.some.inj hhere
    rw [hhe] at hx2
    obtain ⟨F,HF⟩:∃ F,Hid (es[j]=F):=⟨es[j],hide rfl⟩
    rw [HF.out] at hx2 hFl
    have HX2:=hide hx2
    have HX3:=hide hx3
    have HX1:=hide hx1
    have HHE:=hide hhe
    obtain ⟨a1,c1,rfl,-⟩:=rowText_at hx2
    have M0:=hide (fun W => mark_any K W hKb.1 (by omega))
    have M3:Hid (∀ W,Calls Tryz.prog 28 #[.int .i64 ((K:Int)+1+1+1)] W fun e w' => e=.returned (.string ⟨(mk (K+3)).toArray⟩)∧Below W.heap.size W w'):=fun W => by
     have h:=mark_any (K+3) W (by omega) (by omega)
     rw [show (((K+3:Nat)):Int)=(K:Int)+1+1+1 from by omega] at h
     exact h
    obtain ⟨M,HMM⟩:∃ M:Int,Hid (((K+4+F.val.items.length:Nat):Int)=M):=⟨_,hide rfl⟩
    have M4:Hid (∀ W,RowText W B (.slice a1 F.val.items.length c1) F.val.items→Calls Tryz.prog 29 #[.slice a1 F.val.items.length c1,.int .i64 ((K:Int)+1+1+1+1)] W fun e w' => e=.returned (.int .i64 M)∧RowText w' B (.slice a1 F.val.items.length c1) (markTs (K+4) F.val.items.length)∧W.grownBy w' (Value.slice a1 F.val.items.length c1).ownBlock):=fun W hW => by
     have h:=markStringS_row _ F.val.items B (K+4) W (by omega) (by omega) (by omega) hW
     rw [show (((K+4:Nat)):Int)=(K:Int)+1+1+1+1 from by omega,HMM.out] at h
     exact h
    rw [← HK.out]
    clear hx1 hx2 hx3 hhere hhe
    go_wp2_with fail
    refine (M0.out _).mono ?_
    rintro e w1 ⟨rfl,b1⟩
    have hC1:=(b1.block g hgw).trans HC.out
    have HO1:Hid (∀ b,b < wr.heap.size→w1.heap[b]? = wr.heap[b]?):=fun b hb => b1.block b hb
    have HB1:=hide (HB.out.trans (b1.mono (Nat.le_trans hsz0 HB.out.size)))
    have hs1:wr.heap.size≤w1.heap.size:=b1.size
    clear b1
    have hq0:=cell_of_row w1 g (j * 5) _ _ (0,0) hC1
    have hq1:=cell_of_row w1 g (j * 5+1) _ _ (0,0) hC1
    have hq2:=cell_of_row w1 g (j * 5+2) _ _ (0,0) hC1
    have hf0:=frozen_of_row w1 g (j * 5) _ _ hC1
    have hf1:=frozen_of_row w1 g (j * 5+1) _ _ hC1
    have hf2:=frozen_of_row w1 g (j * 5+2) _ _ hC1
    rw [Array.getElem?_eq_getElem (by omega)] at hq0 hq1 hq2
    obtain ⟨X,hX⟩:∃ X,X=((w1.setCell ⟨g,j * 5,none⟩ (.string ⟨(mk K).toArray⟩)).setCell ⟨g,j * 5+1,none⟩ (.int .i64 ((K:Int)+1))).setCell ⟨g,j * 5+2,none⟩ (.int .i64 ((K:Int)+1+1)):=⟨_,rfl⟩
    have XC:Hid (X.heap[g]? = some (.cells (((C.setIfInBounds (j * 5) (.string ⟨(mk K).toArray⟩)).setIfInBounds (j * 5+1) (.int .i64 ((K:Int)+1))).setIfInBounds (j * 5+2) (.int .i64 ((K:Int)+1+1))) 57 (0,0))):=by rw [hX];exact heap_setCell_same _ g _ _ _ _ (heap_setCell_same _ g _ _ _ _ (heap_setCell_same w1 g _ C _ _ hC1))
    have XO:Hid (∀ b,b ≠ g→X.heap[b]? = w1.heap[b]?):=fun b hb => by
     rw [hX,Below.heap_setCell _ _ _ _ (by simpa using hb),Below.heap_setCell _ _ _ _ (by simpa using hb),Below.heap_setCell _ _ _ _ (by simpa using hb)]
    have XS:Hid (X.heap.size=w1.heap.size):=by rw [hX];show _=_;simp [World.setCell]
    have XB:Hid (Below B w X):=by rw [hX];exact ((HB1.out.setCell (p:=⟨g,j * 5,none⟩) hB _).setCell (p:=⟨g,j * 5+1,none⟩) hB _).setCell (p:=⟨g,j * 5+2,none⟩) hB _
    clear hC1
    go_wp2_with fail
    rw [← hX]
    clear hX hq0 hq1 hq2 hf0 hf1 hf2
    refine (M3.out _).mono ?_
    rintro e w2 ⟨rfl,b2⟩
    have hC2:=(b2.block g (obj_lt XC.out)).trans XC.out
    have HO2:Hid (∀ b,b ≠ g→b < wr.heap.size→w2.heap[b]? = wr.heap[b]?):=fun b hb hw => by rw [b2.block b (by have:=XS.out;omega),XO.out b hb,HO1.out b hw]
    have HB2:=hide (XB.out.trans (b2.mono (Nat.le_trans hsz0 XB.out.size)))
    have hs2:wr.heap.size≤w2.heap.size:=by have:=b2.size;have:=XS.out;omega
    clear b2
    have hq3:=cell_of_row w2 g (j * 5+3) _ _ (0,0) hC2
    have hf3:=frozen_of_row w2 g (j * 5+3) _ _ hC2
    rw [Array.getElem?_eq_getElem (by simp;omega)] at hq3
    obtain ⟨Y,hY⟩:∃ Y,Y=w2.setCell ⟨g,j * 5+3,none⟩ (.string ⟨(mk (K+3)).toArray⟩):=⟨_,rfl⟩
    have YC:Hid (Y.heap[g]? = some (.cells (put4 C j (markEntD K F.val.items.length)) 57 (0,0))):=by rw [hY];exact heap_setCell_same _ g _ _ _ _ hC2
    have YO:Hid (∀ b,b ≠ g→b < wr.heap.size→Y.heap[b]? = wr.heap[b]?):=fun b hb hw => by rw [hY,Below.heap_setCell _ _ _ _ (by simpa using hb)];exact HO2.out b hb hw
    have YS:Hid (wr.heap.size≤Y.heap.size):=by rw [hY];show _≤_;simp [World.setCell];exact hs2
    have YB:Hid (Below B w Y):=by rw [hY];exact HB2.out.setCell (p:=⟨g,j * 5+3,none⟩) hB _
    have YR:Hid (RowText Y B (.slice a1 F.val.items.length c1) F.val.items):=rowText_keep HX2.out (fun b hb => YO.out b (fun e => HX3.out (by rw [hb,e])) (rowText_lt HX2.out b hb).2)
    have hq4:Y.cell? ⟨g,j * 5+4,none⟩=some (.slice a1 F.val.items.length c1):=(cell_of_row Y g (j * 5+4) _ _ (0,0) YC.out).trans ((put4_other _ _ _ _ (by omega)).trans HX1.out)
    have hq5:(w2.setCell ⟨g,j * 5+3,none⟩ (.string ⟨(mk (K+3)).toArray⟩)).cell? ⟨g,j * 5+4,none⟩=some (.slice a1 F.val.items.length c1):=by rw [← hY];exact hq4
    have hq6:w2.cell? ⟨g,j * 5+4,none⟩=some (.slice a1 F.val.items.length c1):=by
     refine (cell_of_row w2 g (j * 5+4) _ _ (0,0) hC2).trans ?_
     rw [Array.getElem?_setIfInBounds_ne (by omega),Array.getElem?_setIfInBounds_ne (by omega),Array.getElem?_setIfInBounds_ne (by omega)]
     exact HX1.out
    clear hC2
    go_wp2_with fail
    rw [← hY]
    clear hY hq3 hf3 hq4 hq5 hq6
    refine (M4.out _ YR.out).mono ?_
    rintro e w3 ⟨rfl,r3,g3⟩
    have R3:=hide r3
    have G3:=hide g3
    clear r3 g3
    go_wp2_with fail
    go_roundw
    case rel =>
     have hne:some g ≠ (Value.slice a1 F.val.items.length c1).ownBlock:=fun e => HX3.out e.symm
     refine ⟨j+1,put4 C j (markEntD K F.val.items.length),?_,by go_num,by omega,(G3.out.block g (obj_lt YC.out) hne).trans YC.out,by rw [put4_size];exact hCs,?_,YB.out.grown G3.out (Nat.le_trans hsz0 YB.out.size) (fun b hb => (rowText_lt YR.out b hb).1),fun i x hi hx => HTC.out i x hi (by rw [← put4_other C j (markEntD K F.val.items.length) (i * 5+4) (by omega)];exact hx),fun b hTb hb => ?_⟩
     · rw [← HMM.out,List.take_succ_eq_append_getElem hlt,markEEnd_snoc,← HK.out,HF.out]
     ·
      show KidsE _ _ _ _ _ _
      have hkk:=kidsE_set (L:=mixE k es j) (e:=markEntD K F.val.items.length) (by rw [hml];exact HI.out) (by omega) HX1.out (by omega) (w3:=w3) (fun b hb hx hw => by rw [G3.out.block b (by have:=YS.out;omega) (fun e => hx e.symm),YO.out b hb hw]) R3.out
      rw [hml] at hkk
      rw [mixE_next k es j hlt,← HK.out,HF.out]
      exact hkk
     ·
      have hbs:=HB.out.size
      rw [G3.out.block b (by have:=YS.out;omega) (fun e => by have:=HTC.out j _ hlt HX1.out b e.symm;omega),YO.out b (by omega) (by omega)]
      exact HTB.out b hTb hb
    case measure => simp [intOf];omega
   ·
    have hlt':decide ((j:Int) < (es.length:Int))=false:=by simp;omega
    have hje:j=es.length:=by omega
    subst hje
    have HI2:=HI.out
    rw [mixE_end] at HI2
    have HI3:=hide HI2
    clear HI2
    rw [List.take_length]
    go_wp2
    go_ret
    have hl:=markEntDs_length es k
    exact ⟨rfl,.inr ⟨g,cap,C,by rw [hl],hB,HC.out,by omega,by rw [hl];exact HI3.out⟩,HB.out,HTB.out⟩
theorem heldEntryS_any (ao:Option Addr) (cap:Nat) (es:List EntD) (k:Nat) (w:World) (hn:4 * es.length+sumI es≤6000000) (hc:∀ e ∈ es,e.val.items.length≤1048576) (hk0:0 < k) (hk:k≤10) (h:EntriesAt w ao (markEntDs k es)) :
  Calls Tryz.prog 12 #[.slice ao es.length cap,.int .i64 (k:Int)] w fun e w' => e=.returned (.int .i64 ((markEEnd k es:Nat):Int))∧Below w.heap.size w w':=by
 have HF:=hide h
 have HCH:=hide hc
 clear h hc
 go_enter Tryz.func12,Tryz.ntmps12
 go_wp2
 go_loopw [1,5] (fun kk ii wr => ∃ (j:Nat),kk=.int .i64 ((markEEnd k (es.take j):Nat):Int)∧ii=.int .i64 j∧j≤es.length∧Hid (Below w.heap.size w wr)) (fun _ ii _ => es.length - (intOf ii).toNat)
 case atStart => exact ⟨0,rfl,rfl,Nat.zero_le _,Below.refl _ _⟩
 case round =>
  obtain ⟨j,rfl,rfl,hj,HB⟩:=hrel
  by_cases hlt:j < es.length
  ·
   have hlt':decide ((j:Int) < (es.length:Int))=true:=by simp;omega
   have hi0:(0:Int)≤(j:Int):=by omega
   have hi1:(j:Int) < (es.length:Int):=by omega
   have hml:=markEntDs_length es k
   obtain ⟨b,off,rfl,hbw,hc0,hc1,hc2,hc3,a,c,hc4,hta⟩:=entriesAt_keep HF.out HB.out j (by omega)
   have hget:=markEntDs_get es k j hlt
   rw [List.getElem?_eq_getElem (by omega)] at hget
   have hge:=Option.some.inj hget
   have hFl:=HCH.out es[j] (List.getElem_mem hlt)
   rw [hge] at hc0 hc1 hc2 hc3 hc4 hta
   obtain ⟨K,HK⟩:∃ K:Nat,Hid (K=markEEnd k (es.take j)):=⟨_,hide rfl⟩
   have hKb:0 < K∧K≤6000010:=by
    have h1:=markEEnd_eq (es.take j) k
    have h2:=sumI_take es j
    have h3:(es.take j).length≤es.length:=by rw [List.length_take];omega
    have:=HK.out
    omega
   have HEN:Hid (markEEnd k (es.take (j+1))=K+4+es[j].val.items.length):=by show _=_;rw [List.take_succ_eq_append_getElem hlt,markEEnd_snoc,← HK.out]
   rw [← HK.out] at hc0 hc1 hc2 hc3 hc4 hta ⊢
   obtain ⟨n,hn2⟩:∃ n,n=es[j].val.items.length:=⟨_,rfl⟩
   rw [← hn2] at hc0 hc1 hc2 hc3 hc4 hta hFl HEN
   clear hge hget hn2
   have hct:(markEntD K n).val.items.length=n:=markTs_length _ _
   rw [hct] at hc4
   obtain ⟨s0,hs0⟩:∃ s0:ByteArray,s0=⟨(mk K).toArray⟩:=⟨_,rfl⟩
   obtain ⟨s3,hs3⟩:∃ s3:ByteArray,s3=⟨(mk (K+3)).toArray⟩:=⟨_,rfl⟩
   have he0:(s0.toList == s0.toList)=true:=beq_self_eq_true _
   have he3:(s3.toList == s3.toList)=true:=beq_self_eq_true _
   have hy1:((K:Int)+1 == (K:Int)+1)=true:=beq_self_eq_true _
   have hy2:((K:Int)+1+1 == (K:Int)+1+1)=true:=beq_self_eq_true _
   have KS:Hid (∀ X,Below wr.heap.size wr X→X.cell? ⟨b,off+j * 5,none⟩=some (.string s0)∧X.cell? ⟨b,off+j * 5+1,none⟩=some (.int .i64 ((K:Int)+1))∧X.cell? ⟨b,off+j * 5+2,none⟩=some (.int .i64 ((K:Int)+1+1))∧X.cell? ⟨b,off+j * 5+3,none⟩=some (.string s3)∧X.cell? ⟨b,off+j * 5+4,none⟩=some (.slice a n c)) :=
    fun X hX => ⟨(hX.cell (p:=⟨b,off+j * 5,none⟩) hbw).trans (by rw [hs0];exact hc0),(hX.cell (p:=⟨b,off+j * 5+1,none⟩) hbw).trans hc1,(hX.cell (p:=⟨b,off+j * 5+2,none⟩) hbw).trans hc2,(hX.cell (p:=⟨b,off+j * 5+3,none⟩) hbw).trans (by rw [hs3];exact hc3),(hX.cell (p:=⟨b,off+j * 5+4,none⟩) hbw).trans hc4⟩
   have M0:Hid (∀ W,Calls Tryz.prog 28 #[.int .i64 (K:Int)] W fun e w' => e=.returned (.string s0)∧Below W.heap.size W w'):=fun W => by rw [hs0];exact mark_any K W hKb.1 (by omega)
   have M3:Hid (∀ W,Calls Tryz.prog 28 #[.int .i64 ((K:Int)+1+1+1)] W fun e w' => e=.returned (.string s3)∧Below W.heap.size W w'):=fun W => by
    have h:=mark_any (K+3) W (by omega) (by omega)
    rw [show (((K+3:Nat)):Int)=(K:Int)+1+1+1 from by omega,← hs3] at h
    exact h
   obtain ⟨M,HMM⟩:∃ M:Int,Hid (((K+4+n:Nat):Int)=M):=⟨_,hide rfl⟩
   have hMn:decide (M < 0)=false:=by have:=HMM.out;simp;omega
   have HTA:=hide hta
   have M4:Hid (∀ W,Below wr.heap.size wr W→Calls Tryz.prog 30 #[.slice a n c,.int .i64 ((K:Int)+1+1+1+1)] W fun e w' => e=.returned (.int .i64 M)∧Below W.heap.size W w'):=fun W hW => by
    have h:=heldStringS_any a c n (K+4) W (by omega) (by omega) (by omega) (textsAt_keep HTA.out hW)
    rw [show (((K+4:Nat)):Int)=(K:Int)+1+1+1+1 from by omega,HMM.out] at h
    exact h
   clear hc0 hc1 hc2 hc3 hc4 hs0 hs3 hta hct
   have B0:Hid (Below wr.heap.size wr wr):=Below.refl _ _
   go_wp2_with fail
   go_region_held3 (fun X => X.cell? ⟨b,off+j * 5,none⟩=some (.string s0)) (first | (exact (KS.out _ (Below.refl _ _)).1) | (exact (KS.out _ (Below.refl _ _).drew).1) | (exact (KS.out _ ((Below.refl _ _).drew.trans b1)).1) | fail) ((go_at_call 28;refine (M0.out _).mono ?_;rintro e v1 ⟨rfl,b1⟩))
   have B1:Hid (Below wr.heap.size wr v1):=(Below.refl _ _).drew.trans b1
   clear b1
   obtain ⟨x0,x1,x2,x3,x4⟩:=KS.out _ B1.out
   go_wp2_with fail
   go_region_held3 (fun X => X.cell? ⟨b,off+j * 5+3,none⟩=some (.string s3)) (first | (exact (KS.out _ B1.out).2.2.2.1) | (exact (KS.out _ B1.out.drew).2.2.2.1) | (exact (KS.out _ (B1.out.trans (((Below.refl _ _).drew.trans b2).mono B1.out.size))).2.2.2.1) | fail) ((go_at_call 28;refine (M3.out _).mono ?_;rintro e v2 ⟨rfl,b2⟩))
   have B2:Hid (Below wr.heap.size wr v2):=B1.out.trans (((Below.refl _ _).drew.trans b2).mono B1.out.size)
   clear b2 x0 x1 x2 x3 x4
   obtain ⟨x0,x1,x2,x3,x4⟩:=KS.out _ B2.out
   go_wp2_with fail
   refine (M4.out _ B2.out).mono ?_
   rintro e v3 ⟨rfl,b3⟩
   have B3:=hide (B2.out.trans (b3.mono B2.out.size))
   clear b3
   go_wp2
   go_roundw
   case rel => exact ⟨j+1,by rw [HEN.out,← HMM.out],by go_num,by omega,HB.out.trans (B3.out.mono HB.out.size)⟩
   case measure => simp [intOf];omega
  ·
   have hlt':decide ((j:Int) < (es.length:Int))=false:=by simp;omega
   have hje:j=es.length:=by omega
   subst hje
   rw [List.take_length]
   go_wp2
   go_ret
   exact ⟨rfl,HB.out⟩
end Go.Proofs.YtbenmgokhklnjaaGreatDoor
