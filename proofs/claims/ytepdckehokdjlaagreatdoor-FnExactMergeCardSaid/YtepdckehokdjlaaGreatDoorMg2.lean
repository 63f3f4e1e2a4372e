import Derived.Laws.MakeOwn
import Derived.Lib.SmallJoins
import Derived.OpenShut
import Derived.Lib.ConvBytes
import Derived.Deep.AppendLies
import Derived.Test.YtepdckehokdjlaaGreatDoorMg0
import Derived.Test.YtepdckehokdjlaaGreatDoorMg1
set_option maxRecDepth 100000
set_option maxHeartbeats 1600000
namespace Go.Proofs.YtepdckehokdjlaaGreatDoor
open Go.RowKit
structure ChangeD where
 key:ByteArray
 value:ByteArray
 gone:Bool
def ChangesAt (w:World) (ao:Option Addr) (fs:List ChangeD):Prop:=∀ j (h:j < fs.length),∃ b off:Nat,ao=some ⟨b,off,none⟩∧b < w.heap.size ∧
 w.cell? ⟨b,off+j * 3,none⟩=some (.string fs[j].key)∧w.cell? ⟨b,off+j * 3+1,none⟩=some (.string fs[j].value)∧w.cell? ⟨b,off+j * 3+2,none⟩=some (.bool fs[j].gone)
theorem changesAt_keep {w w':World} {ao:Option Addr} {fs:List ChangeD} (h:ChangesAt w ao fs) (hb:Below w.heap.size w w'):ChangesAt w' ao fs:=by
 intro j hj
 obtain ⟨b,off,h1,h2,h3,h4,h5⟩:=h j hj
 exact ⟨b,off,h1,Nat.lt_of_lt_of_le h2 hb.size,(hb.cell (p:=⟨b,off+j * 3,none⟩) h2).trans h3,(hb.cell (p:=⟨b,off+j * 3+1,none⟩) h2).trans h4,(hb.cell (p:=⟨b,off+j * 3+2,none⟩) h2).trans h5⟩
def ChangesIn (C:Array Value) (fs:List ChangeD) (k:Nat):Prop:=∀ j (h:j < fs.length),j < k→C[j * 3]? = some (.string fs[j].key)∧C[j * 3+1]? = some (.string fs[j].value)∧C[j * 3+2]? = some (.bool fs[j].gone)
theorem Tryz.infoChange:(Tryz.prog.info? 145).map (fun i => (i.zero,i.size,i.bytes))=some (some (.agg #[.string ⟨#[]⟩,.string ⟨#[]⟩,.bool false]),3,40):=by kernel_rfl
theorem changesAt_own {w:World} {g:Nat} {C:Array Value} {t:TypeId} {fs:List ChangeD} (h:w.heap[g]? = some (.cells C t (0,0))) (hC:ChangesIn C fs fs.length):ChangesAt w (some ⟨g,0,none⟩) fs:=by
 intro j hj
 obtain ⟨h0,h1,h2⟩:=hC j hj hj
 have hg:g < w.heap.size:=(Array.getElem?_eq_some_iff.1 h).1
 refine ⟨g,0,rfl,hg,?_,?_,?_⟩
 · rw [Nat.zero_add,cell_of_row w g _ C t (0,0) h,h0]
 · rw [Nat.zero_add,cell_of_row w g _ C t (0,0) h,h1]
 · rw [Nat.zero_add,cell_of_row w g _ C t (0,0) h,h2]
def cellsChange:List ChangeD→List Value
 | [] => []
 | A :: r => .string A.key :: .string A.value :: .bool A.gone :: cellsChange r
theorem cellsChange_append:∀ (a b:List ChangeD),cellsChange (a ++ b)=cellsChange a ++ cellsChange b
 | [],_ => rfl
 | A :: r,b => by simp [cellsChange,cellsChange_append r b]
theorem cellsChange_length:∀ a:List ChangeD,(cellsChange a).length=a.length * 3
 | [] => rfl
 | A :: r => by simp [cellsChange,cellsChange_length r];omega
theorem cellsChange_one:∀ (a:List ChangeD),∀ u ∈ cellsChange a,u.oneCell' = true
 | [],u,h => absurd h List.not_mem_nil
 | A :: r,u,h => by
  simp only [cellsChange,List.mem_cons] at h
  rcases h with rfl | rfl | rfl | h
  · rfl
  · rfl
  · rfl
  · exact cellsChange_one r u h
theorem cellsChange_get:∀ (a:List ChangeD) (j:Nat) (h:j < a.length),(cellsChange a)[j * 3]? = some (.string a[j].key)∧(cellsChange a)[j * 3+1]? = some (.string a[j].value)∧(cellsChange a)[j * 3+2]? = some (.bool a[j].gone)
 | [],_,h => absurd h (by simp)
 | A :: r,0,_ => by simp [cellsChange]
 | A :: r,j+1,h => by
  have:=cellsChange_get r j (by simpa using h)
  have e:(j+1) * 3=j * 3+3:=by omega
  simp only [cellsChange,e]
  simpa using this
def RowChange (w:World) (B:Nat) (v:Value) (fs:List ChangeD):Prop:=(v=.slice none 0 0∧fs=[]) ∨
 ∃ (g cap:Nat) (C:Array Value),v=.slice (some ⟨g,0,none⟩) fs.length cap∧B≤g∧w.heap[g]? = some (.cells C 145 (0,0))∧fs.length * 3≤C.size∧ChangesIn C fs fs.length
theorem rowChange_at {w:World} {B:Nat} {v:Value} {fs:List ChangeD} (h:RowChange w B v fs):∃ ao cap,v=.slice ao fs.length cap∧ChangesAt w ao fs:=by
 rcases h with ⟨rfl,rfl⟩ | ⟨g,cap,C,rfl,_,hC,_,hI⟩
 · exact ⟨none,0,rfl,fun j hj => absurd hj (by simp)⟩
 · exact ⟨_,cap,rfl,changesAt_own hC hI⟩
theorem rowChange_lt {w:World} {B:Nat} {v:Value} {fs:List ChangeD} (h:RowChange w B v fs):∀ g,v.ownBlock=some g→B≤g∧g < w.heap.size:=by
 rcases h with ⟨rfl,rfl⟩ | ⟨g,cap,C,rfl,hB,hC,_,hI⟩
 · intro g h;cases h
 ·
  intro g' h
  obtain rfl:g=g':=by simpa [Value.ownBlock] using h
  exact ⟨hB,(Array.getElem?_eq_some_iff.1 hC).1⟩
theorem rowChange_keep {w w':World} {B:Nat} {v:Value} {fs:List ChangeD} (h:RowChange w B v fs) (hk:∀ g,v.ownBlock=some g→w'.heap[g]? = w.heap[g]?):RowChange w' B v fs:=by
 rcases h with ⟨rfl,rfl⟩ | ⟨g,cap,C,rfl,hB,hC,hs,hI⟩
 · exact .inl ⟨rfl,rfl⟩
 · exact .inr ⟨g,cap,C,rfl,hB,(hk g rfl).trans hC,hs,hI⟩
theorem rowChange_below {w w':World} {B:Nat} {v:Value} {fs:List ChangeD} (h:RowChange w B v fs) (hb:Below w.heap.size w w'):RowChange w' B v fs :=
 rowChange_keep h (fun g hg => hb.block g (rowChange_lt h g hg).2)
theorem rowChange_grown {w w':World} {B:Nat} {v:Value} {fs:List ChangeD} {r:Option Nat} (h:RowChange w B v fs) (hb:w.grownBy w' r) (hr:∀ g,v.ownBlock=some g→some g ≠ r):RowChange w' B v fs :=
 rowChange_keep h (fun g hg => hb.block g (rowChange_lt h g hg).2 (hr g hg))
theorem rowChange_le {w:World} {B B':Nat} {v:Value} {fs:List ChangeD} (h:RowChange w B v fs) (hB:B'≤B):RowChange w B' v fs:=by
 rcases h with h | ⟨g,cap,C,h1,h2,h3⟩
 · exact .inl h
 · exact .inr ⟨g,cap,C,h1,by omega,h3⟩
theorem rowChange_rows {w:World} {B n c:Nat} {a:Option Addr} {fs:List ChangeD} (h:RowChange w B (.slice a n c) fs):ChangesAt w a fs:=by
 obtain ⟨ao,cap,e,hf⟩:=rowChange_at h
 cases e
 exact hf
theorem take_getChange {C:Array Value} {xs:List Value} {n:Nat} (h:C.toList.take n=xs) {j:Nat} {u:Value} (hj:j < n) (hu:xs[j]? = some u):C[j]? = some u:=by
 rw [← h,List.getElem?_take_of_lt hj] at hu
 simpa using hu
theorem rowChange_own {w:World} {B:Nat} {v:Value} {fs:List ChangeD} (h:w.ownsRow B 145 3 v fs.length (cellsChange fs)):RowChange w B v fs:=by
 rcases h.2 with ⟨rfl,hn⟩ | ⟨g,cap,cur,rfl,hB,hC,hle,_,hs,ht⟩
 · exact .inl ⟨rfl,List.eq_nil_of_length_eq_zero hn⟩
 ·
  refine .inr ⟨g,cap,cur,rfl,hB,hC,by omega,?_⟩
  intro j hj _
  obtain ⟨h0,h1,h2⟩:=cellsChange_get fs j hj
  exact ⟨take_getChange ht (by omega) h0,take_getChange ht (by omega) h1,take_getChange ht (by omega) h2⟩
theorem step_app_change {ops:Array Oper} {o:Oper} {a:Act} {K:Act→World→Prop} {Q:Exit→Act→World→Prop} {E:Prop} (W:World) (B:Nat) (hgd:o.guard=none) (s y:Operand)
  (ho:o.op=.call { callee:=.builtin .append,args:=#[s,y],argTypes:=#[85,85] }) (v:Value) (l:List ChangeD) (F:ChangeD) (hs:a.eval s=v)
  (hown:W.ownsRow B 145 3 v l.length (cellsChange l)) (k:Nat) (hx:a.eval y=.slice (some ⟨k,0,none⟩) 1 1) (hblk:W.heap[k]? = some (.cells #[.string F.key,.string F.value,.bool F.gone] 145 (0,0)))
  (hlen:l.length≤1048576) (hbase:B≤W.heap.size)
  (h:∀ g cap w',w'.ownsRow B 145 3 (.slice (some ⟨g,0,none⟩) (l.length+1) cap) (l ++ [F]).length (cellsChange (l ++ [F]))→Below B W w'→B≤g→g < w'.heap.size→K (a.put o.dst (.slice (some ⟨g,0,none⟩) (l.length+1) cap)) w') :
  if Region.wanted o (yielded ops a.tmps)=true then Oper.wp Tryz.prog o a W K Q else E:=by
 obtain ⟨i0,hi,hz0,hz1,hz2⟩:=info_parts Tryz.infoChange
 refine step_append_lies W hgd s y 85 ho B 145 i0 (.agg #[.string ⟨#[]⟩,.string ⟨#[]⟩,.bool false]) 3 40 Tryz.underlying85 hi hz0 hz1 hz2 rfl (by decide) v l.length (cellsChange l) hs hown ⟨k,0,none⟩ 1 1 (cellsChange [F]) hx (by rw [cellsChange_length];rfl)
  (fun j u hj => World.news_of_block hblk j u hj) (cellsChange_one [F]) (by omega) (by unfold maxLen;omega) (by omega) hbase W.heap.size rfl ?_
 intro g cap w' hown' hgrow hg hgl
 have hlt:=hown.lt
 refine h g cap w' ?_ ((Below.refl B W).grown hgrow hbase (fun k hk => (hlt k hk).1)) ?_ hgl
 ·
  rw [cellsChange_append,List.length_append]
  exact hown'
 ·
  rcases hg with hg | rfl
  · exact (hlt g hg).1
  · exact hbase
theorem app_change {ops:Array Oper} {rest:List Oper} {o:Oper} {a:Act} {Q:Exit→Act→World→Prop} (W:World) (B:Nat) (hgd:o.guard=none) (s y:Operand)
  (ho:o.op=.call { callee:=.builtin .append,args:=#[s,y],argTypes:=#[85,85] }) (v:Value) (l:List ChangeD) (F:ChangeD) (hs:a.eval s=v)
  (hown:W.ownsRow B 145 3 v l.length (cellsChange l)) (k:Nat) (hx:a.eval y=.slice (some ⟨k,0,none⟩) 1 1) (hblk:W.heap[k]? = some (.cells #[.string F.key,.string F.value,.bool F.gone] 145 (0,0)))
  (hlen:l.length≤1048576) (hbase:B≤W.heap.size)
  (h:∀ g cap w',w'.ownsRow B 145 3 (.slice (some ⟨g,0,none⟩) (l.length+1) cap) (l ++ [F]).length (cellsChange (l ++ [F]))→Below B W w'→B≤g→g < w'.heap.size→wpList Tryz.prog ops Q rest (a.put o.dst (.slice (some ⟨g,0,none⟩) (l.length+1) cap)) w') :
  wpList Tryz.prog ops Q (o :: rest) a W:=by
 obtain ⟨i0,hi,hz0,hz1,hz2⟩:=info_parts Tryz.infoChange
 refine wpList_append_lies W hgd s y 85 ho B 145 i0 (.agg #[.string ⟨#[]⟩,.string ⟨#[]⟩,.bool false]) 3 40 Tryz.underlying85 hi hz0 hz1 hz2 rfl (by decide) v l.length (cellsChange l) hs hown ⟨k,0,none⟩ 1 1 (cellsChange [F]) hx (by rw [cellsChange_length];rfl)
  (fun j u hj => World.news_of_block hblk j u hj) (cellsChange_one [F]) (by omega) (by unfold maxLen;omega) (by omega) hbase W.heap.size rfl ?_
 intro g cap w' hown' hgrow hg hgl
 have hlt:=hown.lt
 refine h g cap w' ?_ ((Below.refl B W).grown hgrow hbase (fun k hk => (hlt k hk).1)) ?_ hgl
 ·
  rw [cellsChange_append,List.length_append]
  exact hown'
 ·
  rcases hg with hg | rfl
  · exact (hlt g hg).1
  · exact hbase
def changeOkD (A:ChangeD):Bool:=(decide (1≤A.key.size) && decide (A.key.size≤20)) && (decide (A.value.size≤2000) && !(A.gone && !decide (A.value.size=0)))
def okChg:Option ByteArray→List ChangeD→Bool
 | _,[] => true
 | none,A :: r => changeOkD A && okChg (some A.key) r
 | some p,A :: r => changeOkD A && (Op.bytesLess p.toList A.key.toList && okChg (some A.key) r)
def batchOkD (q:Int) (fs:List ChangeD):Bool:=(decide (0≤q) && decide (q≤1000000000)) && ((decide (1≤fs.length) && decide (fs.length≤40)) && okChg none fs)
def prevChg (fs:List ChangeD):Nat→Option ByteArray
 | 0 => none
 | k+1 => fs[k]?.map ChangeD.key
theorem okChg_bad {fs:List ChangeD} {k:Nat} (h:k < fs.length) (hF:changeOkD fs[k]=false):okChg (prevChg fs k) (fs.drop k)=false:=by
 rw [List.drop_eq_getElem_cons h]
 cases prevChg fs k <;> simp [okChg,hF]
theorem okChg_first {fs:List ChangeD} (h:0 < fs.length) (hF:changeOkD fs[0]=true):okChg (prevChg fs 0) (fs.drop 0)=okChg (prevChg fs 1) (fs.drop 1):=by
 rw [List.drop_eq_getElem_cons h]
 simp [okChg,prevChg,hF,h]
theorem okChg_less {fs:List ChangeD} {k:Nat} (h:k < fs.length) (hk:0 < k) (hF:Op.bytesLess fs[k - 1].key.toList fs[k].key.toList=false):okChg (prevChg fs k) (fs.drop k)=false:=by
 obtain ⟨j,rfl⟩:∃ j,k=j+1:=⟨k - 1,by omega⟩
 rw [List.drop_eq_getElem_cons h]
 have e1:prevChg fs (j+1)=some fs[j].key:=by simp [prevChg,show j < fs.length from by omega]
 simp at hF
 rw [e1]
 simp [okChg,hF]
theorem okChg_more {fs:List ChangeD} {k:Nat} (h:k < fs.length) (hk:0 < k) (hF:changeOkD fs[k]=true) (hL:Op.bytesLess fs[k - 1].key.toList fs[k].key.toList=true):okChg (prevChg fs k) (fs.drop k)=okChg (prevChg fs (k+1)) (fs.drop (k+1)):=by
 obtain ⟨j,rfl⟩:∃ j,k=j+1:=⟨k - 1,by omega⟩
 rw [List.drop_eq_getElem_cons h]
 have e1:prevChg fs (j+1)=some fs[j].key:=by simp [prevChg,show j < fs.length from by omega]
 have e2:prevChg fs (j+1+1)=some fs[j+1].key:=by simp [prevChg,h]
 simp at hL
 rw [e1,e2]
 simp [okChg,hF,hL]
theorem okChg_end {fs:List ChangeD} {k:Nat} (h:fs.length≤k):okChg (prevChg fs k) (fs.drop k)=true:=by
 rw [List.drop_eq_nil_of_le h]
 cases prevChg fs k <;> simp [okChg]
theorem list_nil_of_size {s:ByteArray} (h:s.size=0):s.toList=[]:=List.eq_nil_of_length_eq_zero (by rw [ByteArray.toList_eq,Array.length_toList];exact h)
theorem list_ne_of_size {s:ByteArray} (h:¬ s.size=0):¬ s.toList=[]:=fun e => h (by have h0:=congrArg List.length e;rw [ByteArray.toList_eq,Array.length_toList] at h0;exact h0)
theorem specBatchOk_any (q:Int) (fs:List ChangeD) (ao:Option Addr) (cap:Nat) (w:World) (hl:fs.length≤1048576) (hfs:ChangesAt w ao fs) (hsz:∀ A ∈ fs,A.key.size≤maxLen∧A.value.size≤maxLen) :
  Calls Tryz.prog 78 #[.agg #[.int .i64 q,.slice ao fs.length cap]] w fun e w' => e=.returned (.bool (batchOkD q fs))∧Below w.heap.size w w':=by
 have HF:=hide hfs
 have HS:=hide hsz
 clear hfs hsz
 obtain ⟨R,HR⟩:∃ R,Hid (batchOkD q fs=R):=⟨_,hide rfl⟩
 rw [HR.out]
 have eN:(decide ((1:Int)≤(fs.length:Int)) && decide ((fs.length:Int)≤40))=(decide (1≤fs.length) && decide (fs.length≤40)):=by
  congr 1
  · rw [decide_eq_decide];omega
  · rw [decide_eq_decide];omega
 cases hq:(decide ((0:Int)≤q) && decide (q≤1000000000))
 ·
  have hR:R=false:=by rw [← HR.out,batchOkD,hq];rfl
  subst hR
  go_enter Tryz.func78,Tryz.ntmps78
  go_wp2_with fail
  refine (l01In_val _ _ _ _ _ hq).mono ?_
  rintro e w1 ⟨rfl,rfl⟩
  go_wp2
  go_ret
  exact ⟨rfl,(Below.refl _ w).alloc (Nat.le_refl _) _⟩
 cases hn:(decide (1≤fs.length) && decide (fs.length≤40))
 ·
  have hR:R=false:=by rw [← HR.out,batchOkD,hq,hn];rfl
  subst hR
  go_enter Tryz.func78,Tryz.ntmps78
  go_wp2_with fail
  refine (l01In_val _ _ _ _ _ hq).mono ?_
  rintro e w1 ⟨rfl,rfl⟩
  go_wp2_with fail
  refine (l01In_val _ _ _ _ _ (eN.trans hn)).mono ?_
  rintro e w1 ⟨rfl,rfl⟩
  go_wp2
  go_ret
  exact ⟨rfl,(Below.refl _ w).alloc (Nat.le_refl _) _⟩
 have HR0:Hid (okChg (prevChg fs 0) (fs.drop 0)=R):=by show _=_;rw [← HR.out,batchOkD,hq,hn];rfl
 go_enter Tryz.func78,Tryz.ntmps78
 go_wp2_with fail
 refine (l01In_val _ _ _ _ _ hq).mono ?_
 rintro e w1 ⟨rfl,rfl⟩
 go_wp2_with fail
 refine (l01In_val _ _ _ _ _ (eN.trans hn)).mono ?_
 rintro e w1 ⟨rfl,rfl⟩
 go_wp2
 go_loopw [3] (fun ii wr => ∃ (k:Nat),ii=.int .i64 k∧k≤fs.length∧Hid (okChg (prevChg fs k) (fs.drop k)=R)∧Hid (Below (w.heap.size+1) (w.alloc (.cells #[.int .i64 q,.slice ao fs.length cap] 87)) wr)) (fun ii _ => fs.length - (intOf ii).toNat)
 case atStart => exact ⟨0,rfl,Nat.zero_le _,HR0,Below.refl _ _⟩
 case round =>
  obtain ⟨k,rfl,hk,HK,HB⟩:=hrel
  have HB0:Hid (Below w.heap.size w wr):=((Below.refl _ w).alloc (Nat.le_refl _) _).trans (HB.out.mono (by omega))
  have hbox:wr.cell? ⟨w.heap.size,1,none⟩=some (.slice ao fs.length cap):=(HB.out.cell (p:=⟨w.heap.size,1,none⟩) (by simp)).trans (by rw [cell_of_row _ _ _ _ _ (0,0) (heap_alloc_new w _)];rfl)
  by_cases hlt:k < fs.length
  ·
   have hlt':decide ((k:Int) < (fs.length:Int))=true:=by simp;omega
   have hsw:w.heap.size+1≤wr.heap.size:=by have:=HB.out.size;simpa using this
   obtain ⟨b,off,rfl,hbw,hc0,hc1,hc2⟩:=changesAt_keep HF.out HB0.out k hlt
   obtain ⟨hs1,hs2⟩:=HS.out fs[k] (List.getElem_mem hlt)
   obtain ⟨F,HFk⟩:∃ F,Hid (fs[k]=F):=⟨fs[k],hide rfl⟩
   rw [HFk.out] at hc0 hc1 hc2 hs1 hs2
   have hi0:(0:Int)≤(k:Int):=by omega
   have hi1:(k:Int) < (fs.length:Int):=by omega
   have b2:Below wr.heap.size wr (wr.alloc (.cells #[.string F.key,.string F.value,.bool F.gone] 145)):=(Below.refl _ wr).alloc (Nat.le_refl _) _
   have HB1:Hid (Below (w.heap.size+1) (w.alloc (.cells #[.int .i64 q,.slice (some ⟨b,off,none⟩) fs.length cap] 87)) (wr.alloc (.cells #[.string F.key,.string F.value,.bool F.gone] 145))):=HB.out.trans (b2.mono hsw)
   have HB2:Hid (Below w.heap.size w (wr.alloc (.cells #[.string F.key,.string F.value,.bool F.gone] 145))):=HB0.out.trans (b2.mono (by omega))
   unfold maxLen at hs1 hs2
   go_wp2_with fail
   have hbox1:(wr.alloc (.cells #[.string F.key,.string F.value,.bool F.gone] 145)).cell? ⟨w.heap.size,1,none⟩=some (.slice (some ⟨b,off,none⟩) fs.length cap):=(b2.cell (p:=⟨w.heap.size,1,none⟩) (by show w.heap.size < _;omega)).trans hbox
   have hfile:=heap_alloc_new wr (.cells #[.string F.key,.string F.value,.bool F.gone] 145)
   obtain ⟨W,hW⟩:∃ W,W=wr.alloc (.cells #[.string F.key,.string F.value,.bool F.gone] 145):=⟨_,rfl⟩
   rw [← hW] at HB1 HB2 hbox1 hfile ⊢
   have hg0:W.cell? ⟨wr.heap.size,0,none⟩=some (.string F.key):=(cell_of_row W wr.heap.size 0 _ _ (0,0) hfile).trans rfl
   have hg1:W.cell? ⟨wr.heap.size,1,none⟩=some (.string F.value):=(cell_of_row W wr.heap.size 1 _ _ (0,0) hfile).trans rfl
   have hg2:W.cell? ⟨wr.heap.size,2,none⟩=some (.bool F.gone):=(cell_of_row W wr.heap.size 2 _ _ (0,0) hfile).trans rfl
   clear hW hfile b2 hbox hc0 hc1 hc2
   have e1:(decide ((1:Int)≤(F.key.size:Int)) && decide ((F.key.size:Int)≤20))=(decide (1≤F.key.size) && decide (F.key.size≤20)):=by congr 1 <;> rw [decide_eq_decide] <;> omega
   cases h1k:(decide (1≤F.key.size) && decide (F.key.size≤20))
   ·
    have h1:=e1.trans h1k
    have hR:Hid (R=false):=by show _=_;rw [← HK.out];exact okChg_bad hlt (by rw [HFk.out,changeOkD];rw [h1k];rfl)
    go_quiet ((go_at_call 50;exact Calls.quiet_of_same (l01In_val _ _ _ _ _ h1)))
    go_wp2
    go_ret
    rw [hR.out]
    exact ⟨rfl,below_drewN HB2.out _⟩
   ·
    have h1:=e1.trans h1k
    cases hk0:decide (0 < k)
    ·
     have hkz:k=0:=by simpa using hk0
     by_cases h2:2000 < F.value.size
     ·
      have h2a:decide (2000 < F.value.size)=true:=by simp;omega
      have h2b:decide ((2000:Int) < (F.value.size:Int))=true:=by simp;omega
      have hR:Hid (R=false):=by show _=_;rw [← HK.out];exact okChg_bad hlt (by rw [HFk.out,changeOkD];rw [show decide (F.value.size≤2000)=false from by simp;omega];simp)
      go_quiet ((go_at_call 50;exact Calls.quiet_of_same (l01In_val _ _ _ _ _ h1)))
      go_wp2
      go_ret
      rw [hR.out]
      exact ⟨rfl,below_drewN HB2.out _⟩
     ·
      have h2a:decide (2000 < F.value.size)=false:=by simp;omega
      have h2b:decide ((2000:Int) < (F.value.size:Int))=false:=by simp;omega
      have h2c:decide (F.value.size≤2000)=true:=by simp;omega
      cases h3:F.gone
      ·
       have hok:changeOkD F=true:=by rw [changeOkD,h1k,h2c,h3];rfl
       have h3':=h3
       have HK1:Hid (okChg (prevChg fs (k+1)) (fs.drop (k+1))=R):=by show _=_;rw [← HK.out];subst hkz;exact (okChg_first hlt (by rw [HFk.out];exact hok)).symm
       go_quiet ((go_at_call 50;exact Calls.quiet_of_same (l01In_val _ _ _ _ _ h1)))
       go_wp2
       go_roundw
       case rel => exact ⟨k+1,by go_num,by omega,HK1,below_drewN HB1.out _⟩
       case measure => simp [intOf];omega
      ·
       by_cases h4:F.value.size=0
       ·
        have h4a:(F.value.toList == [])=true:=by simpa using list_nil_of_size h4
        have hok:changeOkD F=true:=by rw [changeOkD,h1k,h2c,h3,show decide (F.value.size=0)=true from by simp [h4]];rfl
        have HK1:Hid (okChg (prevChg fs (k+1)) (fs.drop (k+1))=R):=by show _=_;rw [← HK.out];subst hkz;exact (okChg_first hlt (by rw [HFk.out];exact hok)).symm
        go_quiet ((go_at_call 50;exact Calls.quiet_of_same (l01In_val _ _ _ _ _ h1)))
        go_wp2
        go_roundw
        case rel => exact ⟨k+1,by go_num,by omega,HK1,below_drewN HB1.out _⟩
        case measure => simp [intOf];omega
       ·
        have h4a:(F.value.toList == [])=false:=by simpa using list_ne_of_size h4
        have hR:Hid (R=false):=by show _=_;rw [← HK.out];exact okChg_bad hlt (by rw [HFk.out,changeOkD];rw [h3,show decide (F.value.size=0)=false from by simp [h4]];simp)
        go_quiet ((go_at_call 50;exact Calls.quiet_of_same (l01In_val _ _ _ _ _ h1)))
        go_wp2
        go_ret
        rw [hR.out]
        exact ⟨rfl,below_drewN HB2.out _⟩
    ·
     have hkp:0 < k:=by simpa using hk0
     obtain ⟨b',off',hbe,hbw',hd0,hd1,hd2⟩:=changesAt_keep HF.out HB2.out (k - 1) (by omega)
     obtain ⟨rfl,rfl⟩:b=b'∧off=off':=by simpa using hbe
     obtain ⟨F',HFk'⟩:∃ F',Hid (fs[k - 1]=F'):=⟨fs[k - 1],hide rfl⟩
     rw [HFk'.out] at hd0
     clear hd1 hd2 hbe
     have hw:IntKind.i64.wrap ((k:Int) - 1)=((k - 1:Nat):Int):=by rw [IntKind.wrap_i64];omega
     have hj0:(0:Int)≤((k - 1:Nat):Int):=by omega
     have hj1:((k - 1:Nat):Int) < (fs.length:Int):=by omega
     cases hless:Op.bytesLess F'.key.toList F.key.toList
     ·
      have hno:=hless
      have hR:Hid (R=false):=by show _=_;rw [← HK.out];exact okChg_less hlt hkp (by rw [HFk.out,HFk'.out];exact hless)
      go_quiet ((go_at_call 50;exact Calls.quiet_of_same (l01In_val _ _ _ _ _ h1)))
      go_wp2
      go_ret
      rw [hR.out]
      exact ⟨rfl,below_drewN HB2.out _⟩
     ·
      have hyes:=hless
      by_cases h2:2000 < F.value.size
      ·
       have h2a:decide (2000 < F.value.size)=true:=by simp;omega
       have h2b:decide ((2000:Int) < (F.value.size:Int))=true:=by simp;omega
       have hR:Hid (R=false):=by show _=_;rw [← HK.out];exact okChg_bad hlt (by rw [HFk.out,changeOkD];rw [show decide (F.value.size≤2000)=false from by simp;omega];simp)
       go_quiet ((go_at_call 50;exact Calls.quiet_of_same (l01In_val _ _ _ _ _ h1)))
       go_wp2
       go_ret
       rw [hR.out]
       exact ⟨rfl,below_drewN HB2.out _⟩
      ·
       have h2a:decide (2000 < F.value.size)=false:=by simp;omega
       have h2b:decide ((2000:Int) < (F.value.size:Int))=false:=by simp;omega
       have h2c:decide (F.value.size≤2000)=true:=by simp;omega
       cases h3:F.gone
       ·
        have hok:changeOkD F=true:=by rw [changeOkD,h1k,h2c,h3];rfl
        have h3':=h3
        have HK1:Hid (okChg (prevChg fs (k+1)) (fs.drop (k+1))=R):=by show _=_;rw [← HK.out];exact (okChg_more hlt hkp (by rw [HFk.out];exact hok) (by rw [HFk.out,HFk'.out];exact hless)).symm
        go_quiet ((go_at_call 50;exact Calls.quiet_of_same (l01In_val _ _ _ _ _ h1)))
        go_wp2
        go_roundw
        case rel => exact ⟨k+1,by go_num,by omega,HK1,below_drewN HB1.out _⟩
        case measure => simp [intOf];omega
       ·
        by_cases h4:F.value.size=0
        ·
         have h4a:(F.value.toList == [])=true:=by simpa using list_nil_of_size h4
         have hok:changeOkD F=true:=by rw [changeOkD,h1k,h2c,h3,show decide (F.value.size=0)=true from by simp [h4]];rfl
         have HK1:Hid (okChg (prevChg fs (k+1)) (fs.drop (k+1))=R):=by show _=_;rw [← HK.out];exact (okChg_more hlt hkp (by rw [HFk.out];exact hok) (by rw [HFk.out,HFk'.out];exact hless)).symm
         go_quiet ((go_at_call 50;exact Calls.quiet_of_same (l01In_val _ _ _ _ _ h1)))
         go_wp2
         go_roundw
         case rel => exact ⟨k+1,by go_num,by omega,HK1,below_drewN HB1.out _⟩
         case measure => simp [intOf];omega
        ·
         have h4a:(F.value.toList == [])=false:=by simpa using list_ne_of_size h4
         have hR:Hid (R=false):=by show _=_;rw [← HK.out];exact okChg_bad hlt (by rw [HFk.out,changeOkD];rw [h3,show decide (F.value.size=0)=false from by simp [h4]];simp)
         go_quiet ((go_at_call 50;exact Calls.quiet_of_same (l01In_val _ _ _ _ _ h1)))
         go_wp2
         go_ret
         rw [hR.out]
         exact ⟨rfl,below_drewN HB2.out _⟩
  ·
   have hlt':decide ((k:Int) < (fs.length:Int))=false:=by simp;omega
   have hR:Hid (R=true):=by show _=_;rw [← HK.out,okChg_end (by omega)]
   go_wp2
   go_ret
   rw [hR.out]
   exact ⟨rfl,HB0.out⟩
theorem Wd.varF_length:∀ f n,(Wd.varF f n).length≤f
 | 0,_ => by simp [Wd.varF]
 | f+1,n => by
  have:=Wd.varF_length f (n / 128)
  by_cases h:n < 128
  · rw [Wd.varF_low f n h];simp
  · rw [Wd.varF_high f n h];simp;omega
def shortB (s:ByteArray):ByteArray:=⟨(Wd.varF 5 s.size).toArray⟩ ++ s
theorem size_of_list (l:List UInt8):(⟨l.toArray⟩:ByteArray).size=l.length:=rfl
theorem shortB_size (s:ByteArray):(shortB s).size≤s.size+5:=by
 have h:=Wd.varF_length 5 s.size
 rw [shortB,ByteArray.size_append,size_of_list]
 omega
theorem l05Short_any (s:ByteArray) (w:World) (hs:s.size≤1048576) :
  Calls Tryz.prog 79 #[.string s] w fun e w' => e=.returned (.string (shortB s))∧Below w.heap.size w w':=by
 have HE:Hid (shortB s=⟨(Wd.varF 5 s.size).toArray⟩ ++ s):=rfl
 have hv:=Wd.varF_length 5 s.size
 go_enter Tryz.func79,Tryz.ntmps79
 go_wp2_with (first | (go_at_call 73;refine (l01Var_any s.size _ (by omega)).mono ?_;rintro e w1 ⟨rfl,b1⟩))
 go_ret
 rw [HE.out]
 exact ⟨rfl,b1⟩
def OwnsB (w:World) (B:Nat) (te:TypeId) (v:Value) (l:List UInt8):Prop :=
 ∃ (g cap:Nat) (cur:Array Value) (fz:Nat × Nat),v=.slice (some ⟨g,0,none⟩) l.length cap∧B≤g∧w.heap[g]? = some (.cells cur te fz)∧(fz=(0,0) ∨ cur.size≤fz.1)∧l.length≤cap∧cap≤maxLen∧cur.size=cap∧cur.toList.take l.length=l.map bv
theorem ownsB_lt {w:World} {B:Nat} {te:TypeId} {v:Value} {l:List UInt8} (h:OwnsB w B te v l):∀ g,v.ownBlock=some g→B≤g∧g < w.heap.size:=by
 obtain ⟨g,cap,cur,fz,rfl,hB,hC,_⟩:=h
 intro g' h
 obtain rfl:g=g':=by simpa [Value.ownBlock] using h
 exact ⟨hB,(Array.getElem?_eq_some_iff.1 hC).1⟩
theorem ownsB_le {w:World} {B B':Nat} {te:TypeId} {v:Value} {l:List UInt8} (h:OwnsB w B te v l) (hb:B'≤B):OwnsB w B' te v l:=by
 obtain ⟨g,cap,cur,fz,h1,hB,h2⟩:=h
 exact ⟨g,cap,cur,fz,h1,Nat.le_trans hb hB,h2⟩
theorem ownsB_keep {w w':World} {B:Nat} {te:TypeId} {v:Value} {l:List UInt8} (h:OwnsB w B te v l) (hk:∀ g,v.ownBlock=some g→w'.heap[g]? = w.heap[g]?):OwnsB w' B te v l:=by
 obtain ⟨g,cap,cur,fz,rfl,hB,hC,h2⟩:=h
 exact ⟨g,cap,cur,fz,rfl,hB,(hk g rfl).trans hC,h2⟩
theorem ownsB_below {w w':World} {B:Nat} {te:TypeId} {v:Value} {l:List UInt8} (h:OwnsB w B te v l) (hb:Below w.heap.size w w'):OwnsB w' B te v l :=
 ownsB_keep h (fun g hg => hb.block g (ownsB_lt h g hg).2)
theorem ownsB_cells {w:World} {B:Nat} {te:TypeId} {g n cap:Nat} {l:List UInt8} (h:OwnsB w B te (.slice (some ⟨g,0,none⟩) n cap) l):∀ j u,(l.map bv)[j]? = some u→w.cell? ((⟨g,0,none⟩:Addr).add j)=some u:=by
 obtain ⟨g',cap',cur,fz,e,_,hC,_,_,_,_,ht⟩:=h
 obtain ⟨rfl,-,-⟩:g=g'∧n=l.length∧cap=cap':=by simpa using e
 intro j u hu
 have hadd:(⟨g,0,none⟩:Addr).add j=⟨g,j,none⟩:=by cases j <;> simp [Addr.add]
 rw [hadd,cell_of_row w g j cur te fz hC]
 rw [← ht,List.getElem?_take] at hu
 split at hu
 · simpa using hu
 · cases hu
section
variable {P:Program}
theorem conv_made (w:World) (src dst e:TypeId) (s:ByteArray) (hs:P.underlying src=some .string) (hd:P.underlying dst=some (.slice e)) (he:P.underlying e=some (.int .u8)) (hz:s.size≤maxLen) :
  ∃ (W:World) (C:Nat),(convert src dst (.string s)).run P w=.ok (.slice (some ⟨w.heap.size,0,none⟩) s.size C) W∧Below w.heap.size w W∧W.heap.size=w.heap.size+1∧OwnsB W w.heap.size e (.slice (some ⟨w.heap.size,0,none⟩) s.size C) s.data.toList:=by
 refine ⟨_,_,Lib.run_convert_string_bytes w src dst e s hs hd he,⟨rfl,rfl,rfl,by rw [Lib.bytesWorld_size];omega,fun k hk => Lib.bytesWorld_at_old w e _ k hk⟩,Lib.bytesWorld_size _ _ _,?_⟩
 have hl:s.data.toList.length=s.size:=Array.length_toList
 have hge:=grownCap_ge w s.size 0 e
 have hsz:(Lib.bytesCells w e s).size=grownCap w s.size 0 e:=by
  have h0:s.data.size=s.size:=rfl
  simp only [Lib.bytesCells,Array.size_append,Array.size_map,Array.size_replicate]
  omega
 refine ⟨w.heap.size,grownCap w s.size 0 e,Lib.bytesCells w e s,_,by rw [hl],Nat.le_refl _,Lib.bytesWorld_at_new w e s,.inr (Nat.le_refl _),by omega,grownCap_le_maxLen w _ _ e hz,hsz,?_⟩
 rw [hl]
 have h0:s.size=(s.data.map fun b => Value.int .u8 (b.toNat:Int)).toList.length:=by simp
 simp only [Lib.bytesCells,Array.toList_append]
 conv => lhs;rw [h0]
 rw [List.take_left]
 simp [bv]
theorem store_behind (g o:Nat) (t:TypeId) (fz:Nat × Nat):∀ (vs:List Value) (i:Nat) (cur:Array Value) (w:World),w.heap[g]? = some (.cells cur t fz)→(fz=(0,0) ∨ cur.size≤fz.1)→o+i+vs.length≤cur.size→(∀ v ∈ vs,v.oneCell' = true) →
  (storeCells ⟨g,o,none⟩ vs i).run P w=.ok () (w.setRow g (cur.toList.take (o+i) ++ vs ++ cur.toList.drop (o+i+vs.length)).toArray)
 | [],i,cur,w,hg,_,_,_ => by
  simp only [storeCells,List.append_nil,List.length_nil,Nat.add_zero,List.take_append_drop,Array.toArray_toList]
  rw [setRow_self w g cur t fz hg]
  rfl
 | v :: rest,i,cur,w,hg,hfz,hl,h1 => by
  have hlt:o+i < cur.size:=by simp at hl;omega
  have ha:(⟨g,o,none⟩:Addr).add i=⟨g,o+i,none⟩:=by cases i <;> simp [Addr.add]
  have hf:w.frozen? ⟨g,o+i,none⟩=false:=by
   simp only [World.frozen?,hg]
   rcases hfz with rfl | hfz
   · simp
   ·
    obtain ⟨lo,hi⟩:=fz
    have:¬ lo≤o+i:=by simp only at hfz;omega
    simp [this]
  have hc:w.cell? ⟨g,o+i,none⟩=some cur[o+i]:=by rw [cell_of_row w g _ cur t fz hg,Array.getElem?_eq_getElem hlt]
  have h2:(store ((⟨g,o,none⟩:Addr).add i) v).run P w=.ok () (w.setRow g (cur.setIfInBounds (o+i) v)):=by
   rw [ha,run_store P w _ v _ (h1 v (by simp)),hc]
   simp [hf,setCell_eq_setRow w g (o+i) cur t fz v hg]
  have h3:=store_behind g o t fz rest (i+1) (cur.setIfInBounds (o+i) v) _ (setRow_heap w g cur (cur.setIfInBounds (o+i) v) t fz hg) (by simpa using hfz) (by simp at hl ⊢;omega) (fun x hx => h1 x (by simp [hx]))
  simp only [storeCells,Sem.run_bind,h2,Result.andThen_ok,h3,setRow_setRow]
  congr 3
  simpa [Array.toList_setIfInBounds,Nat.add_assoc] using list_seg_step cur.toList (o+i) v rest (by simp at hl ⊢;omega)
theorem append_made (w:World) (B:Nat) (t ty e:TypeId) (ht:P.underlying t=some (.slice e)) (hinfo:(P.info? e).map (fun i => (i.zero,i.size,i.bytes))=some (some (.int .u8 0),1,1))
  (v:Value) (l news:List UInt8) (hown:OwnsB w B e v l) (a:Addr) (c:Nat) (hnews:∀ j u,(news.map bv)[j]? = some u→w.cell? (a.add j)=some u) (hlen:l.length+news.length≤70368744177664) (hbase:B≤w.heap.size) :
  ∃ v' w',(Builtin.append_ #[t,t] ty #[v,.slice (some a) news.length c]).run P w=.ok v' w'∧OwnsB w' B e v' (l ++ news)∧w.grownBy w' v.ownBlock:=by
 obtain ⟨i0,hi,hz0,hz1,hz2⟩:=info_parts hinfo
 obtain ⟨g,cap,cur,fz,rfl,hB,hC,hfz,hnc,hcm,hcs,htk⟩:=hown
 have hl1:(news.map bv).length=news.length * i0.size:=by rw [hz1];simp
 have hmx:l.length+news.length≤maxLen:=by unfold maxLen;omega
 by_cases hroom:l.length+news.length≤cap
 ·
  have hf:=run_firstCells_some (P:=P) w i0.size news.length a news.length c (news.map bv) hl1 hnews
  have hst:=store_behind (P:=P) g l.length e fz (news.map bv) 0 cur w hC hfz (by simp;omega) (bv_one news)
  simp only [Nat.add_zero] at hst
  obtain ⟨X,hX⟩:∃ X,X=(cur.toList.take l.length ++ news.map bv ++ cur.toList.drop (l.length+(news.map bv).length)).toArray:=⟨_,rfl⟩
  rw [← hX] at hst
  have hXs:X.size=cur.size:=by rw [hX];simp;omega
  refine ⟨.slice (some ⟨g,0,none⟩) (l.length+news.length) cap,w.setRow g X,?_,⟨g,cap,X,fz,by rw [List.length_append],hB,setRow_heap w g cur X e fz hC,?_,by rw [List.length_append];exact hroom,hcm,?_,?_⟩,⟨rfl,rfl,rfl,by simp,fun k _ hk => setRow_other w g k _ (fun e => hk (by simp [Value.ownBlock,e]))⟩⟩
  · simp [Builtin.append_,run_underlying ht,sizeOf,typeInfo,hi,hz1,Builtin.lenOf,hroom,hz1 ▸ hf,Addr.add_lit,hst]
  ·
   rcases hfz with h | h
   · exact .inl h
   · exact .inr (by omega)
  · omega
  ·
   rw [hX,htk,List.map_append,show (l ++ news).length=(l.map bv ++ news.map bv).length from by simp]
   exact List.take_left
 ·
  have hr:=run_append_grow (P:=P) w t ty e i0 (.int .u8 0) ht hi hz0 ⟨g,0,none⟩ l.length cap (l.map bv) (by rw [hz1];simp) (ownsB_cells ⟨g,cap,cur,fz,rfl,hB,hC,hfz,hnc,hcm,hcs,htk⟩) a news.length c (news.map bv) hl1 hnews (by omega) (by unfold maxLen at hmx;omega) (by rw [hz2];exact growslice_fits (by omega) (by omega))
  have hge:=grownCap_ge w (l.length+news.length) cap e
  refine ⟨_,_,hr,⟨w.heap.size,_,_,(0,0),by rw [List.length_append],hbase,heap_alloc_new w.drew _,.inl rfl,by rw [List.length_append];exact hge,grownCap_le_maxLen w _ _ e hmx,?_,?_⟩,⟨rfl,rfl,rfl,by simp,fun k hk _ => Go.heap_alloc_old w.drew _ hk⟩⟩
  ·
   have hz:(Value.int IntKind.u8 0).cells.size=1:=rfl
   simp only [Array.size_append,List.size_toArray,size_zeroCells,hz,List.length_map]
   omega
  ·
   simp only [Array.toList_append]
   rw [List.map_append,show (l ++ news).length=(l.map bv ++ news.map bv).length from by simp]
   exact List.take_left
theorem conv_backB (w:World) (ts tx te:TypeId) (B:Nat) (v:Value) (l:List UInt8) (hts:P.underlying ts=some (.slice te)) (hte:P.underlying te=some (.int .u8)) (htx:P.underlying tx=some .string) (hown:OwnsB w B te v l) :
  (convert ts tx v).run P w=.ok (.string ⟨l.toArray⟩) w:=by
 obtain ⟨g,cap,cur,fz,rfl,hB,hC,hfz,hnc,hcm,hcs,htk⟩:=hown
 refine run_convert_bytes_back w ts tx te ⟨g,0,none⟩ cap l hts hte htx ?_
 intro j hj
 refine ownsB_cells ⟨g,cap,cur,fz,rfl,hB,hC,hfz,hnc,hcm,hcs,htk⟩ j _ ?_
 simp [bv,hj]
theorem step_append_made {ops:Array Oper} {o:Oper} {a:Act} {K:Act→World→Prop} {Q:Exit→Act→World→Prop} {E:Prop} (W:World) (t e:TypeId) (ht:P.underlying t=some (.slice e)) (hinfo:(P.info? e).map (fun i => (i.zero,i.size,i.bytes))=some (some (.int .u8 0),1,1))
  (B:Nat) (hgd:o.guard=none) (s x:Operand) (ho:o.op=.call { callee:=.builtin .append,args:=#[s,x],argTypes:=#[t,t] }) (v:Value) (l news:List UInt8) (hs:a.eval s=v) (hown:OwnsB W B e v l)
  (ad:Addr) (c:Nat) (hx:a.eval x=.slice (some ad) news.length c) (hnews:∀ j u,(news.map bv)[j]? = some u→W.cell? (ad.add j)=some u) (hlen:l.length+news.length≤70368744177664) (hbase:B≤W.heap.size)
  (h:∀ v' w',OwnsB w' B e v' (l ++ news)→W.grownBy w' v.ownBlock→K (a.put o.dst v') w') :
  if Region.wanted o (yielded ops a.tmps)=true then Oper.wp P o a W K Q else E:=by
 have hw:Region.wanted o (yielded ops a.tmps)=true:=by simp [Region.wanted,hgd]
 rw [if_pos hw]
 obtain ⟨v',w',hr,h1,h2⟩:=append_made (P:=P) W B t o.type e ht hinfo v l news hown ad c hnews hlen hbase
 unfold Oper.wp execOp
 simp only [ho,resolve,invoke,builtin,Sem.run_bind,Sem.run_pure,Result.andThen_ok,List.map_toArray,List.map_cons,List.map_nil,hs,hx,hr]
 exact h v' w' h1 h2
end
def flagB (g:Bool):ByteArray:=if g then ⟨#[1]⟩ else ⟨#[0]⟩
def changeB (A:ChangeD):ByteArray:=shortB A.key ++ flagB A.gone ++ shortB A.value
def headB (q n:Nat):ByteArray:=⟨#[66]⟩ ++ ⟨(Wd.varF 5 q).toArray⟩ ++ ⟨(Wd.varF 5 n).toArray⟩
def changesL:List ChangeD→List UInt8
 | [] => []
 | A :: r => (changeB A).data.toList ++ changesL r
def batchL (q:Nat) (fs:List ChangeD):List UInt8:=(headB q fs.length).data.toList ++ changesL fs
theorem changesL_snoc:∀ (a:List ChangeD) (A:ChangeD),changesL (a ++ [A])=changesL a ++ (changeB A).data.toList
 | [],A => by simp [changesL]
 | B :: r,A => by simp [changesL,changesL_snoc r A,List.append_assoc]
theorem flagB_size (g:Bool):(flagB g).size=1:=by cases g <;> rfl
theorem changeB_size (A:ChangeD):(changeB A).size≤A.key.size+A.value.size+11:=by
 have h1:=shortB_size A.key
 have h2:=shortB_size A.value
 rw [changeB,ByteArray.size_append,ByteArray.size_append,flagB_size]
 omega
theorem headB_size (q n:Nat):(headB q n).size≤11:=by
 have h1:=Wd.varF_length 5 q
 have h2:=Wd.varF_length 5 n
 have e1:(⟨#[66]⟩:ByteArray).size=1:=rfl
 rw [headB,ByteArray.size_append,ByteArray.size_append,e1,size_of_list,size_of_list]
 omega
theorem l05Flag_any (g:Bool) (w:World):Calls Tryz.prog 80 #[.bool g] w fun e w' => e=.returned (.string (flagB g))∧w' = w:=by
 cases g <;>
 ·
  go_enter Tryz.func80,Tryz.ntmps80
  go_wp2
  go_ret
  exact ⟨rfl,rfl⟩
end Go.Proofs.YtepdckehokdjlaaGreatDoor
