import Derived.Deep.RegionLaw
import Derived.Deep.LoopGhost
import Derived.Deep.Cut
import Derived.Deep.CutRange
import Derived.Test.YtepdckehokdjlaaGreatDoorMg5
import Derived.Test.YtepdckehokdjlaaGreatDoorMg10
import Derived.Test.YtepdckehokdjlaaGreatDoorMg6
import Derived.Test.YtepdckehokdjlaaGreatDoorMg13
import Derived.Test.YtepdckehokdjlaaGreatDoorMg18
import Derived.Test.YtepdckehokdjlaaGreatDoorMg11
import Derived.Test.YtepdckehokdjlaaGreatDoorMg19
set_option maxRecDepth 100000
set_option maxHeartbeats 3200000
namespace Go.Proofs.YtepdckehokdjlaaGreatDoor
open Go.RowKit
def cellsF:List FileD→List Value
 | [] => []
 | F :: r => .string F.name :: .string F.text :: .int .i64 F.kept :: cellsF r
theorem cellsF_append:∀ (a b:List FileD),cellsF (a ++ b)=cellsF a ++ cellsF b
 | [],_ => rfl
 | F :: r,b => by simp [cellsF,cellsF_append r b]
theorem cellsF_length:∀ a:List FileD,(cellsF a).length=a.length * 3
 | [] => rfl
 | F :: r => by simp [cellsF,cellsF_length r];omega
theorem cellsF_one:∀ (a:List FileD),∀ u ∈ cellsF a,u.oneCell' = true
 | [],u,h => absurd h List.not_mem_nil
 | F :: r,u,h => by
  simp only [cellsF,List.mem_cons] at h
  rcases h with rfl | rfl | rfl | h
  · rfl
  · rfl
  · rfl
  · exact cellsF_one r u h
theorem cellsF_get:∀ (a:List FileD) (j:Nat) (h:j < a.length),(cellsF a)[j * 3]? = some (.string a[j].name)∧(cellsF a)[j * 3+1]? = some (.string a[j].text)∧(cellsF a)[j * 3+2]? = some (.int .i64 a[j].kept)
 | [],_,h => absurd h (by simp)
 | F :: r,0,_ => by simp [cellsF]
 | F :: r,j+1,h => by
  have:=cellsF_get r j (by simpa using h)
  have e:(j+1) * 3=j * 3+3:=by omega
  simp only [cellsF,e]
  simpa using this
def RowF (w:World) (B:Nat) (v:Value) (fs:List FileD):Prop:=(v=.slice none 0 0∧fs=[]) ∨
 ∃ (g cap:Nat) (C:Array Value),v=.slice (some ⟨g,0,none⟩) fs.length cap∧B≤g∧w.heap[g]? = some (.cells C 95 (0,0))∧fs.length * 3≤C.size∧FilesIn C fs fs.length
theorem rowF_at {w:World} {B:Nat} {v:Value} {fs:List FileD} (h:RowF w B v fs):∃ ao cap,v=.slice ao fs.length cap∧FilesAt w ao fs:=by
 rcases h with ⟨rfl,rfl⟩ | ⟨g,cap,C,rfl,_,hC,_,hI⟩
 · exact ⟨none,0,rfl,fun j hj => absurd hj (by simp)⟩
 · exact ⟨_,cap,rfl,filesAt_own hC hI⟩
theorem rowF_lt {w:World} {B:Nat} {v:Value} {fs:List FileD} (h:RowF w B v fs):∀ g,v.ownBlock=some g→B≤g∧g < w.heap.size:=by
 rcases h with ⟨rfl,rfl⟩ | ⟨g,cap,C,rfl,hB,hC,_,hI⟩
 · intro g h;cases h
 ·
  intro g' h
  obtain rfl:g=g':=by simpa [Value.ownBlock] using h
  exact ⟨hB,(Array.getElem?_eq_some_iff.1 hC).1⟩
theorem rowF_keep {w w':World} {B:Nat} {v:Value} {fs:List FileD} (h:RowF w B v fs) (hk:∀ g,v.ownBlock=some g→w'.heap[g]? = w.heap[g]?):RowF w' B v fs:=by
 rcases h with ⟨rfl,rfl⟩ | ⟨g,cap,C,rfl,hB,hC,hs,hI⟩
 · exact .inl ⟨rfl,rfl⟩
 · exact .inr ⟨g,cap,C,rfl,hB,(hk g rfl).trans hC,hs,hI⟩
theorem rowF_below {w w':World} {B:Nat} {v:Value} {fs:List FileD} (h:RowF w B v fs) (hb:Below w.heap.size w w'):RowF w' B v fs :=
 rowF_keep h (fun g hg => hb.block g (rowF_lt h g hg).2)
theorem rowF_grown {w w':World} {B:Nat} {v:Value} {fs:List FileD} {r:Option Nat} (h:RowF w B v fs) (hb:w.grownBy w' r) (hr:∀ g,v.ownBlock=some g→some g ≠ r):RowF w' B v fs :=
 rowF_keep h (fun g hg => hb.block g (rowF_lt h g hg).2 (hr g hg))
theorem rowF_le {w:World} {B B':Nat} {v:Value} {fs:List FileD} (h:RowF w B v fs) (hB:B'≤B):RowF w B' v fs:=by
 rcases h with h | ⟨g,cap,C,h1,h2,h3⟩
 · exact .inl h
 · exact .inr ⟨g,cap,C,h1,by omega,h3⟩
theorem take_get {C:Array Value} {xs:List Value} {n:Nat} (h:C.toList.take n=xs) {j:Nat} {u:Value} (hj:j < n) (hu:xs[j]? = some u):C[j]? = some u:=by
 rw [← h,List.getElem?_take_of_lt hj] at hu
 simpa using hu
theorem rowF_own {w:World} {B:Nat} {v:Value} {fs:List FileD} (h:w.ownsRow B 95 3 v fs.length (cellsF fs)):RowF w B v fs:=by
 rcases h.2 with ⟨rfl,hn⟩ | ⟨g,cap,cur,rfl,hB,hC,hle,_,hs,ht⟩
 · exact .inl ⟨rfl,List.eq_nil_of_length_eq_zero hn⟩
 ·
  refine .inr ⟨g,cap,cur,rfl,hB,hC,by omega,?_⟩
  intro j hj _
  obtain ⟨h1,h2,h3⟩:=cellsF_get fs j hj
  exact ⟨take_get ht (by omega) h1,take_get ht (by omega) h2,take_get ht (by omega) h3⟩
theorem step_app_file {ops:Array Oper} {o:Oper} {a:Act} {K:Act→World→Prop} {Q:Exit→Act→World→Prop} {E:Prop} (W:World) (B:Nat) (hgd:o.guard=none) (s x:Operand)
  (ho:o.op=.call { callee:=.builtin .append,args:=#[s,x],argTypes:=#[29,29] }) (v:Value) (l:List FileD) (F:FileD) (hs:a.eval s=v)
  (hown:W.ownsRow B 95 3 v l.length (cellsF l)) (k:Nat) (hx:a.eval x=.slice (some ⟨k,0,none⟩) 1 1) (hblk:W.heap[k]? = some (.cells #[.string F.name,.string F.text,.int .i64 F.kept] 95 (0,0)))
  (hlen:l.length≤1048576) (hbase:B≤W.heap.size)
  (h:∀ g cap w',w'.ownsRow B 95 3 (.slice (some ⟨g,0,none⟩) (l.length+1) cap) (l ++ [F]).length (cellsF (l ++ [F]))→Below B W w'→B≤g→g < w'.heap.size→K (a.put o.dst (.slice (some ⟨g,0,none⟩) (l.length+1) cap)) w') :
  if Region.wanted o (yielded ops a.tmps)=true then Oper.wp Tryz.prog o a W K Q else E:=by
 obtain ⟨i0,hi,hz0,hz1,hz2⟩:=info_parts Tryz.infoFile
 refine step_append_lies W hgd s x 29 ho B 95 i0 (.agg #[.string ⟨#[]⟩,.string ⟨#[]⟩,.int .i64 0]) 3 40 Tryz.underlying29 hi hz0 hz1 hz2 rfl (by decide) v l.length (cellsF l) hs hown ⟨k,0,none⟩ 1 1 (cellsF [F]) hx (by rw [cellsF_length];rfl)
  (fun j u hj => World.news_of_block hblk j u hj) (cellsF_one [F]) (by omega) (by unfold maxLen;omega) (by omega) hbase W.heap.size rfl ?_
 intro g cap w' hown' hgrow hg hgl
 have hlt:=hown.lt
 refine h g cap w' ?_ ((Below.refl B W).grown hgrow hbase (fun k hk => (hlt k hk).1)) ?_ hgl
 ·
  rw [cellsF_append,List.length_append]
  exact hown'
 ·
  rcases hg with hg | rfl
  · exact (hlt g hg).1
  · exact hbase
theorem app_file {ops:Array Oper} {rest:List Oper} {o:Oper} {a:Act} {Q:Exit→Act→World→Prop} (W:World) (B:Nat) (hgd:o.guard=none) (s x:Operand)
  (ho:o.op=.call { callee:=.builtin .append,args:=#[s,x],argTypes:=#[29,29] }) (v:Value) (l:List FileD) (F:FileD) (hs:a.eval s=v)
  (hown:W.ownsRow B 95 3 v l.length (cellsF l)) (k:Nat) (hx:a.eval x=.slice (some ⟨k,0,none⟩) 1 1) (hblk:W.heap[k]? = some (.cells #[.string F.name,.string F.text,.int .i64 F.kept] 95 (0,0)))
  (hlen:l.length≤1048576) (hbase:B≤W.heap.size)
  (h:∀ g cap w',w'.ownsRow B 95 3 (.slice (some ⟨g,0,none⟩) (l.length+1) cap) (l ++ [F]).length (cellsF (l ++ [F]))→Below B W w'→B≤g→g < w'.heap.size→wpList Tryz.prog ops Q rest (a.put o.dst (.slice (some ⟨g,0,none⟩) (l.length+1) cap)) w') :
  wpList Tryz.prog ops Q (o :: rest) a W:=by
 obtain ⟨i0,hi,hz0,hz1,hz2⟩:=info_parts Tryz.infoFile
 refine wpList_append_lies W hgd s x 29 ho B 95 i0 (.agg #[.string ⟨#[]⟩,.string ⟨#[]⟩,.int .i64 0]) 3 40 Tryz.underlying29 hi hz0 hz1 hz2 rfl (by decide) v l.length (cellsF l) hs hown ⟨k,0,none⟩ 1 1 (cellsF [F]) hx (by rw [cellsF_length];rfl)
  (fun j u hj => World.news_of_block hblk j u hj) (cellsF_one [F]) (by omega) (by unfold maxLen;omega) (by omega) hbase W.heap.size rfl ?_
 intro g cap w' hown' hgrow hg hgl
 have hlt:=hown.lt
 refine h g cap w' ?_ ((Below.refl B W).grown hgrow hbase (fun k hk => (hlt k hk).1)) ?_ hgl
 ·
  rw [cellsF_append,List.length_append]
  exact hown'
 ·
  rcases hg with hg | rfl
  · exact (hlt g hg).1
  · exact hbase
theorem grownBy_step {wb wr w3:World} {o:Nat} (hg:wb.grownBy wr (some o)) (hb:Below (o+1) wr w3) (hs:wb.heap.size=o+1):wb.grownBy w3 (some o) :=
 ⟨hb.os.trans hg.os,hb.tape.trans hg.tape,hb.output.trans hg.output,Nat.le_trans hg.size hb.size,fun i hi hr => (hb.block i (by omega)).trans (hg.block i hi hr)⟩
theorem l03At_none (fs:List FileD) (ao:Option Addr) (cap:Nat) (nm:ByteArray) (w:World) (hl:fs.length≤1048576) (hfs:FilesAt w ao fs) (h:fileD fs nm=none) :
  Calls Tryz.prog 47 #[.agg #[.slice ao fs.length cap],.string nm] w fun e w' => e=.returned (.int .i64 (-1))∧Below w.heap.size w w':=by
 refine (l03At_any fs ao cap nm w hl hfs).mono ?_
 rintro e w' ⟨rfl,hb⟩
 rcases at_cases nm fs 0 with ⟨h1,-⟩ | ⟨j,hj,-,-,h3⟩
 · rw [h1];exact ⟨rfl,hb⟩
 · unfold fileD at h;rw [h3] at h;cases h
theorem l03At_some (fs:List FileD) (ao:Option Addr) (cap:Nat) (nm:ByteArray) (F:FileD) (hl:fs.length≤1048576) (h:fileD fs nm=some F):∃ j,∃ hj:j < fs.length,fs[j]=F ∧
  ∀ w,FilesAt w ao fs→Calls Tryz.prog 47 #[.agg #[.slice ao fs.length cap],.string nm] w fun e w' => e=.returned (.int .i64 (j:Int))∧Below w.heap.size w w':=by
 rcases at_cases nm fs 0 with ⟨-,h2⟩ | ⟨j,hj,h1,-,h3⟩
 ·
  have:fileD fs nm=none:=List.find?_eq_none.2 (fun G hG => by rw [h2 G hG];decide)
  rw [this] at h;cases h
 ·
  unfold fileD at h
  rw [h3] at h
  refine ⟨j,hj,Option.some.inj h,fun w hfs => ?_⟩
  refine (l03At_any fs ao cap nm w hl hfs).mono ?_
  rintro e w' ⟨rfl,hb⟩
  rw [h1,Nat.zero_add]
  exact ⟨rfl,hb⟩
theorem specFileAt_some (fs:List FileD) (ao:Option Addr) (cap:Nat) (nm:ByteArray) (w:World) (F:FileD) (hl:fs.length≤1048576) (hfs:FilesAt w ao fs) (h:fileD fs nm=some F) :
  Calls Tryz.prog 37 #[.agg #[.slice ao fs.length cap],.string nm] w fun e w' => e=.returned (.tuple #[.string F.text,.bool true])∧Below w.heap.size w w':=by
 refine (specFileAt_any fs ao cap nm w hl hfs).mono ?_
 rintro e w' ⟨⟨hn,-⟩ | ⟨G,hG,-,rfl⟩,hb⟩
 · rw [h] at hn;cases hn
 · rw [h] at hG;cases hG;exact ⟨rfl,hb⟩
theorem counting_low {m:Nat} {l:List SegD} (h:∀ s ∈ l,s.num < m):counting m l=[]:=List.filter_eq_nil_iff.2 (fun s hs => by have:=h s hs;simp;omega)
theorem segsTo_more (fs:List FileD) (k:Nat):∀ d,∃ r,segsTo fs (k+d)=segsTo fs k ++ r
 | 0 => ⟨[],by simp⟩
 | d+1 => by
  obtain ⟨r,hr⟩:=segsTo_more fs k d
  exact ⟨r ++ (segD fs (k+d)).toList,by show segsTo fs (k+d) ++ (segD fs (k+d)).toList=_;rw [hr,List.append_assoc]⟩
theorem specSegments_any (fs:List FileD) (ao:Option Addr) (cap:Nat) (w:World) (hl:fs.length≤1048576) (hfs:FilesAt w ao fs) (hsz:∀ F ∈ fs,F.name.size≤1048576∧F.text.size≤1048576) :
  Calls Tryz.prog 34 #[.agg #[.slice ao fs.length cap]] w fun e w' => (∃ v,e=.returned (.tuple #[v,.bool (segsOk fs)])∧w'.ownsRow w.heap.size 3 1 v ((segsL fs).map SegD.num).length (((segsL fs).map SegD.num).map iv))∧Below w.heap.size w w':=by
 have HF:=hide hfs
 have HS:=hide hsz
 have HS2:Hid (∀ F ∈ fs,F.name.size≤maxLen∧F.text.size≤maxLen):=fun F hF => by have:=hsz F hF;unfold maxLen;omega
 clear hfs hsz
 obtain ⟨wb,hwb⟩:∃ wb,wb=(w.alloc (.cells #[.slice ao fs.length cap] 31)).alloc (.cells #[] 3):=⟨_,rfl⟩
 have HB0:Hid (Below w.heap.size w wb):=by rw [hwb];exact ((Below.refl _ w).alloc (Nat.le_refl _) _).alloc (by simp) _
 have hbs:w.heap.size+2≤wb.heap.size:=by rw [hwb];simp
 have HBC:Hid (wb.cell? ⟨w.heap.size,0,none⟩=some (.slice ao fs.length cap)):=by
  have h1:(w.alloc (.cells #[.slice ao fs.length cap] 31)).cell? ⟨w.heap.size,0,none⟩=some (.slice ao fs.length cap):=(cell_of_row _ _ 0 _ _ (0,0) (heap_alloc_new w _)).trans rfl
  rw [hwb]
  exact ((((Below.refl _ (w.alloc (.cells #[.slice ao fs.length cap] 31))).alloc (Nat.le_refl _) (.cells #[] 3)).cell (p:=⟨w.heap.size,0,none⟩) (by simp))).trans h1
 have HO0:Hid (wb.ownsRow (w.heap.size+1) 3 1 (.slice (some ⟨w.heap.size+1,0,none⟩) 0 0) 0 []):=by
  rw [hwb]
  have:=World.ownsRow_lit (e:=3) (size:=1) (w.alloc (.cells #[.slice ao fs.length cap] 31)) #[] 0 (Nat.le_refl _) (by unfold maxLen;omega) (by simp)
  show World.ownsRow _ _ _ _ _ _ _
  simpa using this
 cases hok:diskOkD fs with
 | false =>
  have HE:=hide (segsOk_disk hok)
  go_enter Tryz.func34,Tryz.ntmps34
  go_wp2_with fail
  rw [← hwb]
  refine (specDiskOk_any fs ao cap _ hl (filesAt_keep HF.out HB0.out) HS2.out).mono ?_
  rintro e w1 ⟨rfl,b1⟩
  rw [hok]
  have B1:=hide (HB0.out.trans (b1.mono HB0.out.size))
  have O1:=hide (ownsRow_below HO0.out b1)
  clear b1 hok hwb
  go_wp2
  go_ret2
  rw [HE.out.1,HE.out.2]
  exact ⟨⟨_,rfl,ownsRow_mono O1.out (by omega)⟩,B1.out⟩
 | true =>
  obtain ⟨M,HM⟩:∃ M,Hid (topFrom (segsTo fs 100)=M):=⟨_,rfl⟩
  have hMl:M≤99:=by rw [← HM.out];exact topFrom_le _ 99 (fun s hs => (segsTo_mem hs).2.1)
  have HC:Hid (segsC fs=counting M (segsTo fs 100)):=by show _=_;unfold segsC;rw [HM.out]
  have HD:=hide hok
  go_enter Tryz.func34,Tryz.ntmps34
  go_wp2_with fail
  rw [← hwb]
  clear hwb
  refine (specDiskOk_any fs ao cap _ hl (filesAt_keep HF.out HB0.out) HS2.out).mono ?_
  rintro e w1 ⟨rfl,b1⟩
  rw [hok]
  have B1:=hide b1
  have hb1:wb.heap.size≤w1.heap.size:=b1.size
  clear b1 hok
  go_wp2_with fail
  go_loopg [5,6] 100 (fun gg vf ii wr => ∃ (k f:Nat),k+gg=100∧vf=.int .i64 f∧ii=.int .i64 k∧k≤100∧f≤99∧Hid (f=topFrom (segsTo fs k))∧Hid (Below wb.heap.size wb wr))
  case atStart => exact ⟨0,0,rfl,rfl,rfl,Nat.zero_le _,Nat.zero_le _,rfl,B1⟩
  case round =>
   obtain ⟨k,f,hkg,rfl,rfl,hk,hf9,HT,HB⟩:=hrel
   have hws:wb.heap.size≤wr.heap.size:=HB.out.size
   have hlt0:w.heap.size < wr.heap.size:=by omega
   have HBw:Hid (Below w.heap.size w wr):=HB0.out.trans (HB.out.mono (by omega))
   have hc0:wr.cell? ⟨w.heap.size,0,none⟩=some (.slice ao fs.length cap):=(HB.out.cell (p:=⟨w.heap.size,0,none⟩) (by show w.heap.size < _;omega)).trans HBC.out
   cases gk with
   | succ g0 =>
    have hlt':decide ((k:Int)≤99)=true:=by simp;omega
    obtain ⟨NM,HNM⟩:∃ NM,Hid (segNm (k:Int)=NM):=⟨_,rfl⟩
    have HN:Hid (∀ W:World,Calls Tryz.prog 38 #[.int .i64 (k:Int)] W fun e w' => e=.returned (.string NM)∧Below W.heap.size W w'):=fun W => by rw [← HNM.out];exact specSegName_any (k:Int) W
    cases hfd:fileD fs (segNm k) with
    | none =>
     have HE:=hide (segsTo_none hfd)
     have HAT:Hid (∀ W,Below wr.heap.size wr W→Calls Tryz.prog 47 #[.agg #[.slice ao fs.length cap],.string NM] W fun e w' => e=.returned (.int .i64 (-1))∧Below W.heap.size W w'):=fun W hW => l03At_none fs ao cap NM W hl (filesAt_keep (filesAt_keep HF.out HBw.out) hW) (by rw [← HNM.out];exact hfd)
     clear hfd
     go_wp2_with fail
     go_region_held3 (fun w' => w'.cell? ⟨w.heap.size,0,none⟩=some (.slice ao fs.length cap)) (first | go_keep | (exact hc0) | (exact (b1.cell (p:=⟨w.heap.size,0,none⟩) hlt0).trans hc0) | (exact ((b1.trans (b2.mono b1.size)).cell (p:=⟨w.heap.size,0,none⟩) hlt0).trans hc0)) ((first | (go_at_call 38;refine (HN.out _).mono ?_;rintro e w1 ⟨rfl,b1⟩) | (go_at_call 47;refine (HAT.out _ (by first | exact b1 | exact (Below.refl _ _).drew.trans b1)).mono ?_;rintro e w2 ⟨rfl,b2⟩)))
     have B2:Hid (Below wr.heap.size wr w2):=(Below.refl _ _).drew.trans (b1.trans (b2.mono b1.size))
     clear b1 b2
     go_wp2_with fail
     go_roundg g0
     case rel => exact ⟨k+1,f,by omega,rfl,by go_num,by omega,hf9,by show _=_;rw [HE.out];exact HT.out,HB.out.trans (B2.out.mono hws)⟩
     case measure => omega
    | some F =>
     have HE:=hide (segsTo_some hfd)
     have hFm:=List.mem_of_find?_eq_some hfd
     have hFs:=(HS.out F hFm).2
     obtain ⟨j,hj,hjF,hat⟩:=l03At_some fs ao cap NM F hl (by rw [← HNM.out];exact hfd)
     have HJF:=hide hjF
     have HAT:Hid (∀ W,Below wr.heap.size wr W→Calls Tryz.prog 47 #[.agg #[.slice ao fs.length cap],.string NM] W fun e w' => e=.returned (.int .i64 (j:Int))∧Below W.heap.size W w'):=fun W hW => hat W (filesAt_keep (filesAt_keep HF.out HBw.out) hW)
     have hjn:decide ((j:Int) < 0)=false:=by simp
     clear hat hjF
     have HRS:=hide (fun W => specReadSegment_any (k:Int) F.text W hFs)
     unfold SegLeft at HRS
     have HSO:Hid ((segOfFile k F).frm=segFrom (k:Int) F.text∧(segOk (k:Int) F.text=false→segFrom (k:Int) F.text=0)∧segFrom (k:Int) F.text≤99):=⟨rfl,segFrom_not,segFrom_le k F.text⟩
     clear hfd hFm
     generalize segFrom (k:Int) F.text=f0 at HRS HSO
     generalize segBatches (k:Int) F.text=bs0 at HRS
     generalize segOk (k:Int) F.text=ok0 at HRS HSO
     have hf0:=HSO.out.2.2
     go_wp2_with fail
     go_region_held3 (fun w' => w'.cell? ⟨w.heap.size,0,none⟩=some (.slice ao fs.length cap)) (first | go_keep | (exact hc0) | (exact (b1.cell (p:=⟨w.heap.size,0,none⟩) hlt0).trans hc0) | (exact ((b1.trans (b2.mono b1.size)).cell (p:=⟨w.heap.size,0,none⟩) hlt0).trans hc0)) ((first | (go_at_call 38;refine (HN.out _).mono ?_;rintro e w1 ⟨rfl,b1⟩) | (go_at_call 47;refine (HAT.out _ (by first | exact b1 | exact (Below.refl _ _).drew.trans b1)).mono ?_;rintro e w2 ⟨rfl,b2⟩)))
     have B2:Hid (Below wr.heap.size wr w2):=(Below.refl _ _).drew.trans (b1.trans (b2.mono b1.size))
     clear b1 b2
     obtain ⟨fb,off,hao,hbw,-,hd1,-⟩:=filesAt_keep HF.out (HBw.out.trans (B2.out.mono HBw.out.size)) j hj
     have hd0:w2.cell? ⟨w.heap.size,0,none⟩=some (.slice ao fs.length cap):=(B2.out.cell (p:=⟨w.heap.size,0,none⟩) hlt0).trans hc0
     rw [HJF.out] at hd1
     subst hao
     have hji0:(0:Int)≤(j:Int):=by omega
     have hji1:(j:Int) < (fs.length:Int):=by omega
     go_wp2_with fail
     refine (HRS.out _).mono ?_
     rintro e w3 ⟨⟨v3,rfl,r3⟩,b3⟩
     have B3:=hide (B2.out.trans (b3.mono B2.out.size))
     clear r3 b3 hd0 hd1
     have HN1:Hid (topFrom (segsTo fs (k+1))=max f f0):=by show _=_;rw [HE.out,topFrom_snoc,HSO.out.1,← HT.out]
     cases ok0 with
     | false =>
      have h0:f0=0:=HSO.out.2.1 (by simp)
      go_wp2_with fail
      go_roundg g0
      case rel => exact ⟨k+1,f,by omega,rfl,by go_num,by omega,hf9,by show _=_;rw [HN1.out];omega,HB.out.trans (B3.out.mono hws)⟩
      case measure => omega
     | true =>
      by_cases hgt:f < f0
      ·
       have hgt':decide ((f:Int) < (f0:Int))=true:=by simp;omega
       go_wp2_with fail
       go_roundg g0
       case rel => exact ⟨k+1,f0,by omega,rfl,by go_num,by omega,hf0,by show _=_;rw [HN1.out];omega,HB.out.trans (B3.out.mono hws)⟩
       case measure => omega
      ·
       have hgt':decide ((f:Int) < (f0:Int))=false:=by simp;omega
       go_wp2_with fail
       go_roundg g0
       case rel => exact ⟨k+1,f,by omega,rfl,by go_num,by omega,hf9,by show _=_;rw [HN1.out];omega,HB.out.trans (B3.out.mono hws)⟩
       case measure => omega
   | zero =>
    have hlt':decide ((k:Int)≤99)=false:=by simp;omega
    have hke:k=100:=by omega
    subst hke
    have hfM:f=M:=by rw [HT.out,HM.out]
    subst hfM
    have HOc:=hide (ownsRow_below HO0.out HB.out)
    have HBc:Hid (Below (w.heap.size+1) wb wr):=HB.out.mono (by omega)
    obtain ⟨wc,rfl⟩:∃ wc,wc=wr:=⟨_,rfl⟩
    clear hc0 hlt0 hws HBw HT hlt' hk hkg
    go_wp2_with fail
    go_loopg [4,12] (100 - f) (fun gg vo ii wr => ∃ (k:Nat),k+gg=100∧ii=.int .i64 k∧k≤100∧f≤k∧Hid (wr.ownsRow (w.heap.size+1) 3 1 vo ((counting f (segsTo fs k)).map SegD.num).length (((counting f (segsTo fs k)).map SegD.num).map iv))∧Hid (allRight (counting f (segsTo fs k))=true)∧Hid (Below (w.heap.size+1) wb wr))
    case atStart =>
     have hz:counting f (segsTo fs f)=[]:=counting_low (fun s hs => (segsTo_mem hs).1)
     refine ⟨f,by omega,rfl,by omega,Nat.le_refl _,?_,?_,HBc⟩
     ·
      show World.ownsRow _ _ _ _ _ _ _
      rw [hz]
      exact HOc.out
     ·
      show _=_
      rw [hz]
      rfl
    case round =>
     obtain ⟨k,hkg,rfl,hk,hfk,HO,HAR,HB⟩:=hrel
     have hws:w.heap.size+2≤wr.heap.size:=by have:=HB.out.size;omega
     have hlt0:w.heap.size < wr.heap.size:=by omega
     have HBw:Hid (Below w.heap.size w wr):=HB0.out.trans (HB.out.mono (by omega))
     have hc0:wr.cell? ⟨w.heap.size,0,none⟩=some (.slice ao fs.length cap):=(HB.out.cell (p:=⟨w.heap.size,0,none⟩) (by show w.heap.size < _;omega)).trans HBC.out
     cases gk with
     | succ g2 =>
      have hlt':decide ((k:Int)≤99)=true:=by simp;omega
      obtain ⟨NM,HNM⟩:∃ NM,Hid (segNm (k:Int)=NM):=⟨_,rfl⟩
      have HN:Hid (∀ W:World,Calls Tryz.prog 38 #[.int .i64 (k:Int)] W fun e w' => e=.returned (.string NM)∧Below W.heap.size W w'):=fun W => by rw [← HNM.out];exact specSegName_any (k:Int) W
      cases hfd:fileD fs (segNm k) with
      | none =>
       have HE:=hide (segsTo_none hfd)
       have HAT:Hid (∀ W,Below wr.heap.size wr W→Calls Tryz.prog 47 #[.agg #[.slice ao fs.length cap],.string NM] W fun e w' => e=.returned (.int .i64 (-1))∧Below W.heap.size W w'):=fun W hW => l03At_none fs ao cap NM W hl (filesAt_keep (filesAt_keep HF.out HBw.out) hW) (by rw [← HNM.out];exact hfd)
       clear hfd
       go_wp2_with fail
       go_region_held3 (fun w' => w'.cell? ⟨w.heap.size,0,none⟩=some (.slice ao fs.length cap)) (first | go_keep | (exact hc0) | (exact (b1.cell (p:=⟨w.heap.size,0,none⟩) hlt0).trans hc0) | (exact ((b1.trans (b2.mono b1.size)).cell (p:=⟨w.heap.size,0,none⟩) hlt0).trans hc0)) ((first | (go_at_call 38;refine (HN.out _).mono ?_;rintro e w1 ⟨rfl,b1⟩) | (go_at_call 47;refine (HAT.out _ (by first | exact b1 | exact (Below.refl _ _).drew.trans b1)).mono ?_;rintro e w2 ⟨rfl,b2⟩)))
       have B2:Hid (Below wr.heap.size wr w2):=(Below.refl _ _).drew.trans (b1.trans (b2.mono b1.size))
       clear b1 b2
       go_wp2_with fail
       go_roundg g2
       case rel => exact ⟨k+1,by omega,by go_num,by omega,by omega,by show World.ownsRow _ _ _ _ _ _ _;rw [HE.out];exact ownsRow_below HO.out B2.out,by show _=_;rw [HE.out];exact HAR.out,HB.out.trans (B2.out.mono (by omega))⟩
       case measure => omega
      | some F =>
       have HE:=hide (segsTo_some hfd)
       have hFm:=List.mem_of_find?_eq_some hfd
       have hFs:=(HS.out F hFm).2
       obtain ⟨j,hj,hjF,hat⟩:=l03At_some fs ao cap NM F hl (by rw [← HNM.out];exact hfd)
       have HJF:=hide hjF
       have HAT:Hid (∀ W,Below wr.heap.size wr W→Calls Tryz.prog 47 #[.agg #[.slice ao fs.length cap],.string NM] W fun e w' => e=.returned (.int .i64 (j:Int))∧Below W.heap.size W w'):=fun W hW => hat W (filesAt_keep (filesAt_keep HF.out HBw.out) hW)
       have hjn:decide ((j:Int) < 0)=false:=by simp
       clear hat hjF
       have HRS:=hide (fun W => specReadSegment_any (k:Int) F.text W hFs)
       unfold SegLeft at HRS
       have HSO:Hid ((segOfFile k F).num=k∧(segOfFile k F).right=segOk (k:Int) F.text):=⟨rfl,rfl⟩
       clear hfd hFm
       generalize segFrom (k:Int) F.text=f0 at HRS
       generalize segBatches (k:Int) F.text=bs0 at HRS
       generalize segOk (k:Int) F.text=ok0 at HRS HSO
       have HCI:=hide (counting_snoc_in (m:=f) (l:=segsTo fs k) (s:=segOfFile k F) (by rw [HSO.out.1];exact hfk))
       rw [← HE.out] at HCI
       go_wp2_with fail
       go_region_held3 (fun w' => w'.cell? ⟨w.heap.size,0,none⟩=some (.slice ao fs.length cap)) (first | go_keep | (exact hc0) | (exact (b1.cell (p:=⟨w.heap.size,0,none⟩) hlt0).trans hc0) | (exact ((b1.trans (b2.mono b1.size)).cell (p:=⟨w.heap.size,0,none⟩) hlt0).trans hc0)) ((first | (go_at_call 38;refine (HN.out _).mono ?_;rintro e w1 ⟨rfl,b1⟩) | (go_at_call 47;refine (HAT.out _ (by first | exact b1 | exact (Below.refl _ _).drew.trans b1)).mono ?_;rintro e w2 ⟨rfl,b2⟩)))
       have B2:Hid (Below wr.heap.size wr w2):=(Below.refl _ _).drew.trans (b1.trans (b2.mono b1.size))
       clear b1 b2
       obtain ⟨fb,off,hao,hbw,-,hd1,-⟩:=filesAt_keep HF.out (HBw.out.trans (B2.out.mono HBw.out.size)) j hj
       have hd0:w2.cell? ⟨w.heap.size,0,none⟩=some (.slice ao fs.length cap):=(B2.out.cell (p:=⟨w.heap.size,0,none⟩) hlt0).trans hc0
       rw [HJF.out] at hd1
       subst hao
       have hji0:(0:Int)≤(j:Int):=by omega
       have hji1:(j:Int) < (fs.length:Int):=by omega
       go_wp2_with fail
       refine (HRS.out _).mono ?_
       rintro e w3 ⟨⟨v3,rfl,r3⟩,b3⟩
       obtain ⟨a3,c3,rfl,-⟩:=rowBatch_at r3
       have B3:=hide (B2.out.trans (b3.mono B2.out.size))
       have hw3:wr.heap.size≤w3.heap.size:=B3.out.size
       clear r3 b3 hd0 hd1
       cases ok0 with
       | false =>
        have hEE:allRight (segsC fs)=false:=by
         obtain ⟨r,hr⟩:=segsTo_more fs (k+1) (99 - k)
         rw [HC.out,show (100:Nat)=k+1+(99 - k) by omega,hr,counting_app,allRight_app,HCI.out,allRight_snoc,HSO.out.2]
         simp
        have HEE:=hide (segsOk_wrong hEE)
        clear hEE
        go_wp2
        go_ret2
        rw [HEE.out.1,HEE.out.2]
        refine ⟨⟨_,rfl,ownsRow_mono (World.ownsRow_lit w3 #[] 0 (Nat.le_refl _) (by unfold maxLen;omega) (by simp)) (by omega)⟩,(HBw.out.trans (B3.out.mono HBw.out.size)).alloc (by omega) _⟩
       | true =>
        have hol:((counting f (segsTo fs k)).map SegD.num).length≤1000000:=by rw [List.length_map];have h1:=counting_len f (segsTo fs k);have h2:=segsTo_len fs k;omega
        have HO3:=hide (ownsRow_below HO.out B3.out)
        have HB3:Hid (Below (w.heap.size+1) wb w3):=HB.out.trans (B3.out.mono (by omega))
        go_wp2_with (at_builtin;refine app_int (x:=k) w3 wb (w.heap.size+1) (by rfl) _ _ (by rfl) _ ((counting f (segsTo fs k)).map SegD.num) (by rfl) HO3.out (by rfl) hol HB3.out (by omega) ?_;intro v5 w5 ho5 hb5 hs5;have O5:=hide ho5;have B5:=hide hb5;clear ho5 hb5 hs5)
        go_roundg g2
        case rel =>
         refine ⟨k+1,by omega,by go_num,by omega,by omega,?_,?_,B5⟩
         ·
          show World.ownsRow _ _ _ _ _ _ _
          rw [HCI.out,List.map_append,List.map_singleton,HSO.out.1]
          exact O5.out
         ·
          show _=_
          rw [HCI.out,allRight_snoc,HAR.out,HSO.out.2]
          rfl
        case measure => omega
     | zero =>
      have hlt':decide ((k:Int)≤99)=false:=by simp;omega
      have hke:k=100:=by omega
      subst hke
      have HE:=hide (segsOk_rest HD.out (by rw [HC.out];exact HAR.out))
      rw [HC.out] at HE
      obtain ⟨NL,HNL⟩:∃ NL,Hid ((counting f (segsTo fs 100)).length=NL):=⟨_,rfl⟩
      have hnl:decide ((0:Int) < (NL:Int))=decide (0 < NL):=by apply decide_eq_decide.2;omega
      have HO2:=hide (ownsRow_mono HO.out (by omega:w.heap.size≤w.heap.size+1))
      have hlm:((counting f (segsTo fs 100)).map SegD.num).length=NL:=by rw [List.length_map,HNL.out]
      rw [HNL.out] at HE
      rw [hlm] at HO2
      clear hlm HO
      obtain ⟨ax,cx,hvo⟩:=slice_form HO2.out
      subst hvo
      go_wp2
      go_ret2
      rw [HE.out.1,HE.out.2,← hnl,HNL.out]
      refine ⟨⟨_,rfl,?_⟩,HBw.out⟩
      rw [← List.map_map]
      exact HO2.out
theorem l06Batches_any (fs:List FileD) (ao:Option Addr) (cap:Nat) (n:Nat) (F:FileD) (w:World) (hl:fs.length≤1048576) (hfs:FilesAt w ao fs) (hsz:∀ F ∈ fs,F.name.size≤1048576∧F.text.size≤1048576) (hF:fileD fs (segNm n)=some F) :
  Calls Tryz.prog 83 #[.agg #[.slice ao fs.length cap],.int .i64 n] w fun e w' => (∃ v,e=.returned v∧RowBatch w' w.heap.size v (segBatches n F.text))∧Below w.heap.size w w':=by
 have hFm:=List.mem_of_find?_eq_some hF
 have hFs:=(hsz F hFm).2
 have HF:=hide hfs
 obtain ⟨wb,hwb⟩:∃ wb,wb=w.alloc (.cells #[.slice ao fs.length cap] 31):=⟨_,rfl⟩
 have HB0:Hid (Below w.heap.size w wb):=by rw [hwb];exact (Below.refl _ w).alloc (Nat.le_refl _) _
 have hbs:w.heap.size < wb.heap.size:=by rw [hwb];simp
 have hc0:wb.cell? ⟨w.heap.size,0,none⟩=some (.slice ao fs.length cap):=by rw [hwb];exact (cell_of_row _ _ 0 _ _ (0,0) (heap_alloc_new w _)).trans rfl
 obtain ⟨NM,HNM⟩:∃ NM,Hid (segNm (n:Int)=NM):=⟨_,rfl⟩
 have HN:Hid (∀ W:World,Calls Tryz.prog 38 #[.int .i64 (n:Int)] W fun e w' => e=.returned (.string NM)∧Below W.heap.size W w'):=fun W => by rw [← HNM.out];exact specSegName_any (n:Int) W
 have HAT:Hid (∀ W,Below wb.heap.size wb W→Calls Tryz.prog 37 #[.agg #[.slice ao fs.length cap],.string NM] W fun e w' => e=.returned (.tuple #[.string F.text,.bool true])∧Below W.heap.size W w'):=fun W hW => specFileAt_some fs ao cap NM W F hl (filesAt_keep (filesAt_keep HF.out HB0.out) hW) (by rw [← HNM.out];exact hF)
 have HRS:=hide (fun W => specReadSegment_any (n:Int) F.text W hFs)
 unfold SegLeft at HRS
 clear hfs hsz hF hFm
 generalize segFrom (n:Int) F.text=f0 at HRS
 generalize segBatches (n:Int) F.text=bs0 at HRS
 generalize segOk (n:Int) F.text=ok0 at HRS
 go_enter Tryz.func83,Tryz.ntmps83
 go_wp2_with fail
 rw [← hwb]
 clear hwb
 go_region_held3 (fun w' => w'.cell? ⟨w.heap.size,0,none⟩=some (.slice ao fs.length cap)) (first | go_keep | (exact hc0) | (exact (b1.cell (p:=⟨w.heap.size,0,none⟩) hbs).trans hc0) | (exact ((b1.trans (b2.mono b1.size)).cell (p:=⟨w.heap.size,0,none⟩) hbs).trans hc0)) ((first | (go_at_call 38;refine (HN.out _).mono ?_;rintro e w1 ⟨rfl,b1⟩) | (go_at_call 37;refine (HAT.out _ (by first | exact b1 | exact (Below.refl _ _).drew.trans b1)).mono ?_;rintro e w2 ⟨rfl,b2⟩)))
 have B2:Hid (Below wb.heap.size wb w2):=(Below.refl _ _).drew.trans (b1.trans (b2.mono b1.size))
 clear b1 b2
 go_wp2_with fail
 refine (HRS.out _).mono ?_
 rintro e w3 ⟨⟨v3,rfl,r3⟩,b3⟩
 obtain ⟨a3,c3,rfl,-⟩:=rowBatch_at r3
 have B3:=hide (HB0.out.trans ((B2.out.trans (b3.mono B2.out.size)).mono HB0.out.size))
 have R3:=hide (rowBatch_le r3 (by have:=B2.out.size;omega:w.heap.size≤w2.heap.size))
 clear r3 b3
 go_wp2
 go_ret
 exact ⟨⟨_,rfl,R3.out⟩,B3.out⟩
theorem num_cell {w:World} {B cap n:Nat} {a:Option Addr} {L:List Nat} (h:w.ownsRow B 3 1 (.slice a n cap) n (L.map iv)) (j:Nat) (hj:j < n) (x:Nat) (hx:L[j]? = some x):∃ g,a=some ⟨g,0,none⟩∧g < w.heap.size∧w.cell? ⟨g,j,none⟩=some (.int .i64 (x:Int)):=by
 rcases h.2 with ⟨_,hn⟩ | ⟨g,cap',cur,hv,hB,hC,hle,_,hs,ht⟩
 · omega
 ·
  cases hv
  refine ⟨g,rfl,(Array.getElem?_eq_some_iff.1 hC).1,?_⟩
  rw [h.cellAt j (by omega),List.getElem?_map,hx];rfl
theorem specSeqsRise_any (fs:List FileD) (ao:Option Addr) (cap:Nat) (w:World) (hl:fs.length≤1048576) (hfs:FilesAt w ao fs) (hsz:∀ F ∈ fs,F.name.size≤1048576∧F.text.size≤1048576) :
  Calls Tryz.prog 51 #[.agg #[.slice ao fs.length cap]] w fun e w' => e=.returned (.bool (seqsRise fs))∧Below w.heap.size w w':=by
 have HF:=hide hfs
 have HS:=hide hsz
 obtain ⟨wb,hwb⟩:∃ wb,wb=w.alloc (.cells #[.slice ao fs.length cap] 31):=⟨_,rfl⟩
 have HB0:Hid (Below w.heap.size w wb):=by rw [hwb];exact (Below.refl _ w).alloc (Nat.le_refl _) _
 have hbs:w.heap.size < wb.heap.size:=by rw [hwb];simp
 have HBC:Hid (wb.cell? ⟨w.heap.size,0,none⟩=some (.slice ao fs.length cap)):=by rw [hwb];exact (cell_of_row _ _ 0 _ _ (0,0) (heap_alloc_new w _)).trans rfl
 have HSG:=hide (fun W hW => specSegments_any fs ao cap W hl hW hsz)
 obtain ⟨ok,HOK⟩:∃ ok,Hid (segsOk fs=ok):=⟨_,rfl⟩
 obtain ⟨l,HLL⟩:∃ l,Hid (segsL fs=l):=⟨_,rfl⟩
 obtain ⟨R,HR0⟩:∃ R,Hid (riseI (-1) (seqsOf l)=R):=⟨_,rfl⟩
 have HE:Hid (seqsRise fs=(ok && R)):=by show _=_;unfold seqsRise;rw [HOK.out,HLL.out,HR0.out]
 have HLM:Hid (∀ s ∈ l,s.bs.length≤20001∧∃ F,segBatches (s.num:Int) F.text=s.bs∧fileD fs (segNm s.num)=some F):=fun s hs => by
  rw [← HLL.out] at hs
  obtain ⟨-,-,F,-,hF,hD⟩:=segsTo_mem (segsL_mem hs)
  refine ⟨?_,F,?_,hD⟩
  ·
   rw [hF]
   exact (segBatches_bounds _ _).1
  ·
   conv => rhs;rw [hF]
   rfl
 obtain ⟨NL,HNL⟩:∃ NL,Hid (l.length=NL):=⟨_,rfl⟩
 have hNL:NL≤100:=by rw [← HNL.out,← HLL.out];exact segsL_len fs
 rw [HOK.out,HLL.out,List.length_map,HNL.out] at HSG
 clear hfs hsz
 go_enter Tryz.func51,Tryz.ntmps51
 go_wp2_with fail
 rw [← hwb]
 clear hwb
 refine (HSG.out _ (filesAt_keep HF.out HB0.out)).mono ?_
 rintro e w1 ⟨⟨v1,rfl,g1⟩,b1⟩
 obtain ⟨a1,c1,rfl⟩:=slice_form g1
 have G1:=hide g1
 have B1:=hide b1
 have hb1:wb.heap.size≤w1.heap.size:=b1.size
 have HBC1:Hid (w1.cell? ⟨w.heap.size,0,none⟩=some (.slice ao fs.length cap)):=(b1.cell (p:=⟨w.heap.size,0,none⟩) hbs).trans HBC.out
 have HBw1:Hid (Below w.heap.size w w1):=HB0.out.trans (b1.mono HB0.out.size)
 clear g1 b1
 go_wp2_with fail
 go_loopg [5,6] NL (fun gg vl ii wr => ∃ (k:Nat) (q:Int),k+gg=NL∧vl=.int .i64 q∧ii=.int .i64 k∧k≤NL∧Hid (riseI q (seqsOf (l.drop k))=R)∧Hid (Below w1.heap.size w1 wr))
 case atStart => exact ⟨0,-1,by omega,rfl,rfl,Nat.zero_le _,HR0,Below.refl _ _⟩
 case round =>
  obtain ⟨k,q,hkg,rfl,rfl,hk,HQ,HB⟩:=hrel
  have hws:w1.heap.size≤wr.heap.size:=HB.out.size
  have HBw:Hid (Below w.heap.size w wr):=HBw1.out.trans (HB.out.mono HBw1.out.size)
  cases gk with
  | zero =>
   have hlt':decide ((k:Int) < (NL:Int))=false:=by simp;omega
   have hltn:decide (k < NL)=false:=by simp;omega
   have hR:Hid (R=true):=by show _=_;rw [← HQ.out,List.drop_eq_nil_of_le (by rw [HNL.out];omega)];rfl
   go_wp2
   go_ret
   rw [HE.out,hR.out,Bool.and_true]
   exact ⟨rfl,HBw.out⟩
  | succ g0 =>
   have hlt:k < l.length:=by rw [HNL.out];omega
   have hlt':decide ((k:Int) < (NL:Int))=true:=by simp;omega
   have hltn:decide (k < NL)=true:=by simp;omega
   have hi0:(0:Int)≤(k:Int):=by omega
   have hi1:(k:Int) < (NL:Int):=by omega
   obtain ⟨hbl,F,hFb,hFd⟩:=HLM.out l[k] (List.getElem_mem hlt)
   obtain ⟨g,hg,hgw,hc1⟩:=num_cell (ownsRow_below G1.out HB.out) k (by omega) l[k].num (by rw [List.getElem?_map,List.getElem?_eq_getElem hlt];rfl)
   subst hg
   have hdk:=hide (List.drop_eq_getElem_cons hlt)
   have HLB:=hide (fun W hW => l06Batches_any fs ao cap l[k].num F W hl hW HS.out hFd)
   rw [hFb] at HLB
   clear hFb hFd
   generalize l[k]=D at hdk hc1 HLB hbl
   clear hlt
   rw [hdk.out,seqsOf_cons] at HQ
   have hlt0:w.heap.size < wr.heap.size:=by omega
   have hc0:wr.cell? ⟨w.heap.size,0,none⟩=some (.slice ao fs.length cap):=(HB.out.cell (p:=⟨w.heap.size,0,none⟩) (by show w.heap.size < _;omega)).trans HBC1.out
   have HFW:=hide (filesAt_keep HF.out HBw.out)
   obtain ⟨wO,rfl⟩:∃ wO,wO=wr:=⟨_,rfl⟩
   go_wp2_with fail
   go_region_held3 (fun w' => w'.cell? ⟨w.heap.size,0,none⟩=some (.slice ao fs.length cap)∧w'.cell? ⟨g,k,none⟩=some (.int .i64 (D.num:Int))) (first | go_keep | (exact ⟨hc0,hc1⟩) | (exact ⟨(b2.cell (p:=⟨w.heap.size,0,none⟩) hlt0).trans hc0,(b2.cell (p:=⟨g,k,none⟩) hgw).trans hc1⟩)) ((go_at_call 83;refine (HLB.out _ (by first | exact HFW.out | exact filesAt_keep HFW.out (Below.refl _ _).drew)).mono ?_;rintro e w2 ⟨⟨v2,rfl,r2⟩,b2⟩;obtain ⟨a2,c2,rfl,-⟩:=rowBatch_at r2))
   have B2:Hid (Below wO.heap.size wO w2):=(Below.refl _ _).drew.trans b2
   have HRB:=hide (rowBatch_rows r2).2
   clear r2 b2 hc0 hc1
   go_wp2_with fail
   go_loopg [5,8] D.bs.length (fun g2 vl ii wy => ∃ (j:Nat) (p:Int),j+g2=D.bs.length∧vl=.int .i64 p∧ii=.int .i64 j∧j≤D.bs.length∧Hid (riseI p ((D.bs.drop j).map BatchD.seq ++ seqsOf (l.drop (k+1)))=R)∧wy=w2)
   case atStart => exact ⟨0,q,by omega,rfl,rfl,Nat.zero_le _,HQ,rfl⟩
   case round =>
    obtain ⟨j,p,hjg,rfl,rfl,hj,HP,rfl⟩:=hrel
    cases gk with
    | zero =>
     have hjt':decide ((j:Int) < (D.bs.length:Int))=false:=by simp;omega
     have HP2:Hid (riseI p (seqsOf (l.drop (k+1)))=R):=by
      show _=_
      have hdn:D.bs.drop j=[]:=List.drop_eq_nil_of_le (by omega)
      rw [← HP.out,hdn]
      rfl
     go_wp2
     go_roundg g0
     case measure => omega
     case rel => exact ⟨k+1,p,by omega,rfl,by go_num,by omega,HP2,HB.out.trans (B2.out.mono hws)⟩
    | succ g2 =>
     have hjt:j < D.bs.length:=by omega
     have hjt':decide ((j:Int) < (D.bs.length:Int))=true:=by simp;omega
     have hj0:(0:Int)≤(j:Int):=by omega
     have hj1:(j:Int) < (D.bs.length:Int):=by omega
     obtain ⟨b,off,hab,hbw,hd0,-⟩:=HRB.out j hjt
     have hdj:=hide (List.drop_eq_getElem_cons hjt)
     generalize D.bs[j]=E at hd0 hdj
     subst hab
     rw [hdj.out,List.map_cons,List.cons_append] at HP
     by_cases hle:E.seq≤p
     ·
      have hle':decide (E.seq≤p)=true:=by simp;omega
      have hR:Hid (R=false):=by show _=_;rw [← HP.out];exact riseI_no hle
      go_wp2
      go_ret
      rw [HE.out,hR.out,Bool.and_false]
      exact ⟨rfl,HBw.out.trans (B2.out.mono HBw.out.size)⟩
     ·
      have hle':decide (E.seq≤p)=false:=by simp;omega
      rw [riseI_yes (by omega)] at HP
      go_wp2
      go_roundg g2
      case measure => omega
      case rel => exact ⟨j+1,E.seq,by omega,rfl,by go_num,by omega,HP,rfl⟩
end Go.Proofs.YtepdckehokdjlaaGreatDoor
