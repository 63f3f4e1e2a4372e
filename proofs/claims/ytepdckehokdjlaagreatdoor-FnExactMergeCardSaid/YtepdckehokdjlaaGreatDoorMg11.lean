import Derived.Deep.RegionHeld3
import Derived.Maps.AppendAt
import Derived.Test.YtepdckehokdjlaaGreatDoorMg10
import Derived.Test.YtepdckehokdjlaaGreatDoorMg4
import Derived.Test.YtepdckehokdjlaaGreatDoorMg2
import Derived.Test.YtepdckehokdjlaaGreatDoorMg0
import Derived.Test.YtepdckehokdjlaaGreatDoorMg6
set_option maxRecDepth 100000
set_option maxHeartbeats 1600000
namespace Go.Proofs.YtepdckehokdjlaaGreatDoor
open Go.RowKit Go.Maps
theorem Tryz.keyT (s:ByteArray) (h:s.size≤maxLen):keyOf Tryz.prog 9 (.string s)=some (kl s):=WideMaps.keyOf_string_mk Tryz.underlying9 h
theorem cells_grown {W w':World} {mb b o:Nat} {v:Value} (hg:W.grownBy w' (some mb)) (h:W.cell? ⟨b,o,none⟩=some v) (hb:b ≠ mb):w'.cell? ⟨b,o,none⟩=some v:=by
 have hb2:=hg.block b (World.block_lt_of_cell? _ _ h) (by simpa using hb)
 have hc:w'.cell? ⟨b,o,none⟩=W.cell? ⟨b,o,none⟩:=by unfold World.cell?;rw [hb2]
 exact hc.trans h
theorem changesAt_grown {w w':World} {ao:Option Addr} {fs:List ChangeD} {mb:Nat} (h:ChangesAt w ao fs) (hg:w.grownBy w' (some mb)) (hne:∀ b off,ao=some ⟨b,off,none⟩→b ≠ mb):ChangesAt w' ao fs:=by
 intro j hj
 obtain ⟨b,off,h1,h2,h3,h4,h5⟩:=h j hj
 have hb:=hg.block b h2 (by have:=hne b off h1;simpa using this)
 have hc:∀ o,w'.cell? ⟨b,o,none⟩=w.cell? ⟨b,o,none⟩:=fun o => by unfold World.cell?;rw [hb]
 exact ⟨b,off,h1,Nat.lt_of_lt_of_le h2 hg.size,(hc _).trans h3,(hc _).trans h4,(hc _).trans h5⟩
theorem tell_any (gs:List SpotD) (mb n:Nat) (q seg pos:Int) (cs:List ChangeD) (ao:Option Addr) (cap:Nat) (w:World) (hm:DirM w mb n gs) (hn:n+cs.length≤1000000) (hl:cs.length≤1048576) (hcs:ChangesAt w ao cs) (hmc:0 < cs.length→∀ b off,ao=some ⟨b,off,none⟩→b ≠ mb) (hsz:∀ A ∈ cs,A.key.size≤1048576) :
  Calls Tryz.prog 122 #[.map (some mb),.agg #[.int .i64 q,.slice ao cs.length cap],.int .i64 seg,.int .i64 pos] w fun e w' => e=.returned (.tuple #[])∧DirM w' mb (n+cs.length) (chsIn seg pos q gs cs)∧w.grownBy w' (some mb):=by
 obtain ⟨wb,hwb⟩:∃ wb,wb=w.alloc (.cells #[.int .i64 q,.slice ao cs.length cap] 87):=⟨_,rfl⟩
 have HB0:Hid (Below w.heap.size w wb):=by rw [hwb];exact (Below.refl _ w).alloc (Nat.le_refl _) _
 have HBX:Hid (wb.heap[w.heap.size]? = some (.cells #[.int .i64 q,.slice ao cs.length cap] 87 (0,0))):=by rw [hwb];exact heap_alloc_new w _
 have HM0:=hide (dirM_below hm HB0.out)
 have HC0:=hide (changesAt_keep hcs HB0.out)
 have hmlt:=dirM_lt hm
 have HS:=hide hsz
 have HMC:=hide hmc
 clear hm hcs hsz hmc
 go_enter Tryz.func122,Tryz.ntmps122
 go_wp2_with fail
 rw [← hwb]
 clear hwb
 go_loopw [13] (fun ii wr => ∃ (k:Nat),ii=.int .i64 k∧k≤cs.length∧Hid (DirM wr mb (n+k) (chsIn seg pos q gs (cs.take k)))∧Hid (wb.grownBy wr (some mb))) (fun ii _ => cs.length - (intOf ii).toNat)
 case atStart => exact ⟨0,rfl,Nat.zero_le _,HM0,World.grownBy.refl _ _⟩
 case round =>
  obtain ⟨k,rfl,hk,HM,HG⟩:=hrel
  have hws:=HG.out.size
  by_cases hlt:k < cs.length
  ·
   have hlt':decide ((k:Int) < (cs.length:Int))=true:=by simp;omega
   have hi0:(0:Int)≤(k:Int):=by omega
   have hi1:(k:Int) < (cs.length:Int):=by omega
   obtain ⟨b,off,hab,hbw,hd0,hd1,hd2⟩:=changesAt_grown HC0.out HG.out (HMC.out (by omega)) k hlt
   subst hab
   have htk:=hide (List.take_succ_eq_append_getElem hlt)
   have hks:=HS.out cs[k] (List.getElem_mem hlt)
   generalize cs[k]=A at hd0 hd1 hd2 htk hks
   have HK:=hide (Tryz.keyT A.key (by unfold maxLen;omega))
   obtain ⟨wr1,hwr1⟩:∃ x,x=wr.alloc (.cells #[.string A.key,.string A.value,.bool A.gone] 145):=⟨_,rfl⟩
   have B1r:Hid (Below wr.heap.size wr wr1):=by rw [hwr1];exact (Below.refl _ wr).alloc (Nat.le_refl _) _
   have hch1:wr1.heap[wr.heap.size]? = some (.cells #[.string A.key,.string A.value,.bool A.gone] 145 (0,0)):=by rw [hwr1];exact heap_alloc_new wr _
   have hbx1:=(B1r.out.block w.heap.size (by have:=heap_lt HBX.out;omega)).trans ((HG.out.block _ (heap_lt HBX.out) (by simp;omega)).trans HBX.out)
   have hf0:wr1.cell? ⟨wr.heap.size,0,none⟩=some (.string A.key):=(cell_of_row wr1 _ 0 _ _ (0,0) hch1).trans rfl
   have hf2:wr1.cell? ⟨wr.heap.size,2,none⟩=some (.bool A.gone):=(cell_of_row wr1 _ 2 _ _ (0,0) hch1).trans rfl
   have hf3:wr1.cell? ⟨w.heap.size,0,none⟩=some (.int .i64 q):=(cell_of_row wr1 _ 0 _ _ (0,0) hbx1).trans rfl
   have HM1:=hide (dirM_below HM.out B1r.out)
   have G1:Hid (wb.grownBy wr1 (some mb)):=grownBy_trans HG.out (grownBy_below _ B1r.out)
   clear hch1 hbx1
   obtain ⟨D,hD1,hD2,hD3,hD4⟩:=HM1.out
   have H1:=hide hD1
   have H2:=hide hD2
   have H3:=hide hD3
   have H4:=hide hD4
   clear hD1 hD2 hD3 hD4
   cases hgo:A.gone with
   | true =>
    rw [hgo] at hf2 hwr1 hd2
    subst hwr1
    go_wp2_with (at_delete;refine wpList_delete_own _ rfl _ _ 196 9 rfl 106 (string_keyed Tryz.underlying9) Tryz.underlying196 spotElem mb (n+k) D rfl H1.out _ _ rfl HK.out ?_;intro w5 hown5 hturn5;have HN5:=hide (dirM_del ⟨A.key,seg,pos,q⟩ H2.out H3.out H4.out hown5);have HG5:=hide hturn5.grown;clear hown5 hturn5)
    go_roundw
    case rel => exact ⟨k+1,by go_num,by omega,by show DirM _ _ _ _;rw [htk.out,chsIn_snoc,hgo];exact dirM_mono HN5.out (by omega),grownBy_trans G1.out HG5.out⟩
    case measure => simp [intOf];omega
   | false =>
    rw [hgo] at hf2 hwr1 hd2
    subst hwr1
    go_wp2_with (at_mapUpdate;refine wpList_mapUpdate_own _ rfl _ _ _ 196 rfl 9 106 (string_keyed Tryz.underlying9) Tryz.underlying196 spotElem mb (n+k) D rfl H1.out (by unfold maxLen;omega) _ _ _ rfl rfl HK.out (spotDat ⟨A.key,seg,pos,q⟩) [] rfl ?_;intro w5 hown5 hgrow5;have HN5:=hide (dirM_put (F:=⟨A.key,seg,pos,q⟩) H1.out.isMap H2.out H3.out H4.out hown5);have HG5:=hide hgrow5;clear hown5 hgrow5)
    go_roundw
    case rel => exact ⟨k+1,by go_num,by omega,by show DirM _ _ _ _;rw [htk.out,chsIn_snoc,hgo];exact HN5.out,grownBy_trans G1.out HG5.out⟩
    case measure => simp [intOf];omega
  ·
   have hlt':decide ((k:Int) < (cs.length:Int))=false:=by simp;omega
   have hke:k=cs.length:=by omega
   subst hke
   rw [List.take_length] at HM
   go_wp2
   refine bodyPost_end (results_none rfl _ _ _) rfl ?_
   exact ⟨rfl,HM.out,grownBy_trans (grownBy_below _ HB0.out) HG.out⟩
end Go.Proofs.YtepdckehokdjlaaGreatDoor
namespace Go.Proofs.YtepdckehokdjlaaGreatDoor
open Go.RowKit
theorem Tryz.infoBatch:(Tryz.prog.info? 87).map (fun i => (i.zero,i.size,i.bytes))=some (some (.agg #[.int .i64 0,.slice none 0 0]),2,32):=by kernel_rfl
def BatchesAt (w:World) (ao:Option Addr) (bs:List BatchD):Prop:=∀ j (h:j < bs.length),∃ b off:Nat,ao=some ⟨b,off,none⟩∧b < w.heap.size∧w.cell? ⟨b,off+j * 2,none⟩=some (.int .i64 bs[j].seq) ∧
 ∃ a c,w.cell? ⟨b,off+j * 2+1,none⟩=some (.slice a bs[j].chs.length c)∧ChangesAt w a bs[j].chs
theorem batchesAt_keep {w w':World} {ao:Option Addr} {bs:List BatchD} (h:BatchesAt w ao bs) (hb:Below w.heap.size w w'):BatchesAt w' ao bs:=by
 intro j hj
 obtain ⟨b,off,h1,h2,h3,a,c,h4,h5⟩:=h j hj
 exact ⟨b,off,h1,Nat.lt_of_lt_of_le h2 hb.size,(hb.cell (p:=⟨b,off+j * 2,none⟩) h2).trans h3,a,c,(hb.cell (p:=⟨b,off+j * 2+1,none⟩) h2).trans h4,changesAt_keep h5 hb⟩
def KidsIn (w:World) (B g:Nat) (C:Array Value) (bs:List BatchD):Prop :=
 (∀ j (h:j < bs.length),C[j * 2]? = some (.int .i64 bs[j].seq)∧∃ x,C[j * 2+1]? = some x∧RowChange w B x bs[j].chs∧x.ownBlock ≠ some g) ∧
 (∀ (i j:Nat) (x y:Value) (h:Nat),i ≠ j→i < bs.length→j < bs.length→C[i * 2+1]? = some x→C[j * 2+1]? = some y→x.ownBlock=some h→y.ownBlock ≠ some h)
def RowBatch (w:World) (B:Nat) (v:Value) (bs:List BatchD):Prop:=(v=.slice none 0 0∧bs=[]) ∨
 ∃ (g cap:Nat) (C:Array Value),v=.slice (some ⟨g,0,none⟩) bs.length cap∧B≤g∧w.heap[g]? = some (.cells C 87 (0,0))∧bs.length * 2≤C.size∧KidsIn w B g C bs
theorem kidsIn_keep {w w':World} {B g:Nat} {C:Array Value} {bs:List BatchD} (h:KidsIn w B g C bs) (hk:∀ k,B≤k→k < w.heap.size→w'.heap[k]? = w.heap[k]?):KidsIn w' B g C bs:=by
 refine ⟨fun j hj => ?_,h.2⟩
 obtain ⟨h1,x,h2,h3,h4⟩:=h.1 j hj
 exact ⟨h1,x,h2,rowChange_keep h3 (fun k hk' => hk k (rowChange_lt h3 k hk').1 (rowChange_lt h3 k hk').2),h4⟩
theorem rowBatch_keep {w w':World} {B:Nat} {v:Value} {bs:List BatchD} (h:RowBatch w B v bs) (hk:∀ k,B≤k→k < w.heap.size→w'.heap[k]? = w.heap[k]?):RowBatch w' B v bs:=by
 rcases h with h | ⟨g,cap,C,rfl,hB,hC,hs,hI⟩
 · exact .inl h
 · exact .inr ⟨g,cap,C,rfl,hB,(hk g hB (Array.getElem?_eq_some_iff.1 hC).1).trans hC,hs,kidsIn_keep hI hk⟩
theorem rowBatch_below {w w':World} {B:Nat} {v:Value} {bs:List BatchD} (h:RowBatch w B v bs) (hb:Below w.heap.size w w'):RowBatch w' B v bs :=
 rowBatch_keep h (fun k _ hk => hb.block k hk)
theorem rowBatch_at {w:World} {B:Nat} {v:Value} {bs:List BatchD} (h:RowBatch w B v bs):∃ ao cap,v=.slice ao bs.length cap∧BatchesAt w ao bs:=by
 rcases h with ⟨rfl,rfl⟩ | ⟨g,cap,C,rfl,_,hC,_,hI⟩
 · exact ⟨none,0,rfl,fun j hj => absurd hj (by simp)⟩
 ·
  refine ⟨_,cap,rfl,fun j hj => ⟨g,0,rfl,(Array.getElem?_eq_some_iff.1 hC).1,?_,?_⟩⟩
  ·
   rw [Nat.zero_add]
   exact (cell_of_row w g (j * 2) _ _ (0,0) hC).trans (hI.1 j hj).1
  ·
   obtain ⟨-,x,h2,h3,-⟩:=hI.1 j hj
   obtain ⟨a,c,rfl,h5⟩:=rowChange_at h3
   refine ⟨a,c,?_,h5⟩
   rw [Nat.zero_add]
   exact (cell_of_row w g (j * 2+1) _ _ (0,0) hC).trans h2
theorem rowBatch_rows {w:World} {B n c:Nat} {a:Option Addr} {bs:List BatchD} (h:RowBatch w B (.slice a n c) bs):n=bs.length∧BatchesAt w a bs:=by
 obtain ⟨ao,cap,e,hf⟩:=rowBatch_at h
 cases e
 exact ⟨rfl,hf⟩
theorem rowBatch_le {w:World} {B B':Nat} {v:Value} {bs:List BatchD} (h:RowBatch w B v bs) (hB:B'≤B):RowBatch w B' v bs:=by
 rcases h with h | ⟨g,cap,C,h1,h2,h3,h4,h5⟩
 · exact .inl h
 ·
  refine .inr ⟨g,cap,C,h1,by omega,h3,h4,fun j hj => ?_,h5.2⟩
  obtain ⟨k1,x,k2,k3,k4⟩:=h5.1 j hj
  exact ⟨k1,x,k2,rowChange_le k3 hB,k4⟩
def cellsBatch:List BatchD→List Value→List Value
 | b :: r,x :: s => .int .i64 b.seq :: x :: cellsBatch r s
 | _,_ => []
theorem cellsBatch_append:∀ (a:List BatchD) (s:List Value) (b:BatchD) (x:Value),s.length=a.length→cellsBatch (a ++ [b]) (s ++ [x])=cellsBatch a s ++ [.int .i64 b.seq,x]
 | [],[],_,_,_ => rfl
 | [],_ :: _,_,_,h => absurd h (by simp)
 | _ :: _,[],_,_,h => absurd h (by simp)
 | A :: r,y :: s,b,x,h => by simp only [List.cons_append,cellsBatch];rw [cellsBatch_append r s b x (by simpa using h)]
theorem cellsBatch_get:∀ (a:List BatchD) (s:List Value) (j:Nat) (b:BatchD) (x:Value),a[j]? = some b→s[j]? = some x→(cellsBatch a s)[j * 2]? = some (.int .i64 b.seq)∧(cellsBatch a s)[j * 2+1]? = some x
 | [],_,_,_,_,h,_ => absurd h (by simp)
 | _ :: _,[],_,_,_,_,h => absurd h (by simp)
 | A :: r,y :: s,0,b,x,h,h' => by simp at h h';subst h h';simp [cellsBatch]
 | A :: r,y :: s,j+1,b,x,h,h' => by
  have:=cellsBatch_get r s j b x (by simpa using h) (by simpa using h')
  have e:(j+1) * 2=j * 2+2:=by omega
  simp only [cellsBatch,e]
  simpa using this
def BuildB (w:World) (B:Nat) (v:Value) (bs:List BatchD):Prop :=
 ∃ vs:List Value,vs.length=bs.length∧w.ownsRow B 87 2 v bs.length (cellsBatch bs vs)∧(∀ (j:Nat) (x:Value) (b:BatchD),vs[j]? = some x→bs[j]? = some b→RowChange w B x b.chs) ∧
  (∀ (i j:Nat) (x y:Value) (h:Nat),i ≠ j→vs[i]? = some x→vs[j]? = some y→x.ownBlock=some h→y.ownBlock ≠ some h)
theorem buildB_nil (w:World) (B:Nat):BuildB w B (.slice none 0 0) []:=⟨[],rfl,World.ownsRow_nil _ _ _ _,fun j x b h => by simp at h,fun i j x y h _ hx => by simp at hx⟩
theorem buildB_lit (w:World) (B:Nat) (hB:B≤w.heap.size) (t:TypeId) (ht:t=87):BuildB (w.alloc (.cells #[] t)) B (.slice (some ⟨w.heap.size,0,none⟩) 0 0) []:=by
 subst ht
 exact ⟨[],rfl,ownsRow_mono (World.ownsRow_lit w #[] 0 (Nat.le_refl _) (by unfold maxLen;omega) (by simp)) hB,fun j x b h => by simp at h,fun i j x y h _ hx => by simp at hx⟩
theorem owns_block {w:World} {B:Nat} {e:TypeId} {s:Nat} {v:Value} {n:Nat} {xs:List Value} (h:w.ownsRow B e s v n xs) {g:Nat} (hg:v.ownBlock=some g):∃ C,w.heap[g]? = some (.cells C e (0,0)):=by
 rcases h.2 with ⟨rfl,_⟩ | ⟨g',cap,cur,rfl,_,hC,_⟩
 · cases hg
 ·
  obtain rfl:g' = g:=by simpa [Value.ownBlock] using hg
  exact ⟨cur,hC⟩
theorem change_block {w:World} {B:Nat} {x:Value} {fs:List ChangeD} (h:RowChange w B x fs) {g:Nat} (hg:x.ownBlock=some g):∃ C,w.heap[g]? = some (.cells C 145 (0,0)):=by
 rcases h with ⟨rfl,rfl⟩ | ⟨g',cap,C,rfl,_,hC,_⟩
 · cases hg
 ·
  obtain rfl:g' = g:=by simpa [Value.ownBlock] using hg
  exact ⟨C,hC⟩
theorem kid_apart {w:World} {B B':Nat} {v x:Value} {n s:Nat} {xs:List Value} {fs:List ChangeD} (h:w.ownsRow B 87 s v n xs) (hx:RowChange w B' x fs) {g:Nat} (hg:x.ownBlock=some g):v.ownBlock ≠ some g:=by
 intro e
 obtain ⟨C,h1⟩:=owns_block h e
 obtain ⟨C',h2⟩:=change_block hx hg
 rw [h1] at h2
 simp at h2
theorem buildB_below {w w':World} {B:Nat} {v:Value} {bs:List BatchD} (h:BuildB w B v bs) (hb:Below w.heap.size w w'):BuildB w' B v bs:=by
 obtain ⟨vs,h1,h2,h3,h4⟩:=h
 exact ⟨vs,h1,ownsRow_below h2 hb,fun j x b hx hj => rowChange_below (h3 j x b hx hj) hb,h4⟩
theorem buildB_row {w:World} {B:Nat} {v:Value} {bs:List BatchD} (h:BuildB w B v bs):RowBatch w B v bs:=by
 obtain ⟨vs,h1,h2,h3,h4⟩:=h
 rcases h2.2 with ⟨rfl,hn⟩ | ⟨g,cap,cur,rfl,hB,hC,hle,_,hs,ht⟩
 · exact .inl ⟨rfl,List.eq_nil_of_length_eq_zero hn⟩
 ·
  have hget:∀ j (hj:j < bs.length),∃ x,vs[j]? = some x∧cur[j * 2]? = some (.int .i64 bs[j].seq)∧cur[j * 2+1]? = some x:=by
   intro j hj
   obtain ⟨x,hx⟩:∃ x,vs[j]? = some x:=⟨vs[j]'(by omega),List.getElem?_eq_getElem (by omega)⟩
   obtain ⟨k1,k2⟩:=cellsBatch_get bs vs j bs[j] x (List.getElem?_eq_getElem hj) hx
   exact ⟨x,hx,take_getChange ht (by omega) k1,take_getChange ht (by omega) k2⟩
  refine .inr ⟨g,cap,cur,rfl,hB,hC,by omega,fun j hj => ?_,?_⟩
  ·
   obtain ⟨x,hx,k1,k2⟩:=hget j hj
   refine ⟨k1,x,k2,h3 j x _ hx (List.getElem?_eq_getElem hj),fun e => ?_⟩
   exact kid_apart h2 (h3 j x _ hx (List.getElem?_eq_getElem hj)) e rfl
  ·
   intro i j x y h hij hi hj hx hy e
   obtain ⟨x',hx',-,k2⟩:=hget i hi
   obtain ⟨y',hy',-,k2'⟩:=hget j hj
   rw [k2] at hx
   rw [k2'] at hy
   obtain rfl:=Option.some.inj hx
   obtain rfl:=Option.some.inj hy
   exact h4 i j x' y' h hij hx' hy' e
theorem buildB_put {W w':World} {B:Nat} {v v' x:Value} {bs:List BatchD} {b:BatchD} (hx:RowChange W B x b.chs)
  (vs:List Value) (h1:vs.length=bs.length) (h3:∀ (j:Nat) (y:Value) (c:BatchD),vs[j]? = some y→bs[j]? = some c→RowChange W B y c.chs) (h4:∀ (i j:Nat) (y z:Value) (h:Nat),i ≠ j→vs[i]? = some y→vs[j]? = some z→y.ownBlock=some h→z.ownBlock ≠ some h)
  (hnew:∀ g,x.ownBlock=some g→∀ y ∈ vs,y.ownBlock ≠ some g)
  (hown':w'.ownsRow B 87 2 v' (bs ++ [b]).length (cellsBatch bs vs ++ [.int .i64 b.seq,x])) (hkeep:∀ k,v.ownBlock ≠ some k→k < W.heap.size→w'.heap[k]? = W.heap[k]?)
  (hown:W.ownsRow B 87 2 v bs.length (cellsBatch bs vs)):BuildB w' B v' (bs ++ [b]):=by
 have keep:∀ y (fs:List ChangeD),RowChange W B y fs→RowChange w' B y fs:=fun y fs hy => rowChange_keep hy (fun g hg => hkeep g (kid_apart hown hy hg) (rowChange_lt hy g hg).2)
 refine ⟨vs ++ [x],by simp [h1],by rw [cellsBatch_append bs vs b x h1];exact hown',?_,?_⟩
 ·
  intro j y c hy hc
  by_cases hj:j < bs.length
  ·
   rw [List.getElem?_append_left (by omega)] at hy
   rw [List.getElem?_append_left hj] at hc
   exact keep _ _ (h3 j y c hy hc)
  ·
   have hlt:j < (bs ++ [b]).length:=(List.getElem?_eq_some_iff.1 hc).1
   have hje:j=bs.length:=by simp at hlt;omega
   subst hje
   rw [List.getElem?_append_right (by omega)] at hy
   rw [List.getElem?_append_right (Nat.le_refl _)] at hc
   simp [h1] at hy hc
   subst hy hc
   exact keep _ _ hx
 ·
  intro i j y z g hij hy hz hg e
  by_cases hi:i < vs.length
  ·
   rw [List.getElem?_append_left hi] at hy
   by_cases hj:j < vs.length
   ·
    rw [List.getElem?_append_left hj] at hz
    exact h4 i j y z g hij hy hz hg e
   ·
    rw [List.getElem?_append_right (by omega)] at hz
    have hz':=List.mem_of_getElem? hz
    obtain rfl:z=x:=by simpa using hz'
    exact hnew g e y (List.mem_of_getElem? hy) hg
  ·
   rw [List.getElem?_append_right (by omega)] at hy
   have hy':=List.mem_of_getElem? hy
   obtain rfl:y=x:=by simpa using hy'
   by_cases hj:j < vs.length
   ·
    rw [List.getElem?_append_left hj] at hz
    exact hnew g hg z (List.mem_of_getElem? hz) e
   ·
    have hi1:i < (vs ++ [y]).length:=by
     rcases Nat.lt_or_ge i (vs ++ [y]).length with h' | h'
     · exact h'
     · rw [List.getElem?_eq_none (by simp at h' ⊢;omega)] at hy;simp at hy
    have hj1:j < (vs ++ [y]).length:=by
     rcases Nat.lt_or_ge j (vs ++ [y]).length with h' | h'
     · exact h'
     · rw [List.getElem?_eq_none (by simpa using h')] at hz;simp at hz
    simp at hi1 hj1
    omega
theorem rowChange_one {w:World} {B:Nat} {x:Value} {fs:List ChangeD} (h:RowChange w B x fs):x.oneCell' = true:=by
 obtain ⟨a,c,rfl,-⟩:=rowChange_at h
 rfl
theorem two_one {w:World} {B:Nat} {x:Value} {fs:List ChangeD} (h:RowChange w B x fs) (q:Int):∀ u ∈ [.int .i64 q,x],Value.oneCell' u=true:=by
 intro u hu
 simp only [List.mem_cons,List.not_mem_nil,or_false] at hu
 rcases hu with rfl | rfl
 · rfl
 · exact rowChange_one h
theorem buildB_after {W0 W w':World} {B:Nat} {v x v':Value} {bs:List BatchD} {b:BatchD} {vs:List Value} (hBs:B≤W0.heap.size) (hb:Below W0.heap.size W0 W)
  (h1:vs.length=bs.length) (h2:W0.ownsRow B 87 2 v bs.length (cellsBatch bs vs)) (h3:∀ (j:Nat) (x:Value) (b:BatchD),vs[j]? = some x→bs[j]? = some b→RowChange W0 B x b.chs)
  (h4:∀ (i j:Nat) (x y:Value) (h:Nat),i ≠ j→vs[i]? = some x→vs[j]? = some y→x.ownBlock=some h→y.ownBlock ≠ some h)
  (hx:RowChange W W0.heap.size x b.chs) (hown':w'.ownsRow B 87 2 v' (bs ++ [b]).length (cellsBatch bs vs ++ [.int .i64 b.seq,x])) (hgrow:W.grownBy w' v.ownBlock):BuildB w' B v' (bs ++ [b]):=by
 refine buildB_put (W:=W) (v:=v) (rowChange_le hx hBs) vs h1 (fun j y c hy hc => rowChange_below (h3 j y c hy hc) hb) h4 ?_ hown' (fun k hk hlt => hgrow.block k hlt (fun e => hk e.symm)) (ownsRow_below h2 hb)
 intro g hg y hy e
 obtain ⟨j,hj,hjy⟩:=List.getElem_of_mem hy
 have k1:=h3 j y _ (by rw [List.getElem?_eq_getElem hj,hjy]) (List.getElem?_eq_getElem (by omega))
 have:=(rowChange_lt k1 g e).2
 have:=(rowChange_lt hx g hg).1
 omega
theorem app_batch {ops:Array Oper} {rest:List Oper} {o:Oper} {a:Act} {Q:Exit→Act→World→Prop} (W0 W:World) (B:Nat) (hgd:o.guard=none) (s y:Operand)
  (ho:o.op=.call { callee:=.builtin .append,args:=#[s,y],argTypes:=#[80,80] }) (v x:Value) (bs:List BatchD) (b:BatchD) (hs:a.eval s=v)
  (hbuild:BuildB W0 B v bs) (hBs:B≤W0.heap.size) (hb:Below W0.heap.size W0 W) (hx:RowChange W W0.heap.size x b.chs) (k:Nat) (hy:a.eval y=.slice (some ⟨k,0,none⟩) 1 1) (hblk:W.heap[k]? = some (.cells #[.int .i64 b.seq,x] 87 (0,0)))
  (hlen:bs.length≤1048576)
  (h:∀ g cap w',BuildB w' B (.slice (some ⟨g,0,none⟩) (bs.length+1) cap) (bs ++ [b])→Below B W w'→W.grownBy w' v.ownBlock→wpList Tryz.prog ops Q rest (a.put o.dst (.slice (some ⟨g,0,none⟩) (bs.length+1) cap)) w') :
  wpList Tryz.prog ops Q (o :: rest) a W:=by
 obtain ⟨i0,hi,hz0,hz1,hz2⟩:=info_parts Tryz.infoBatch
 obtain ⟨vs,h1,h2,h3,h4⟩:=hbuild
 have hown:=ownsRow_below h2 hb
 refine wpList_append_lies W hgd s y 80 ho B 87 i0 (.agg #[.int .i64 0,.slice none 0 0]) 2 32 Tryz.underlying80 hi hz0 hz1 hz2 rfl (by decide) v bs.length (cellsBatch bs vs) hs hown ⟨k,0,none⟩ 1 1 [.int .i64 b.seq,x] hy rfl
  (fun j u hj => World.news_of_block hblk j u hj) (two_one hx _) (by omega) (by unfold maxLen;omega) (by omega) (Nat.le_trans hBs hb.size) W.heap.size rfl ?_
 intro g cap w' hown' hgrow hg hgl
 refine h g cap w' (buildB_after hBs hb h1 h2 h3 h4 hx (by rw [List.length_append];exact hown') hgrow) ((Below.refl B W).grown hgrow (Nat.le_trans hBs hb.size) (fun k hk => (hown.lt k hk).1)) hgrow
theorem row_apart {W w':World} {B B':Nat} {e:TypeId} {sz n:Nat} {v x:Value} {xs:List Value} {bs:List BatchD} (h:W.ownsRow B' e sz x n xs) (he:e ≠ 87) (hb:BuildB W B v bs) (hg:W.grownBy w' v.ownBlock):w'.ownsRow B' e sz x n xs:=by
 refine h.kept hg ?_
 cases hx:x.ownBlock with
 | none => exact .inl rfl
 | some g =>
  refine .inr (fun e2 => ?_)
  obtain ⟨vs,-,h2,-⟩:=hb
  obtain ⟨C,h3⟩:=owns_block h hx
  obtain ⟨C',h4⟩:=owns_block h2 e2.symm
  rw [h3] at h4
  simp at h4
  exact he h4.2
theorem Tryz.info3:(Tryz.prog.info? 3).map (fun i => (i.zero,i.size,i.bytes))=some (some (.int .i64 0),1,8):=by kernel_rfl
def iv (n:Nat):Value:=.int .i64 (n:Int)
theorem app_int {ops:Array Oper} {rest:List Oper} {o:Oper} {a:Act} {Q:Exit→Act→World→Prop} {x:Nat} (wr:World) (w:World) (B:Nat) (hgd:o.guard=none) (s y:Operand)
  (ho:o.op=.call { callee:=.builtin .append,args:=#[s,y],argTypes:=#[73,73] }) (v:Value) (l:List Nat) (hs:a.eval s=v)
  (hown:wr.ownsRow B 3 1 v l.length (l.map iv)) (hx:a.eval y=.slice (some ⟨wr.heap.size,0,none⟩) 1 1)
  (hlen:l.length≤1000000) (hbel:Below B w wr) (hbase:B≤wr.heap.size)
  (h:∀ v' w',w'.ownsRow B 3 1 v' (l ++ [x]).length ((l ++ [x]).map iv)→Below B w w'→wr.heap.size≤w'.heap.size→wpList Tryz.prog ops Q rest (a.put o.dst v') w') :
  wpList Tryz.prog ops Q (o :: rest) a (wr.alloc (.cells #[.int .i64 (x:Int)] 3)):=by
 obtain ⟨i0,hi,hz0,hz1,hz2⟩:=info_parts Tryz.info3
 have hsz:wr.heap.size≤(wr.alloc (.cells #[.int .i64 (x:Int)] 3)).heap.size:=by simp
 refine wpList_append_own _ hgd s y 73 ho B 3 i0 (.int .i64 0) 1 8 Tryz.underlying73 hi hz0 hz1 hz2 rfl (by decide) v l.length (l.map iv) hs (hown.alloc _) ⟨wr.heap.size,0,none⟩ 1 1 [iv x] hx rfl
  (fun j u hj => cells_new wr #[.int .i64 (x:Int)] 3 j u hj) (by intro u hu;simp at hu;subst hu;rfl) (by unfold maxLen;omega) (by omega) (by omega) ?_
 intro v' w' hown' hgrow _
 have hlt:=hown.lt
 have hb1:Below B w (wr.alloc (.cells #[.int .i64 (x:Int)] 3)):=hbel.alloc hbase _
 refine h v' w' ?_ (hb1.grown hgrow (by omega) (fun k hk => (hlt k hk).1)) (Nat.le_trans hsz hgrow.size)
 rw [List.length_append,List.map_append]
 exact hown'
theorem Tryz.infoSeg:(Tryz.prog.info? 158).map (fun i => (i.zero,i.size,i.bytes))=some (some (.agg #[.int .i64 0,.int .i64 0,.slice none 0 0,.slice none 0 0,.int .i64 0,.bool false,.bool false]),7,80):=by kernel_rfl
theorem rowBatch_far {w w':World} {B:Nat} {v:Value} {bs:List BatchD} {r:Option Nat} (h:RowBatch w B v bs) (hg:w.grownBy w' r) (hr:∀ g,r=some g→∃ C t,w.heap[g]? = some (.cells C t (0,0))∧t ≠ 87∧t ≠ 145):RowBatch w' B v bs:=by
 rcases h with h | ⟨g,cap,C,rfl,hB,hC,hs,hI⟩
 · exact .inl h
 ·
  refine .inr ⟨g,cap,C,rfl,hB,(hg.block g (Array.getElem?_eq_some_iff.1 hC).1 (fun e => ?_)).trans hC,hs,fun j hj => ?_,hI.2⟩
  ·
   obtain ⟨C',t,h1,h2,h3⟩:=hr g e.symm
   rw [hC] at h1
   cases h1
   exact h2 rfl
  ·
   obtain ⟨k1,x,k2,k3,k4⟩:=hI.1 j hj
   refine ⟨k1,x,k2,rowChange_grown k3 hg (fun k hk e => ?_),k4⟩
   obtain ⟨C1,h0⟩:=change_block k3 hk
   obtain ⟨C',t,h1,h2,h3⟩:=hr k e.symm
   rw [h0] at h1
   cases h1
   exact h3 rfl
def RowNat (w:World) (B:Nat) (v:Value) (l:List Nat):Prop:=w.ownsRow B 3 1 v l.length (l.map iv)
theorem rowNat_below {w w':World} {B:Nat} {v:Value} {l:List Nat} (h:RowNat w B v l) (hb:Below w.heap.size w w'):RowNat w' B v l:=ownsRow_below h hb
theorem rowNat_le {w:World} {B B':Nat} {v:Value} {l:List Nat} (h:RowNat w B v l) (hB:B'≤B):RowNat w B' v l:=ownsRow_mono h hB
theorem rowNat_nil (w:World) (B:Nat):RowNat w B (.slice none 0 0) []:=World.ownsRow_nil _ _ _ _
theorem rowNat_form {w:World} {B:Nat} {v:Value} {l:List Nat} (h:RowNat w B v l):∃ ao cap,v=.slice ao l.length cap:=slice_form h
theorem rowNat_far {w w':World} {B:Nat} {v:Value} {l:List Nat} {r:Option Nat} (h:RowNat w B v l) (hg:w.grownBy w' r) (hr:∀ g,r=some g→∃ C t,w.heap[g]? = some (.cells C t (0,0))∧t ≠ 3):RowNat w' B v l:=by
 refine World.ownsRow.kept h hg ?_
 cases hv:v.ownBlock with
 | none => exact .inl rfl
 | some g =>
  refine .inr (fun e => ?_)
  obtain ⟨C,hC⟩:=owns_block h hv
  obtain ⟨C',t,h1,h2⟩:=hr g e.symm
  rw [hC] at h1
  cases h1
  exact h2 rfl
theorem rowNat_at {w:World} {B n cap:Nat} {ao:Option Addr} {l:List Nat} (h:RowNat w B (.slice ao n cap) l) (j:Nat) (hj:j < l.length):∃ g,ao=some ⟨g,0,none⟩∧g < w.heap.size∧w.cell? ⟨g,j,none⟩=some (.int .i64 (l[j]:Int)):=by
 rcases h.2 with ⟨_,hn⟩ | ⟨g,cap',cur,hv,hB,hC,hle,_,hs,ht⟩
 · omega
 ·
  cases hv
  refine ⟨g,rfl,(Array.getElem?_eq_some_iff.1 hC).1,?_⟩
  exact (cell_of_row w g j _ _ (0,0) hC).trans (take_getChange ht (by omega) (by simp [iv,hj]))
def cellsSeg:List SegD→List Value→List Value→List Value
 | s :: r,x :: y,p :: q => .int .i64 (s.num:Int) :: .int .i64 (s.frm:Int) :: x :: p :: .int .i64 (s.fin:Int) :: .bool s.right :: .bool s.torn :: cellsSeg r y q
 | _,_,_ => []
theorem cellsSeg_append:∀ (a:List SegD) (y q:List Value) (s:SegD) (x p:Value),y.length=a.length→q.length=a.length→cellsSeg (a ++ [s]) (y ++ [x]) (q ++ [p])=cellsSeg a y q ++ [.int .i64 (s.num:Int),.int .i64 (s.frm:Int),x,p,.int .i64 (s.fin:Int),.bool s.right,.bool s.torn]
 | [],[],[],_,_,_,_,_ => rfl
 | [],_ :: _,_,_,_,_,h,_ => absurd h (by simp)
 | [],[],_ :: _,_,_,_,_,h => absurd h (by simp)
 | _ :: _,[],_,_,_,_,h,_ => absurd h (by simp)
 | _ :: _,_ :: _,[],_,_,_,_,h => absurd h (by simp)
 | A :: r,z :: y,u :: q,s,x,p,h,h' => by simp only [List.cons_append,cellsSeg];rw [cellsSeg_append r y q s x p (by simpa using h) (by simpa using h')]
theorem cellsSeg_get:∀ (a:List SegD) (y q:List Value) (j:Nat) (s:SegD) (x p:Value),a[j]? = some s→y[j]? = some x→q[j]? = some p→(cellsSeg a y q)[j * 7]? = some (.int .i64 (s.num:Int))∧(cellsSeg a y q)[j * 7+1]? = some (.int .i64 (s.frm:Int))∧(cellsSeg a y q)[j * 7+2]? = some x ∧
  (cellsSeg a y q)[j * 7+3]? = some p∧(cellsSeg a y q)[j * 7+4]? = some (.int .i64 (s.fin:Int))∧(cellsSeg a y q)[j * 7+5]? = some (.bool s.right)∧(cellsSeg a y q)[j * 7+6]? = some (.bool s.torn)
 | [],_,_,_,_,_,_,h,_,_ => absurd h (by simp)
 | _ :: _,[],_,_,_,_,_,_,h,_ => absurd h (by simp)
 | _ :: _,_ :: _,[],_,_,_,_,_,_,h => absurd h (by simp)
 | A :: r,z :: y,u :: q,0,s,x,p,h,h',h2 => by simp at h h' h2;subst h h' h2;simp [cellsSeg]
 | A :: r,z :: y,u :: q,j+1,s,x,p,h,h',h2 => by
  have:=cellsSeg_get r y q j s x p (by simpa using h) (by simpa using h') (by simpa using h2)
  have e:(j+1) * 7=j * 7+7:=by omega
  simp only [cellsSeg,e]
  simpa using this
def BuildG (w:World) (B K:Nat) (v:Value) (l:List SegD):Prop :=
 ∃ vs ps:List Value,vs.length=l.length∧ps.length=l.length∧w.ownsRow B 158 7 v l.length (cellsSeg l vs ps)∧(∀ (j:Nat) (x:Value) (s:SegD),vs[j]? = some x→l[j]? = some s→RowBatch w K x s.bs) ∧
  (∀ (j:Nat) (x:Value) (s:SegD),ps[j]? = some x→l[j]? = some s→RowNat w K x s.pls)
theorem buildG_nil (w:World) (B K:Nat):BuildG w B K (.slice none 0 0) []:=⟨[],[],rfl,rfl,World.ownsRow_nil _ _ _ _,fun j x b h => by simp at h,fun j x b h => by simp at h⟩
theorem buildG_below {w w':World} {B K:Nat} {v:Value} {l:List SegD} (h:BuildG w B K v l) (hb:Below w.heap.size w w'):BuildG w' B K v l:=by
 obtain ⟨vs,ps,h0,h1,h2,h3,h4⟩:=h
 exact ⟨vs,ps,h0,h1,ownsRow_below h2 hb,fun j x b hx hj => rowBatch_below (h3 j x b hx hj) hb,fun j x b hx hj => rowNat_below (h4 j x b hx hj) hb⟩
theorem buildG_mono {w:World} {B B' K K':Nat} {v:Value} {l:List SegD} (h:BuildG w B K v l) (hB:B'≤B) (hK:K'≤K):BuildG w B' K' v l:=by
 obtain ⟨vs,ps,h0,h1,h2,h3,h4⟩:=h
 exact ⟨vs,ps,h0,h1,ownsRow_mono h2 hB,fun j x b hx hj => rowBatch_le (h3 j x b hx hj) hK,fun j x b hx hj => rowNat_le (h4 j x b hx hj) hK⟩
theorem buildG_form {w:World} {B K:Nat} {v:Value} {l:List SegD} (h:BuildG w B K v l):∃ ao cap,v=.slice ao l.length cap:=by
 obtain ⟨vs,ps,-,-,h2,-⟩:=h
 exact slice_form h2
theorem buildG_at {w:World} {B K cap n:Nat} {ao:Option Addr} {l:List SegD} (h:BuildG w B K (.slice ao n cap) l) (j:Nat) (hj:j < l.length):∃ g,ao=some ⟨g,0,none⟩∧g < w.heap.size ∧
  w.cell? ⟨g,j * 7,none⟩=some (.int .i64 (l[j].num:Int))∧w.cell? ⟨g,j * 7+1,none⟩=some (.int .i64 (l[j].frm:Int))∧(∃ a c,w.cell? ⟨g,j * 7+2,none⟩=some (.slice a l[j].bs.length c)∧RowBatch w K (.slice a l[j].bs.length c) l[j].bs) ∧
  (∃ a c,w.cell? ⟨g,j * 7+3,none⟩=some (.slice a l[j].pls.length c)∧RowNat w K (.slice a l[j].pls.length c) l[j].pls)∧w.cell? ⟨g,j * 7+4,none⟩=some (.int .i64 (l[j].fin:Int))∧w.cell? ⟨g,j * 7+5,none⟩=some (.bool l[j].right)∧w.cell? ⟨g,j * 7+6,none⟩=some (.bool l[j].torn):=by
 obtain ⟨vs,ps,h0,h1,h2,h3,h4⟩:=h
 rcases h2.2 with ⟨_,hn⟩ | ⟨g,cap',cur,hv,hB,hC,hle,_,hs,ht⟩
 · omega
 ·
  cases hv
  obtain ⟨x,hx⟩:∃ x,vs[j]? = some x:=⟨vs[j]'(by omega),List.getElem?_eq_getElem (by omega)⟩
  obtain ⟨p,hp⟩:∃ x,ps[j]? = some x:=⟨ps[j]'(by omega),List.getElem?_eq_getElem (by omega)⟩
  obtain ⟨k1,k2,k3,k4,k5,k6,k7⟩:=cellsSeg_get l vs ps j l[j] x p (List.getElem?_eq_getElem hj) hx hp
  have hr:=h3 j x l[j] hx (List.getElem?_eq_getElem hj)
  have hq:=h4 j p l[j] hp (List.getElem?_eq_getElem hj)
  obtain ⟨a,c,rfl,-⟩:=rowBatch_at hr
  obtain ⟨a',c',rfl⟩:=rowNat_form hq
  refine ⟨g,rfl,(Array.getElem?_eq_some_iff.1 hC).1,?_,?_,⟨a,c,?_,hr⟩,⟨a',c',?_,hq⟩,?_,?_,?_⟩
  · exact (cell_of_row w g (j * 7) _ _ (0,0) hC).trans (take_getChange ht (by omega) k1)
  · exact (cell_of_row w g (j * 7+1) _ _ (0,0) hC).trans (take_getChange ht (by omega) k2)
  · exact (cell_of_row w g (j * 7+2) _ _ (0,0) hC).trans (take_getChange ht (by omega) k3)
  · exact (cell_of_row w g (j * 7+3) _ _ (0,0) hC).trans (take_getChange ht (by omega) k4)
  · exact (cell_of_row w g (j * 7+4) _ _ (0,0) hC).trans (take_getChange ht (by omega) k5)
  · exact (cell_of_row w g (j * 7+5) _ _ (0,0) hC).trans (take_getChange ht (by omega) k6)
  · exact (cell_of_row w g (j * 7+6) _ _ (0,0) hC).trans (take_getChange ht (by omega) k7)
theorem seg_one {w:World} {B:Nat} {x y:Value} {bs:List BatchD} {ps:List Nat} (h:RowBatch w B x bs) (h2:RowNat w B y ps) (p q r:Int) (b b':Bool):∀ u ∈ [.int .i64 p,.int .i64 q,x,y,.int .i64 r,.bool b,.bool b'],Value.oneCell' u=true:=by
 obtain ⟨a,c,rfl,-⟩:=rowBatch_at h
 obtain ⟨a,c,rfl⟩:=rowNat_form h2
 intro u hu
 simp only [List.mem_cons,List.not_mem_nil,or_false] at hu
 rcases hu with rfl | rfl | rfl | rfl | rfl | rfl | rfl <;> rfl
theorem app_seg {ops:Array Oper} {rest:List Oper} {o:Oper} {a:Act} {Q:Exit→Act→World→Prop} (W:World) (B K:Nat) (hgd:o.guard=none) (s y:Operand)
  (ho:o.op=.call { callee:=.builtin .append,args:=#[s,y],argTypes:=#[117,117] }) (v x p:Value) (l:List SegD) (b:SegD) (hs:a.eval s=v)
  (hbuild:BuildG W B K v l) (hB:B≤W.heap.size) (hx:RowBatch W K x b.bs) (hp:RowNat W K p b.pls) (k:Nat) (hy:a.eval y=.slice (some ⟨k,0,none⟩) 1 1) (hblk:W.heap[k]? = some (.cells #[.int .i64 (b.num:Int),.int .i64 (b.frm:Int),x,p,.int .i64 (b.fin:Int),.bool b.right,.bool b.torn] 158 (0,0)))
  (hlen:l.length≤1048576)
  (h:∀ g cap w',BuildG w' B K (.slice (some ⟨g,0,none⟩) (l.length+1) cap) (l ++ [b])→Below B W w'→W.grownBy w' v.ownBlock→wpList Tryz.prog ops Q rest (a.put o.dst (.slice (some ⟨g,0,none⟩) (l.length+1) cap)) w') :
  wpList Tryz.prog ops Q (o :: rest) a W:=by
 obtain ⟨i0,hi,hz0,hz1,hz2⟩:=info_parts Tryz.infoSeg
 obtain ⟨vs,ps,h0,h1,h2,h3,h4⟩:=hbuild
 refine wpList_append_lies W hgd s y 117 ho B 158 i0 (.agg #[.int .i64 0,.int .i64 0,.slice none 0 0,.slice none 0 0,.int .i64 0,.bool false,.bool false]) 7 80 Tryz.underlying117 hi hz0 hz1 hz2 rfl (by decide) v l.length (cellsSeg l vs ps) hs h2 ⟨k,0,none⟩ 1 1 [.int .i64 (b.num:Int),.int .i64 (b.frm:Int),x,p,.int .i64 (b.fin:Int),.bool b.right,.bool b.torn] hy rfl
  (fun j u hj => World.news_of_block hblk j u hj) (seg_one hx hp _ _ _ _ _) (by omega) (by unfold maxLen;omega) (by omega) hB W.heap.size rfl ?_
 intro g cap w' hown' hgrow hg hgl
 have far:∀ g,v.ownBlock=some g→∃ C t,W.heap[g]? = some (.cells C t (0,0))∧t ≠ 87∧t ≠ 145:=fun g hg => by
  obtain ⟨C,hC⟩:=owns_block h2 hg
  exact ⟨C,_,hC,by decide,by decide⟩
 have farN:∀ g,v.ownBlock=some g→∃ C t,W.heap[g]? = some (.cells C t (0,0))∧t ≠ 3:=fun g hg => by
  obtain ⟨C,hC⟩:=owns_block h2 hg
  exact ⟨C,_,hC,by decide⟩
 refine h g cap w' ⟨vs ++ [x],ps ++ [p],by simp [h0],by simp [h1],?_,?_,?_⟩ ((Below.refl B W).grown hgrow hB (fun k hk => (h2.lt k hk).1)) hgrow
 ·
  rw [cellsSeg_append l vs ps b x p h0 h1,List.length_append]
  exact hown'
 ·
  intro j z c hz hc
  by_cases hj:j < l.length
  ·
   rw [List.getElem?_append_left (by omega)] at hz
   rw [List.getElem?_append_left hj] at hc
   exact rowBatch_far (h3 j z c hz hc) hgrow far
  ·
   have hlt:j < (l ++ [b]).length:=(List.getElem?_eq_some_iff.1 hc).1
   have hje:j=l.length:=by simp at hlt;omega
   subst hje
   rw [List.getElem?_append_right (by omega)] at hz
   rw [List.getElem?_append_right (Nat.le_refl _)] at hc
   simp [h0] at hz hc
   subst hz hc
   exact rowBatch_far hx hgrow far
 ·
  intro j z c hz hc
  by_cases hj:j < l.length
  ·
   rw [List.getElem?_append_left (by omega)] at hz
   rw [List.getElem?_append_left hj] at hc
   exact rowNat_far (h4 j z c hz hc) hgrow farN
  ·
   have hlt:j < (l ++ [b]).length:=(List.getElem?_eq_some_iff.1 hc).1
   have hje:j=l.length:=by simp at hlt;omega
   subst hje
   rw [List.getElem?_append_right (by omega)] at hz
   rw [List.getElem?_append_right (Nat.le_refl _)] at hc
   simp [h1] at hz hc
   subst hz hc
   exact rowNat_far hp hgrow farN
end Go.Proofs.YtepdckehokdjlaaGreatDoor
