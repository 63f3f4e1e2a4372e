import Derived.Sort.KeysCollected
import Derived.Test.YtepdckehokdjlaaGreatDoorMg11
import Derived.Test.YtepdckehokdjlaaGreatDoorMg27
import Derived.Test.YtepdckehokdjlaaGreatDoorMg24
import Derived.Test.YtepdckehokdjlaaGreatDoorMg10
set_option maxRecDepth 100000
set_option maxHeartbeats 4000000
namespace Go.Proofs.YtepdckehokdjlaaGreatDoor
open Go.RowKit Go.Maps
theorem keys_sorted {w:World} {mb n:Nat} {gs:List SpotD} {D:DataW Unit} (h1:w.ownsMap Tryz.prog 9 spotElem mb n D) (h2:∀ s,has D (kl s)=true ↔ ∃ F ∈ gs,F.key=s) (hs:srtS gs) {ss:List (List UInt8)} (hp:ss.Perm (strKeys D)):ss.mergeSort (fun x y => decide (x≤y))=gs.map (fun F => F.key.data.toList):=by
 have hlt:(gs.map (fun F => F.key.data.toList)).Pairwise (fun a b => Op.bytesLess a b=true):=by
  refine List.pairwise_map.2 (hs.imp fun {a b} h => ?_)
  rw [Lib.toList_data,Lib.toList_data] at h
  exact h
 have hnd:(gs.map (fun F => F.key.data.toList)).Nodup:=hlt.imp fun {a b} h e => by rw [e,less_irrefl] at h;cases h
 have hm:∀ x,x ∈ gs.map (fun F => F.key.data.toList) ↔ has D (.string x)=true:=by
  intro x
  have h3:=h2 ⟨x.toArray⟩
  have e:kl ⟨x.toArray⟩=.string x:=by simp [kl]
  rw [e] at h3
  rw [h3,List.mem_map]
  constructor
  ·
   rintro ⟨F,hF,rfl⟩
   exact ⟨F,hF,by cases F.key;simp⟩
  ·
   rintro ⟨F,hF,e2⟩
   exact ⟨F,hF,by rw [e2]⟩
 have hc:Collected D (fun _ => false) (gs.map (fun F => F.key.data.toList)):=⟨hnd,fun x => by rw [hm x];simp⟩
 have hp2:=hc.perm h1 (string_keyed Tryz.underlying9) Tryz.underlying9 (fun _ => rfl)
 have h1:=mergeSort_of_perm (hp.trans hp2.symm)
 refine h1.trans ?_
 have tr:∀ a b c:List UInt8,leB a b=true→leB b c=true→leB a c=true:=fun a b c h1 h2 => by simp only [leB,decide_eq_true_eq] at *;exact List.le_trans h1 h2
 have tot:∀ a b:List UInt8,(leB a b || leB b a)=true:=fun a b => by simp only [leB,Bool.or_eq_true,decide_eq_true_eq];exact List.le_total a b
 refine List.Perm.eq_of_pairwise (le:=fun a b => leB a b=true) (fun a b _ _ h1 h2 => ?_) (List.pairwise_mergeSort tr tot _) ?_ (List.mergeSort_perm _ leB)
 ·
  simp only [leB,decide_eq_true_eq] at h1 h2
  exact List.le_antisymm h1 h2
 ·
  refine hlt.imp fun {a b} h => ?_
  rw [bytesLess_eq,decide_eq_true_eq] at h
  simp only [leB,decide_eq_true_eq]
  exact List.le_of_lt h
theorem dirKeys_any (mb:Option Nat) (W:World):Calls Tryz.prog 147 #[.map mb] W fun e w' => e=.returned (.func (.func 168) #[] #[.pointer (some ⟨W.heap.size,0,none⟩)])∧w' = W.alloc (.cells #[.map mb] 196) :=
 (callsIn_wide (n:=5)).1 (Tryz.maps_Keys_147 mb W)
theorem dirSorted_any {mb n:Nat} {gs:List SpotD} (w:World) (h:DirM w mb n gs) (hn:n≤1000000) :
  Calls Tryz.prog 102 #[.func (.func 168) #[] #[.pointer (some ⟨w.heap.size,0,none⟩)]] (w.alloc (.cells #[.map (some mb)] 196)) fun e w' => (∃ v:Value,e=.returned v∧w'.ownsRow (w.heap.size+1) 9 1 v gs.length (gs.map (fun F => .string F.key)))∧Below w.heap.size w w':=by
 obtain ⟨D,h1,h2,h3,h4⟩:=h
 have hsz:=h1.size_le
 refine ((callsIn_wide (n:=5)).1 (Tryz.slices_Sorted_keys_102_147 mb n D spotElem w h1 (by unfold maxLen;omega) (by omega))).mono ?_
 rintro e w' ⟨v,ss,rfl,hp,hrow,_,hb⟩
 refine ⟨⟨v,rfl,?_⟩,((Below.refl _ w).alloc (Nat.le_refl _) _).trans (hb.mono (by simp))⟩
 have hnn:=keys_sorted h1 h2 h4 hp
 rw [hnn] at hrow
 have hle:ss.length=gs.length:=by
  have:=congrArg List.length hnn
  rw [List.length_mergeSort,List.length_map] at this
  exact this
 rw [hle,List.map_map] at hrow
 have e1:(w.alloc (.cells #[.map (some mb)] 196)).heap.size=w.heap.size+1:=by simp
 rw [e1] at hrow
 have e2:(encStr ∘ fun F:SpotD => F.key.data.toList)=fun F:SpotD => Value.string F.key:=by
  funext F
  simp [encStr]
 rw [e2] at hrow
 exact hrow
theorem Tryz.zeroSpot (w:World):(zeroValue 106).run Tryz.prog w=.ok (.agg #[.string ⟨#[]⟩,.int .i64 0,.int .i64 0,.int .i64 0]) w:=by
 have hz:Tryz.t106.zero=some (.agg #[.string ⟨#[]⟩,.int .i64 0,.int .i64 0,.int .i64 0]):=by kernel_rfl
 simp [zeroValue,go_sem,hz]
theorem rowStr_at {w:World} {B n cap:Nat} {ao:Option Addr} {gs:List SpotD} (h:w.ownsRow B 9 1 (.slice ao n cap) gs.length (gs.map (fun F => .string F.key))) (j:Nat) (hj:j < gs.length):∃ g,ao=some ⟨g,0,none⟩∧g < w.heap.size∧w.cell? ⟨g,j,none⟩=some (.string gs[j].key):=by
 rcases h.2 with ⟨_,hn⟩ | ⟨g,cap',cur,hv,hB,hC,hle,_,hs,ht⟩
 · omega
 ·
  cases hv
  refine ⟨g,rfl,(Array.getElem?_eq_some_iff.1 hC).1,?_⟩
  exact (cell_of_row w g j _ _ (0,0) hC).trans (take_getSpot ht (by omega) (by simp [hj]))
theorem inOrder_any (gs:List SpotD) (mb n B:Nat) (w:World) (hm:DirM w mb n gs) (hn:n≤1000000) (hk:∀ A ∈ gs,A.key.size≤1048576) (hgl:gs.length≤1000000) (hB:B≤w.heap.size) :
  Calls Tryz.prog 123 #[.map (some mb)] w fun e w' => (∃ v,e=.returned v∧RowSpot w' B v gs)∧Below w.heap.size w w':=by
 have HM:=hide hm
 have HK:=hide hk
 clear hm hk
 go_enter Tryz.func123,Tryz.ntmps123
 go_wp2_with fail
 refine (dirKeys_any _ _).mono ?_
 rintro e w1 ⟨rfl,rfl⟩
 go_wp2_with fail
 refine (dirSorted_any _ HM.out hn).mono ?_
 rintro e w2 ⟨⟨v2,rfl,hrow⟩,b2⟩
 obtain ⟨a2,c2,rfl⟩:=slice_form hrow
 have HR2:=hide hrow
 have B2:=hide b2
 clear hrow b2
 have HM2:=hide (dirM_below HM.out B2.out)
 have hw2:w.heap.size≤w2.heap.size:=B2.out.size
 go_wp2_with fail
 go_loopw [3,10] (fun vo ii wr => ∃ (k:Nat),ii=.int .i64 k∧k≤gs.length∧Hid (wr.ownsRow w2.heap.size 106 4 vo (gs.take k).length (cellsSpot (gs.take k)))∧Hid (Below w2.heap.size w2 wr)) (fun _ ii _ => gs.length - (intOf ii).toNat)
 case atStart => exact ⟨0,rfl,Nat.zero_le _,World.ownsRow_nil _ _ _ _,Below.refl _ _⟩
 case round =>
  obtain ⟨k,rfl,hk,HO,HB⟩:=hrel
  have hws:=HB.out.size
  by_cases hlt:k < gs.length
  ·
   have hlt':decide ((k:Int) < (gs.length:Int))=true:=by simp;omega
   have hi0:(0:Int)≤(k:Int):=by omega
   have hi1:(k:Int) < (gs.length:Int):=by omega
   obtain ⟨g,hg,hgw,hc0⟩:=rowStr_at HR2.out k hlt
   subst hg
   have hd0:=(HB.out.cell (p:=⟨g,k,none⟩) hgw).trans hc0
   clear hc0
   obtain ⟨D,hD1,hD2,hD3,hD4⟩:=dirM_below HM2.out HB.out
   have hks:=HK.out gs[k] (List.getElem_mem hlt)
   obtain ⟨v,ps,hrun,hv⟩:=hD1.lookup (string_keyed Tryz.underlying9) Tryz.underlying196 (Tryz.zeroSpot _) (spotElem_mk ⟨⟨#[]⟩,0,0,0⟩) (Tryz.keyT gs[k].key (by unfold maxLen;omega))
   rw [hD3 gs[k] (List.getElem_mem hlt)] at hv
   obtain rfl:=spotElem_inv hv
   have htk:=hide (List.take_succ_eq_append_getElem hlt)
   clear hv hD1 hD2 hD3 hD4
   generalize gs[k]=F at hd0 hks hrun htk
   have hln:(gs.take k).length≤gs.length:=by rw [List.length_take];omega
   obtain ⟨L,HL⟩:∃ L,Hid (gs.take k=L):=⟨_,hide rfl⟩
   rw [HL.out] at HO htk hln
   go_wp2_with (at_builtin;refine app_spot _ w2.heap.size (by rfl) _ _ (by rfl) _ L F (by rfl) (HO.out.alloc _) wr.heap.size (by rfl) (heap_alloc_new wr _) (by omega) (by simp;omega) ?_;intro g5 cap5 w5 ho5 hb5 hg5 hgl5;have HO5:=hide ho5;have HB5:=hide hb5;clear ho5 hb5 hg5 hgl5)
   go_roundw
   case rel => exact ⟨k+1,by go_num,by omega,by show World.ownsRow _ _ _ _ _ _ _;rw [htk.out];exact HO5.out,(HB.out.alloc (by omega) _).trans HB5.out⟩
   case measure => simp [intOf];omega
  ·
   have hlt':decide ((k:Int) < (gs.length:Int))=false:=by simp;omega
   have hke:k=gs.length:=by omega
   subst hke
   rw [List.take_length] at HO
   go_wp2
   go_ret
   exact ⟨⟨_,rfl,rowSpot_le (rowSpot_own HO.out) (by omega)⟩,B2.out.trans (HB.out.mono hw2)⟩
end Go.Proofs.YtepdckehokdjlaaGreatDoor
namespace Go.Proofs.YtepdckehokdjlaaGreatDoor
open Go.RowKit
theorem blk_below {w w':World} {b:Nat} {O:Obj} (h:w.heap[b]? = some O) (hb:Below w.heap.size w w'):w'.heap[b]? = some O:=(hb.block b (Array.getElem?_eq_some_iff.1 h).1).trans h
theorem blk_grown {w w':World} {b:Nat} {O:Obj} {r:Option Nat} (h:w.heap[b]? = some O) (hg:w.grownBy w' r) (hne:some b ≠ r):w'.heap[b]? = some O:=(hg.block b (Array.getElem?_eq_some_iff.1 h).1 hne).trans h
theorem box_of {w:World} {b:Nat} {v:Value} {t:TypeId} (h:w.heap[b]? = some (.cells #[v] t (0,0))):w.cell? ⟨b,0,none⟩=some v:=(cell_of_row w b 0 _ _ (0,0) h).trans rfl
theorem rowF_files {w:World} {B n c:Nat} {a:Option Addr} {fs:List FileD} (h:RowF w B (.slice a n c) fs):FilesAt w a fs:=by
 obtain ⟨ao,cap,e,hf⟩:=rowF_at h
 cases e
 exact hf
end Go.Proofs.YtepdckehokdjlaaGreatDoor
namespace Go.Proofs.YtepdckehokdjlaaGreatDoor
open Go.RowKit Go.Maps
def ptrElem:Value→Option (DataW Unit × List MemPlace)
 | .pointer (some ⟨p,0,none⟩) => some (.lit (.int .i64 (p:Int)),[])
 | .pointer none => some (.nil,[])
 | _ => none
theorem ptrElem_inv {v:Value} {p:Nat} {ps:List MemPlace} (h:ptrElem v=some (.lit (.int .i64 (p:Int)),ps)):v=.pointer (some ⟨p,0,none⟩):=by
 unfold ptrElem at h
 split at h
 ·
  simp only [Option.some.injEq,Prod.mk.injEq,DataW.lit.injEq,Lit.int.injEq,true_and] at h
  obtain ⟨h1,_⟩:=h
  have:(_:Nat)=p:=Int.ofNat.inj h1
  rw [this]
 · simp at h
 · cases h
def fileObj (F:FileD):Obj:=.cells #[.string F.name,.string F.text,.int .i64 F.kept] 95 (0,0)
def ShelfD (w:World) (B mb:Nat) (gs:List FileD) (D:DataW Unit) (pt:ByteArray→Nat):Prop :=
 w.ownsMap Tryz.prog 9 ptrElem mb (size D) D∧size D=gs.length∧(∀ s,has D (kl s)=true ↔ ∃ F ∈ gs,F.name=s) ∧
 (∀ F ∈ gs,(∀ z,D.atKey (kl F.name) z=.lit (.int .i64 (pt F.name:Int)))∧B≤pt F.name∧pt F.name ≠ mb∧w.heap[pt F.name]? = some (fileObj F)) ∧
 (∀ F ∈ gs,∀ G ∈ gs,pt F.name=pt G.name→F.name=G.name)
def ShelfAt (w:World) (B mb:Nat) (gs:List FileD):Prop:=∃ D pt,ShelfD w B mb gs D pt
theorem ownsMap_tight {w:World} {b n:Nat} {D:DataW Unit} (h:w.ownsMap Tryz.prog 9 ptrElem b n D):w.ownsMap Tryz.prog 9 ptrElem b (size D) D:=by
 obtain ⟨es,clock,hb,F,_,rfl⟩:=h
 exact ⟨es,clock,hb,F,by simp [size,length_sorted],rfl⟩
theorem shelfD_keep {w w':World} {B mb:Nat} {gs:List FileD} {D:DataW Unit} {pt:ByteArray→Nat} {r:Option Nat} (h:ShelfD w B mb gs D pt) (hg:w.grownBy w' r) (hr:∀ k,r=some k→k ≠ mb∧∀ F ∈ gs,pt F.name ≠ k):ShelfD w' B mb gs D pt:=by
 obtain ⟨h1,h2,h3,h4,h5⟩:=h
 refine ⟨h1.kept hg (fun e => (hr mb e.symm).1 rfl),h2,h3,fun F hF => ?_,h5⟩
 obtain ⟨a,b,c,d⟩:=h4 F hF
 exact ⟨a,b,c,blk_grown d hg (fun e => (hr _ e.symm).2 F hF rfl)⟩
theorem shelfD_below {w w':World} {B mb:Nat} {gs:List FileD} {D:DataW Unit} {pt:ByteArray→Nat} (h:ShelfD w B mb gs D pt) (hb:Below w.heap.size w w'):ShelfD w' B mb gs D pt :=
 shelfD_keep h (grownBy_below none hb) (fun k e => by cases e)
theorem put_mem {gs:List FileD} {F G:FileD}:G ∈ putD gs F ↔ G=F ∨ (G ∈ gs∧G.name ≠ F.name):=by
 rw [mem_putD]
 constructor
 ·
  rintro (⟨h1,h2⟩ | h | ⟨h1,h2⟩)
  ·
   refine .inr ⟨h1,fun e => ?_⟩
   rw [lessF,e,less_irrefl] at h2
   cases h2
  · exact .inl h
  ·
   refine .inr ⟨h1,fun e => ?_⟩
   rw [moreF,e] at h2
   simp at h2
 ·
  rintro (h | ⟨h1,h2⟩)
  · exact .inr (.inl h)
  ·
   cases hl:Op.bytesLess G.name.toList F.name.toList
   ·
    refine .inr (.inr ⟨h1,?_⟩)
    rw [moreF,hl,toList_ne.2 h2]
    rfl
   · exact .inl ⟨h1,hl⟩
theorem without_mem {gs:List FileD} {nm:ByteArray} {G:FileD}:G ∈ withoutD gs nm ↔ G ∈ gs∧G.name ≠ nm:=by
 rw [withoutD,List.mem_filter,otherF]
 constructor
 ·
  rintro ⟨h1,h2⟩
  exact ⟨h1,toList_ne.1 (by simpa using h2)⟩
 ·
  rintro ⟨h1,h2⟩
  exact ⟨h1,by rw [toList_ne.2 h2];rfl⟩
theorem shelf_put {w w':World} {B mb p n:Nat} {gs:List FileD} {D:DataW Unit} {pt:ByteArray→Nat} {F:FileD} (h:ShelfD w B mb gs D pt) (hp:w.heap[p]? = some (fileObj F)) (hB:B≤p) (hne:p ≠ mb)
  (hap:∀ G ∈ gs,G.name ≠ F.name→pt G.name ≠ p) (hw:w'.ownsMap Tryz.prog 9 ptrElem mb n (D.put (kl F.name) (.lit (.int .i64 (p:Int))))) (hg:w.grownBy w' (some mb)) (hlen:(putD gs F).length=size (D.put (kl F.name) (.lit (.int .i64 (p:Int))))) :
  ShelfD w' B mb (putD gs F) (D.put (kl F.name) (.lit (.int .i64 (p:Int)))) (fun s => if s=F.name then p else pt s):=by
 obtain ⟨h1,h2,h3,h4,h5⟩:=h
 have hm:=h1.isMap
 refine ⟨ownsMap_tight hw,hlen.symm,fun s => ?_,fun G hG => ?_,fun G hG G' hG' e => ?_⟩
 ·
  by_cases e:s=F.name
  ·
   subst e
   rw [has_put_same hm (kl_key _)]
   simp only [true_iff]
   exact ⟨F,put_mem.2 (.inl rfl),rfl⟩
  ·
   rw [has_put_other (kl_ne e),h3 s]
   constructor
   ·
    rintro ⟨G,hG,rfl⟩
    exact ⟨G,put_mem.2 (.inr ⟨hG,e⟩),rfl⟩
   ·
    rintro ⟨G,hG,rfl⟩
    rcases put_mem.1 hG with rfl | ⟨hG,_⟩
    · exact absurd rfl e
    · exact ⟨G,hG,rfl⟩
 ·
  rcases put_mem.1 hG with rfl | ⟨hG,e⟩
  ·
   refine ⟨fun z => by rw [atKey_put_same hm (kl_key _)];simp,by simp [hB],by simp [hne],?_⟩
   simp only [if_true]
   exact blk_grown hp hg (by simpa using hne)
  ·
   obtain ⟨a,b,c,d⟩:=h4 G hG
   simp only [if_neg e]
   exact ⟨fun z => by rw [atKey_put_other (kl_ne e)];exact a z,b,c,blk_grown d hg (by simpa using c)⟩
 ·
  simp only at e
  rcases put_mem.1 hG with rfl | ⟨hGm,e1⟩ <;> rcases put_mem.1 hG' with rfl | ⟨hGm',e2⟩
  · rfl
  ·
   rw [if_pos rfl,if_neg e2] at e
   exact absurd e.symm (hap G' hGm' e2)
  ·
   rw [if_pos rfl,if_neg e1] at e
   exact absurd e (hap G hGm e1)
  ·
   rw [if_neg e1,if_neg e2] at e
   exact h5 G hGm G' hGm' e
theorem shelf_drop {w w':World} {B mb n:Nat} {gs:List FileD} {D:DataW Unit} {pt:ByteArray→Nat} {nm:ByteArray} (h:ShelfD w B mb gs D pt) (hw:w'.ownsMap Tryz.prog 9 ptrElem mb n (D.del (kl nm))) (hg:w.grownBy w' (some mb)) (hlen:(withoutD gs nm).length=size (D.del (kl nm))) :
  ShelfD w' B mb (withoutD gs nm) (D.del (kl nm)) pt:=by
 obtain ⟨h1,h2,h3,h4,h5⟩:=h
 refine ⟨ownsMap_tight hw,hlen.symm,fun s => ?_,fun G hG => ?_,fun G hG G' hG' e => h5 G (without_mem.1 hG).1 G' (without_mem.1 hG').1 e⟩
 ·
  by_cases e:s=nm
  ·
   subst e
   rw [has_del_same]
   simp only [Bool.false_eq_true,false_iff]
   rintro ⟨G,hG,e⟩
   exact (without_mem.1 hG).2 e
  ·
   rw [has_del_other (kl_ne e),h3 s]
   constructor
   ·
    rintro ⟨G,hG,rfl⟩
    exact ⟨G,without_mem.2 ⟨hG,e⟩,rfl⟩
   ·
    rintro ⟨G,hG,rfl⟩
    exact ⟨G,(without_mem.1 hG).1,rfl⟩
 ·
  obtain ⟨hG,e⟩:=without_mem.1 hG
  obtain ⟨a,b,c,d⟩:=h4 G hG
  exact ⟨fun z => by rw [atKey_del_other (kl_ne e)];exact a z,b,c,blk_grown d hg (by simpa using c)⟩
theorem shelf_write {w w':World} {B mb:Nat} {gs:List FileD} {D:DataW Unit} {pt:ByteArray→Nat} {F F':FileD} (h:ShelfD w B mb gs D pt) (hF:F ∈ gs) (hn:F'.name=F.name) (hg:w.grownBy w' (some (pt F.name))) (hw:w'.heap[pt F.name]? = some (fileObj F')) (hlen:(putD gs F').length=gs.length):ShelfD w' B mb (putD gs F') D pt:=by
 obtain ⟨h1,h2,h3,h4,h5⟩:=h
 obtain ⟨a,b,c,d⟩:=h4 F hF
 refine ⟨h1.kept hg (by simpa using c.symm),by rw [hlen];exact h2,fun s => ?_,fun G hG => ?_,fun G hG G' hG' e => ?_⟩
 ·
  rw [h3 s]
  constructor
  ·
   rintro ⟨G,hG,rfl⟩
   by_cases e:G.name=F'.name
   · exact ⟨F',put_mem.2 (.inl rfl),e.symm⟩
   · exact ⟨G,put_mem.2 (.inr ⟨hG,e⟩),rfl⟩
  ·
   rintro ⟨G,hG,rfl⟩
   rcases put_mem.1 hG with rfl | ⟨hG,_⟩
   · exact ⟨F,hF,hn.symm⟩
   · exact ⟨G,hG,rfl⟩
 ·
  rcases put_mem.1 hG with rfl | ⟨hG,e⟩
  · rw [hn];exact ⟨a,b,c,hw⟩
  ·
   obtain ⟨a',b',c',d'⟩:=h4 G hG
   refine ⟨a',b',c',blk_grown d' hg (fun e2 => ?_)⟩
   have:=h5 G hG F hF (by simpa using e2)
   exact e (this.trans hn.symm)
 ·
  have key:∀ X ∈ putD gs F',∃ Y ∈ gs,Y.name=X.name:=by
   intro X hX
   rcases put_mem.1 hX with rfl | ⟨hX,_⟩
   · exact ⟨F,hF,hn.symm⟩
   · exact ⟨X,hX,rfl⟩
  obtain ⟨Y,hY,ey⟩:=key G hG
  obtain ⟨Y',hY',ey'⟩:=key G' hG'
  rw [← ey,← ey'] at e ⊢
  exact h5 Y hY Y' hY' e
theorem put_len_new {gs:List FileD} {F:FileD} (h:∀ G ∈ gs,G.name ≠ F.name):(putD gs F).length=gs.length+1:=by
 have key:∀ l:List FileD,(∀ G ∈ l,G.name ≠ F.name)→(l.filter (lessF F.name)).length+(l.filter (moreF F.name)).length=l.length:=by
  intro l
  induction l with
  | nil => intro _;rfl
  | cons G r ih =>
   intro h
   have hr:=ih (fun X hX => h X (List.mem_cons_of_mem _ hX))
   have hG:=h G List.mem_cons_self
   simp only [List.filter_cons]
   cases hl:Op.bytesLess G.name.toList F.name.toList
   ·
    have h1:lessF F.name G=false:=hl
    have h2:moreF F.name G=true:=by rw [moreF,hl,toList_ne.2 hG];rfl
    rw [h1,h2]
    simp
    omega
   ·
    have h1:lessF F.name G=true:=hl
    have h2:moreF F.name G=false:=by rw [moreF,hl];rfl
    rw [h1,h2]
    simp
    omega
 have:=key gs h
 simp only [putD,List.length_append,List.length_singleton]
 omega
theorem less_ne {a b:ByteArray} (h:Op.bytesLess a.toList b.toList=true):a ≠ b:=by
 rintro rfl
 rw [less_irrefl] at h
 cases h
theorem putD_last {gs:List FileD} {F:FileD} (h:∀ G ∈ gs,Op.bytesLess G.name.toList F.name.toList=true):putD gs F=gs ++ [F]:=by
 have h1:gs.filter (lessF F.name)=gs:=List.filter_eq_self.2 h
 have h2:gs.filter (moreF F.name)=[]:=List.filter_eq_nil_iff.2 (fun G hG => by rw [moreF,h G hG];simp)
 rw [putD,h1,h2,List.append_nil]
theorem srt_take {fs:List FileD} {k:Nat} (h:srt fs) (hk:k < fs.length):∀ G ∈ fs.take k,Op.bytesLess G.name.toList fs[k].name.toList=true:=by
 intro G hG
 obtain ⟨i,hi,rfl⟩:=List.getElem_of_mem hG
 rw [List.length_take] at hi
 rw [List.getElem_take]
 exact List.pairwise_iff_getElem.1 h i k (by omega) hk (by omega)
theorem Tryz.keyS (s:ByteArray) (h:s.size≤maxLen):keyOf Tryz.prog 9 (.string s)=some (kl s):=WideMaps.keyOf_string_mk Tryz.underlying9 h
theorem shelfOf_any (fs:List FileD) (ao:Option Addr) (cap:Nat) (w:World) (hok:diskOkD fs=true) (hfs:FilesAt w ao fs) :
  Calls Tryz.prog 63 #[.agg #[.slice ao fs.length cap]] w fun e w' => ∃ mb,e=.returned (.map (some mb))∧w.heap.size≤mb∧ShelfAt w' w.heap.size mb fs∧Below w.heap.size w w':=by
 have HF:=hide hfs
 have HOK:=hide (disk_files hok)
 have HSR:=hide ((disk_iff fs).1 hok).2.2
 have hl:fs.length≤30:=(disk_files hok).1
 clear hfs
 have HB0:Hid (Below w.heap.size w ((w.alloc (.cells #[.slice ao fs.length cap] 31)).alloc (.map #[] 0))):=((Below.refl _ w).alloc (Nat.le_refl _) _).alloc (by simp) _
 have HM0:Hid (ShelfD ((w.alloc (.cells #[.slice ao fs.length cap] 31)).alloc (.map #[] 0)) w.heap.size (w.heap.size+1) [] (.map []) (fun _ => 0)):=by
  refine ⟨?_,rfl,fun s => by simp [has],fun F hF => absurd hF List.not_mem_nil,fun F hF => absurd hF List.not_mem_nil⟩
  have h:=World.ownsMap_made (H:=Unit) (w.alloc (.cells #[.slice ao fs.length cap] 31)) Tryz.prog 9 ptrElem
  rw [show (w.alloc (.cells #[.slice ao fs.length cap] 31)).heap.size=w.heap.size+1 from by simp] at h
  exact h
 go_enter Tryz.func63,Tryz.ntmps63
 have hmm:=@run_makeMap Tryz.prog
 go_wp2_with fail
 clear hmm
 go_loopw [10] (fun ii wr => ∃ (k:Nat) (D:DataW Unit) (pt:ByteArray→Nat),ii=.int .i64 k∧k≤fs.length∧Hid (ShelfD wr w.heap.size (w.heap.size+1) (fs.take k) D pt)∧Hid (Below w.heap.size w wr)) (fun ii _ => fs.length - (intOf ii).toNat)
 case atStart => exact ⟨0,_,_,rfl,Nat.zero_le _,HM0,HB0⟩
 case round =>
  obtain ⟨k,D,pt,rfl,hk,HD,HB⟩:=hrel
  by_cases hlt:k < fs.length
  ·
   have hlt':decide ((k:Int) < (fs.length:Int))=true:=by simp;omega
   obtain ⟨b,off,rfl,hbw,hc0,hc1,hc2⟩:=filesAt_keep HF.out HB.out k hlt
   have HT:Hid (fs.take (k+1)=putD (fs.take k) fs[k]):=by show _=_;rw [putD_last (srt_take HSR.out hlt),List.take_add_one,List.getElem?_eq_getElem hlt];rfl
   have HNE:Hid (∀ G ∈ fs.take k,G.name ≠ fs[k].name):=fun G hG => less_ne (srt_take HSR.out hlt G hG)
   have hnm:=(HOK.out.2 fs[k] (List.getElem_mem hlt)).2.1
   obtain ⟨F,HFk⟩:∃ F,Hid (fs[k]=F):=⟨fs[k],hide rfl⟩
   rw [HFk.out] at hc0 hc1 hc2 HT HNE hnm
   have hi0:(0:Int)≤(k:Int):=by omega
   have hi1:(k:Int) < (fs.length:Int):=by omega
   have HK:=hide (Tryz.keyS F.name (by unfold maxLen;omega))
   obtain ⟨wp,hwp⟩:∃ wp,wp=(wr.alloc (.cells #[.string F.name,.string F.text,.int .i64 F.kept] 95)).alloc (.cells #[.string F.name,.string F.text,.int .i64 F.kept] 95):=⟨_,rfl⟩
   have bp:Below wr.heap.size wr wp:=by rw [hwp];exact ((Below.refl _ _).alloc (Nat.le_refl _) _).alloc (by simp) _
   have hpb:wp.heap[wr.heap.size+1]? = some (fileObj F):=by
    rw [hwp,show wr.heap.size+1=(wr.alloc (.cells #[.string F.name,.string F.text,.int .i64 F.kept] 95)).heap.size from by simp]
    exact heap_alloc_new _ _
   have HDp:=hide (shelfD_below HD.out bp)
   have hmlt:=HD.out.1.lt
   have hsz:size D≤30:=by rw [HD.out.2.1,List.length_take];omega
   go_wp2_with (at_mapUpdate;rw [← hwp];refine wpList_mapUpdate_own _ rfl _ _ _ 123 rfl 9 163 (string_keyed Tryz.underlying9) Tryz.underlying123 ptrElem (w.heap.size+1) (size D) D rfl HDp.out.1 (by unfold maxLen;omega) _ _ _ rfl rfl HK.out (.lit (.int .i64 ((wr.heap.size+1:Nat):Int))) [] rfl ?_;intro w1 hown1 hgrow1)
   go_roundw
   case rel =>
    have hno:has D (kl F.name)=false:=by
     cases h:has D (kl F.name) with
     | false => rfl
     | true =>
      obtain ⟨G,hG,e⟩:=(HD.out.2.2.1 F.name).1 h
      exact absurd e (HNE.out G hG)
    have hlen:(putD (fs.take k) F).length=size (D.put (kl F.name) (.lit (.int .i64 ((wr.heap.size+1:Nat):Int)))):=by
     rw [put_len_new HNE.out,size_put (HD.out.1.tidy (string_keyed Tryz.underlying9)),hno,HD.out.2.1]
     rfl
    have hap:∀ G ∈ fs.take k,G.name ≠ F.name→pt G.name ≠ wr.heap.size+1:=fun G hG _ e => by
     have:=(Array.getElem?_eq_some_iff.1 (HD.out.2.2.2.1 G hG).2.2.2).1
     omega
    have hws:=HB.out.size
    have hsh:=shelf_put HDp.out hpb (by omega) (by omega) hap hown1 hgrow1 hlen
    rw [← HT.out] at hsh
    exact ⟨k+1,_,_,by go_num,by omega,hsh,(HB.out.trans (bp.mono hws)).grown hgrow1 (by have:=bp.size;omega) (fun j hj => by cases hj;omega)⟩
   case measure => simp [intOf];omega
  ·
   have hlt':decide ((k:Int) < (fs.length:Int))=false:=by simp;omega
   have hke:Hid (fs.take k=fs):=by show _=_;exact List.take_of_length_le (by omega)
   go_wp2
   go_ret
   refine ⟨_,rfl,by omega,⟨D,pt,?_⟩,HB.out⟩
   rw [← hke.out]
   exact HD.out
theorem Tryz.zeroP (w:World):(zeroValue 163).run Tryz.prog w=.ok (.pointer none) w:=by
 have hz:Tryz.t163.zero=some (.pointer none):=by kernel_rfl
 simp [zeroValue,go_sem,hz]
def addD (gs:List FileD) (nm tx:ByteArray):Option (List FileD) :=
 if diskOkD (putD gs ⟨((fileD gs nm).getD ⟨nm,⟨#[]⟩,0⟩).name,((fileD gs nm).getD ⟨nm,⟨#[]⟩,0⟩).text ++ tx,((fileD gs nm).getD ⟨nm,⟨#[]⟩,0⟩).kept⟩)=true
 then some (putD gs ⟨((fileD gs nm).getD ⟨nm,⟨#[]⟩,0⟩).name,((fileD gs nm).getD ⟨nm,⟨#[]⟩,0⟩).text ++ tx,((fileD gs nm).getD ⟨nm,⟨#[]⟩,0⟩).kept⟩) else none
theorem fileD_some {gs:List FileD} {nm:ByteArray} {F:FileD} (h:fileD gs nm=some F):F ∈ gs∧F.name=nm:=by
 refine ⟨List.mem_of_find?_eq_some h,?_⟩
 have:=List.find?_some h
 by_cases e:F.name=nm
 · exact e
 · rw [toList_ne.2 e] at this;cases this
theorem fileD_none {gs:List FileD} {nm:ByteArray} (h:fileD gs nm=none):∀ G ∈ gs,G.name ≠ nm:=by
 intro G hG e
 have:=List.find?_eq_none.1 h G hG
 rw [e] at this
 simp at this
theorem put_len_old {gs:List FileD} {F F':FileD} (hs:srt gs) (hF:F ∈ gs) (hn:F'.name=F.name):(putD gs F').length=gs.length:=by
 have key:∀ l:List FileD,srt l→(l.filter (lessF F'.name)).length+(l.filter (moreF F'.name)).length+(if (∃ X ∈ l,X.name=F'.name) then 1 else 0)=l.length:=by
  intro l
  induction l with
  | nil => intro _;simp
  | cons G r ih =>
   intro h
   have hr:=ih (List.pairwise_cons.1 h).2
   have hlt:=(List.pairwise_cons.1 h).1
   simp only [List.filter_cons]
   by_cases e:G.name=F'.name
   ·
    have h1:lessF F'.name G=false:=by rw [lessF,e,less_irrefl]
    have h2:moreF F'.name G=false:=by rw [moreF,e];simp
    have hno:¬ ∃ X ∈ r,X.name=F'.name:=by
     rintro ⟨X,hX,e2⟩
     exact less_ne (hlt X hX) (e.trans e2.symm)
    rw [if_neg hno] at hr
    have e1:(if (∃ X ∈ G :: r,X.name=F'.name) then 1 else 0)=1:=if_pos ⟨G,List.mem_cons_self,e⟩
    rw [h1,h2,e1]
    simp
    omega
   ·
    have hiff:(∃ X ∈ G :: r,X.name=F'.name) ↔ ∃ X ∈ r,X.name=F'.name:=by
     constructor
     ·
      rintro ⟨X,hX,e2⟩
      rcases List.mem_cons.1 hX with rfl | hX
      · exact absurd e2 e
      · exact ⟨X,hX,e2⟩
     ·
      rintro ⟨X,hX,e2⟩
      exact ⟨X,List.mem_cons_of_mem _ hX,e2⟩
    cases hl:Op.bytesLess G.name.toList F'.name.toList
    ·
     have h1:lessF F'.name G=false:=hl
     have h2:moreF F'.name G=true:=by rw [moreF,hl,toList_ne.2 e];rfl
     rw [h1,h2]
     simp only [hiff]
     simp
     omega
    ·
     have h1:lessF F'.name G=true:=hl
     have h2:moreF F'.name G=false:=by rw [moreF,hl];rfl
     rw [h1,h2]
     simp only [hiff]
     simp
     omega
 have:=key gs hs
 rw [if_pos ⟨F,hF,hn.symm⟩] at this
 simp only [putD,List.length_append,List.length_singleton]
 omega
theorem put_ok_old {gs:List FileD} {F F':FileD} (h:diskOkD gs=true) (hF:F ∈ gs) (hn:F'.name=F.name):diskOkD (putD gs F')=fileOkD F':=by
 obtain ⟨h1,h2,h3⟩:=(disk_iff gs).1 h
 cases hf:fileOkD F'
 ·
  cases hd:diskOkD (putD gs F') with
  | false => rfl
  | true => rw [((disk_iff _).1 hd).2.1 F' (put_mem.2 (.inl rfl))] at hf;cases hf
 ·
  refine (disk_iff _).2 ⟨by rw [put_len_old h3 hF hn];exact h1,fun G hG => ?_,srt_putD F' h3⟩
  rcases put_mem.1 hG with rfl | ⟨hG,_⟩
  · exact hf
  · exact h2 G hG
theorem put_ok_new {gs:List FileD} {F':FileD} (h:diskOkD gs=true) (hn:∀ G ∈ gs,G.name ≠ F'.name):diskOkD (putD gs F')=(fileOkD F' && decide (gs.length+1≤30)):=by
 obtain ⟨h1,h2,h3⟩:=(disk_iff gs).1 h
 cases hf:fileOkD F'
 ·
  cases hd:diskOkD (putD gs F') with
  | false => rfl
  | true => rw [((disk_iff _).1 hd).2.1 F' (put_mem.2 (.inl rfl))] at hf;cases hf
 ·
  rw [Bool.true_and]
  by_cases hl:gs.length+1≤30
  ·
   rw [decide_eq_true hl]
   refine (disk_iff _).2 ⟨by rw [put_len_new hn];exact hl,fun G hG => ?_,srt_putD F' h3⟩
   rcases put_mem.1 hG with rfl | ⟨hG,_⟩
   · exact hf
   · exact h2 G hG
  ·
   rw [decide_eq_false hl]
   cases hd:diskOkD (putD gs F') with
   | false => rfl
   | true =>
    have:=((disk_iff _).1 hd).1
    rw [put_len_new hn] at this
    exact absurd this hl
theorem shelfD_congr {w:World} {B mb:Nat} {gs gs':List FileD} {D:DataW Unit} {pt:ByteArray→Nat} (hm:∀ G,G ∈ gs ↔ G ∈ gs') (hl:gs.length=gs'.length) (h:ShelfD w B mb gs D pt):ShelfD w B mb gs' D pt:=by
 obtain ⟨h1,h2,h3,h4,h5⟩:=h
 refine ⟨h1,h2.trans hl,fun s => ?_,fun F hF => h4 F ((hm F).2 hF),fun F hF G hG e => h5 F ((hm F).2 hF) G ((hm G).2 hG) e⟩
 rw [h3 s]
 constructor
 · rintro ⟨F,hF,e⟩;exact ⟨F,(hm F).1 hF,e⟩
 · rintro ⟨F,hF,e⟩;exact ⟨F,(hm F).2 hF,e⟩
theorem put_put_mem {gs:List FileD} {F G:FileD}:G ∈ putD (putD gs F) F ↔ G ∈ putD gs F:=by
 constructor
 ·
  intro h
  rcases put_mem.1 h with h | ⟨h,_⟩
  · exact put_mem.2 (.inl h)
  · exact h
 ·
  intro h
  rcases put_mem.1 h with h | ⟨h1,h2⟩
  · exact put_mem.2 (.inl h)
  · exact put_mem.2 (.inr ⟨put_mem.2 (.inr ⟨h1,h2⟩),h2⟩)
theorem add_file {F:FileD} {tx:ByteArray} (h:fileOkD F=true):fileOkD ⟨F.name,F.text ++ tx,F.kept⟩=decide (F.text.size+tx.size≤20000):=by
 obtain ⟨h1,h2,h3,h4,h5⟩:=ok_file h
 have hn:nameOkD F.name=true:=by simp [nameOkD,h1,h2]
 simp only [fileOkD,hn,ByteArray.size_append,Bool.true_and]
 have e1:decide (0≤F.kept)=true:=decide_eq_true h4
 have e2:decide (F.kept≤((F.text.size+tx.size:Nat):Int))=true:=decide_eq_true (by omega)
 rw [e1,e2]
 simp
theorem add_old (gs:List FileD) (mb B:Nat) (nm tx:ByteArray) (w:World) (hok:diskOkD gs=true) (h:ShelfAt w B mb gs) (hmb:B≤mb) (hBw:B≤w.heap.size) (htx:tx.size≤1048576) {F:FileD} (hF:fileD gs nm=some F) :
  Calls Tryz.prog 100 #[.map (some mb),.string nm,.string tx] w fun e w' => e=.returned (.bool (addD gs nm tx).isSome)∧ShelfAt w' B mb ((addD gs nm tx).getD gs)∧Below B w w':=by
 obtain ⟨D,pt,hD⟩:=h
 obtain ⟨hFm,rfl⟩:=fileD_some hF
 obtain ⟨hd1,hd2,hd3⟩:=(disk_iff gs).1 hok
 have hfo:=hd2 F hFm
 obtain ⟨n1,n2,n3,n4,n5⟩:=ok_file hfo
 have HD:=hide hD
 obtain ⟨hat,hpB,hpm,hpb⟩:=hD.2.2.2.1 F hFm
 have hhas:has D (kl F.name)=true:=(hD.2.2.1 F.name).2 ⟨F,hFm,rfl⟩
 obtain ⟨p,hp⟩:∃ p,p=pt F.name:=⟨_,rfl⟩
 rw [← hp] at hat hpB hpm hpb
 have HP:=hide hp
 have hc0:w.cell? ⟨p,0,none⟩=some (.string F.name):=(cell_of_row w p 0 _ _ (0,0) hpb).trans rfl
 have hc1:w.cell? ⟨p,1,none⟩=some (.string F.text):=(cell_of_row w p 1 _ _ (0,0) hpb).trans rfl
 have hc2:w.cell? ⟨p,2,none⟩=some (.int .i64 F.kept):=(cell_of_row w p 2 _ _ (0,0) hpb).trans rfl
 have hf1:=frozen_of_row w p 1 _ _ hpb
 have HPB:=hide hpb
 have HAT:=hide hat
 have HK:=hide (Tryz.keyS F.name (by unfold maxLen;omega))
 have hsz:size D≤30:=by rw [hD.2.1];exact hd1
 have hadd:addD gs F.name tx=if fileOkD ⟨F.name,F.text ++ tx,F.kept⟩=true then some (putD gs ⟨F.name,F.text ++ tx,F.kept⟩) else none:=by
  unfold addD
  rw [hF]
  simp only [Option.getD_some]
  rw [put_ok_old (F':=⟨F.name,F.text ++ tx,F.kept⟩) hok hFm rfl]
 rw [add_file hfo] at hadd
 have HADD:=hide hadd
 clear hD hp hpb hat hadd
 by_cases hbig:F.text.size+tx.size≤20000
 ·
  have hbig':decide ((20000:Int) < (F.text.size:Int)+(tx.size:Int))=false:=by simp;omega
  have HE:Hid (addD gs F.name tx=some (putD gs ⟨F.name,F.text ++ tx,F.kept⟩)):=by show _=_;rw [HADD.out,if_pos (by simp;exact hbig)]
  obtain ⟨X,HX⟩:∃ X:ByteArray,Hid (F.text ++ tx=X):=⟨_,hide rfl⟩
  rw [HX.out] at HE
  obtain ⟨wt,hwt⟩:∃ wt,wt=w.setCell ⟨p,1,none⟩ (.string X):=⟨_,rfl⟩
  have hg1:w.grownBy wt (some p):=by rw [hwt];exact grownBy_store (World.grownBy.refl _ _) 1 _
  have hpb1:wt.heap[p]? = some (fileObj ⟨F.name,X,F.kept⟩):=by rw [hwt];exact (heap_setCell_same _ _ _ _ _ _ HPB.out).trans rfl
  have HD1:Hid (ShelfD wt B mb (putD gs ⟨F.name,X,F.kept⟩) D pt):=shelf_write HD.out hFm rfl (by rw [← HP.out];exact hg1) (by rw [← HP.out];exact hpb1) (put_len_old hd3 hFm rfl)
  have HB1:Hid (Below B w wt):=(Below.refl B w).grown hg1 hBw (fun k hk => by cases hk;exact hpB)
  go_enter Tryz.func100,Tryz.ntmps100
  go_wp2_with (first | (at_lookup;refine wpList_lookup_own_ok _ rfl _ _ 123 rfl 9 163 (string_keyed Tryz.underlying9) Tryz.underlying123 ptrElem (Tryz.zeroP _) .nil [] rfl mb (size D) D rfl HD.out.1 _ _ rfl HK.out ?_;intro v ps hv;rw [HAT.out] at hv;obtain rfl:=ptrElem_inv hv;rw [hhas]) | (at_mapUpdate;rw [HX.out,← hwt];refine wpList_mapUpdate_own _ rfl _ _ _ 123 rfl 9 163 (string_keyed Tryz.underlying9) Tryz.underlying123 ptrElem mb (size D) D rfl HD1.out.1 (by unfold maxLen;omega) _ _ _ rfl rfl HK.out (.lit (.int .i64 (p:Int))) [] rfl ?_;intro w1 hown1 hgrow1))
  go_ret
  rw [HE.out]
  refine ⟨rfl,?_,HB1.out.grown hgrow1 (by have:=HB1.out.size;omega) (fun k hk => by cases hk;exact hmb)⟩
  have hs':srt (putD gs ⟨F.name,X,F.kept⟩):=srt_putD _ hd3
  have hmem:(⟨F.name,X,F.kept⟩:FileD) ∈ putD gs ⟨F.name,X,F.kept⟩:=put_mem.2 (.inl rfl)
  have hl1:=put_len_old (F:=F) (F':=⟨F.name,X,F.kept⟩) hd3 hFm rfl
  have hl2:=put_len_old (F:=⟨F.name,X,F.kept⟩) (F':=⟨F.name,X,F.kept⟩) hs' hmem rfl
  have hszp:size (D.put (kl F.name) (.lit (.int .i64 (p:Int))))=size D:=by rw [size_put (HD.out.1.tidy (string_keyed Tryz.underlying9)),hhas];rfl
  have hap:∀ G ∈ putD gs ⟨F.name,X,F.kept⟩,G.name ≠ F.name→pt G.name ≠ p:=fun G hG hn e => by
   rw [HP.out] at e
   exact hn (HD1.out.2.2.2.2 G hG ⟨F.name,X,F.kept⟩ hmem e)
  have hsh:=shelf_put (F:=⟨F.name,X,F.kept⟩) HD1.out hpb1 hpB hpm hap hown1 hgrow1 (by rw [hl2,hl1,hszp,HD.out.2.1])
  exact ⟨_,_,shelfD_congr (fun G => put_put_mem) hl2 hsh⟩
 ·
  have hbig':decide ((20000:Int) < (F.text.size:Int)+(tx.size:Int))=true:=by simp;omega
  have HE:Hid (addD gs F.name tx=none):=by show _=_;rw [HADD.out,if_neg (by simp;omega)]
  go_enter Tryz.func100,Tryz.ntmps100
  go_wp2_with (at_lookup;refine wpList_lookup_own_ok _ rfl _ _ 123 rfl 9 163 (string_keyed Tryz.underlying9) Tryz.underlying123 ptrElem (Tryz.zeroP _) .nil [] rfl mb (size D) D rfl HD.out.1 _ _ rfl HK.out ?_;intro v ps hv;rw [HAT.out] at hv;obtain rfl:=ptrElem_inv hv;rw [hhas])
  go_ret
  rw [HE.out]
  exact ⟨rfl,⟨D,pt,HD.out⟩,Below.refl _ _⟩
end Go.Proofs.YtepdckehokdjlaaGreatDoor
