import Derived.Shelf.SlIter.Nil
import Derived.Shelf.SortM.Plain
import Derived.Shelf.SortM.SortNone
import Derived.Ground.GgzProg
import Derived.Ground.SlgmProg
import Derived.Test.YtbenmgokhklnjaaGreatDoorProg
import Derived.Sort.KeysCollected
import Derived.Deep.LoopGhost
import Derived.Test.YtbenmgokhklnjaaGreatDoorTb22
import Derived.Test.YtbenmgokhklnjaaGreatDoorTb16
import Derived.Test.YtbenmgokhklnjaaGreatDoorTb9
set_option maxRecDepth 100000
set_option maxHeartbeats 1600000
namespace Go.Proofs
open Go.RowKit Go.Maps Go.Sort Go.Shelf
def Tryz.keys153_ren:Go.Shelf.Ren:=⟨fun | 7 => 153 | 10 => 175 | n => n,fun | 23 => 193 | 26 => 9 | 3 => 227 | 28 => 233 | 0 => 0 | 27 => 232 | 33 => 93 | 4 => 4 | n => n,fun | n => n⟩
theorem Tryz.keys153:Go.Proofs.SlLaysZ.n7 Tryz.prog Tryz.keys153_ren:={
 mixed:=by kernel_rfl
 f7:=⟨Tryz.f153.name,by decide,Tryz.func153.trans (congrArg some (by kernel_rfl))⟩
 f10:=⟨Tryz.f175.name,by decide,Tryz.func175.trans (congrArg some (by kernel_rfl))⟩
 t0:=Tryz.underlying0
 a0:=Tryz.isAgg0
 z0:=Tryz.sizeOf0
 v0:=Tryz.zeroValue0
 t4:=Tryz.underlying4
 a4:=Tryz.isAgg4
 z4:=Tryz.sizeOf4
 v4:=Tryz.zeroValue4
 t23:=Tryz.underlying193
 a23:=Tryz.isAgg193
 z23:=Tryz.sizeOf193
 v23:=Tryz.zeroValue193
 t26:=Tryz.underlying9
 a26:=Tryz.isAgg9
 z26:=Tryz.sizeOf9
 v26:=Tryz.zeroValue9
 t27:=Tryz.underlying232
 a27:=Tryz.isAgg232
 z27:=Tryz.sizeOf232
 v27:=Tryz.zeroValue232
 t28:=Tryz.underlying233
 a28:=Tryz.isAgg233
 z28:=Tryz.sizeOf233
 v28:=Tryz.zeroValue233
 t33:=Tryz.underlying93
 a33:=Tryz.isAgg93
 z33:=Tryz.sizeOf93
 v33:=Tryz.zeroValue93 }
def Tryz.sorted152_ren:Go.Shelf.Ren:=⟨fun | 6 => 152 | 8 => 173 | 9 => 174 | 11 => 185 | 13 => 187 | 12 => 186 | 23 => 205 | 24 => 206 | 14 => 196 | 15 => 197 | 16 => 198 | 17 => 199 | 18 => 200 | 19 => 201 | 20 => 202 | 21 => 203 | 22 => 204 | 25 => 211 | 26 => 212 | 27 => 213 | 28 => 214 | 29 => 215 | 30 => 216 | 31 => 222 | n => n,fun | 26 => 9 | 28 => 233 | 24 => 49 | 0 => 0 | 3 => 3 | 37 => 238 | 48 => 121 | 50 => 278 | 4 => 4 | 40 => 271 | 39 => 270 | 45 => 211 | 5 => 5 | 9 => 9 | 51 => 282 | 55 => 286 | 57 => 292 | 58 => 293 | 33 => 93 | n => n,fun | n => n⟩
theorem Tryz.sorted152:Go.Proofs.SlLaysZ.n6 Tryz.prog Tryz.sorted152_ren:={
 mixed:=by kernel_rfl
 f6:=⟨Tryz.f152.name,by decide,Tryz.func152.trans (congrArg some (by kernel_rfl))⟩
 f8:=⟨Tryz.f173.name,by decide,Tryz.func173.trans (congrArg some (by kernel_rfl))⟩
 f11:=⟨Tryz.f185.name,by decide,Tryz.func185.trans (congrArg some (by kernel_rfl))⟩
 t0:=Tryz.underlying0
 a0:=Tryz.isAgg0
 z0:=Tryz.sizeOf0
 v0:=Tryz.zeroValue0
 t24:=Tryz.underlying49
 a24:=Tryz.isAgg49
 z24:=Tryz.sizeOf49
 v24:=Tryz.zeroValue49
 t26:=Tryz.underlying9
 a26:=Tryz.isAgg9
 z26:=Tryz.sizeOf9
 v26:=Tryz.zeroValue9
 t28:=Tryz.underlying233
 a28:=Tryz.isAgg233
 z28:=Tryz.sizeOf233
 v28:=Tryz.zeroValue233
 i26:=by kernel_rfl }
def Tryz.sort174_ren:Go.Shelf.Ren:=⟨fun | 6 => 174 | 8 => 187 | 9 => 186 | 19 => 205 | 20 => 206 | 21 => 196 | 22 => 197 | 23 => 198 | 24 => 199 | 25 => 200 | 26 => 201 | 27 => 202 | 28 => 203 | 29 => 204 | 36 => 211 | 31 => 212 | 32 => 213 | 37 => 214 | 38 => 215 | 39 => 216 | 41 => 222 | n => n,fun | 27 => 49 | 29 => 9 | 3 => 3 | 32 => 238 | 26 => 49 | 0 => 0 | 44 => 121 | 46 => 278 | 4 => 4 | 36 => 271 | 35 => 270 | 41 => 211 | 5 => 5 | 9 => 9 | 53 => 282 | 57 => 286 | 63 => 292 | 64 => 293 | n => n,fun | n => n⟩
theorem Tryz.sort174:Go.Proofs.SlLaysM.n6 Tryz.prog Tryz.sort174_ren:={
 mixed:=by kernel_rfl
 f6:=⟨Tryz.f174.name,by decide,Tryz.func174.trans (congrArg some (by kernel_rfl))⟩
 f8:=Tryz.func187.trans (congrArg some (by kernel_rfl))
 f9:=⟨Tryz.f186.name,by decide,Tryz.func186.trans (congrArg some (by kernel_rfl))⟩
 f19:=Tryz.func205.trans (congrArg some (by kernel_rfl))
 f20:=Tryz.func206.trans (congrArg some (by kernel_rfl))
 f21:=⟨Tryz.f196.name,by decide,Tryz.func196.trans (congrArg some (by kernel_rfl))⟩
 f22:=⟨Tryz.f197.name,by decide,Tryz.func197.trans (congrArg some (by kernel_rfl))⟩
 f23:=⟨Tryz.f198.name,by decide,Tryz.func198.trans (congrArg some (by kernel_rfl))⟩
 f24:=⟨Tryz.f199.name,by decide,Tryz.func199.trans (congrArg some (by kernel_rfl))⟩
 f25:=⟨Tryz.f200.name,by decide,Tryz.func200.trans (congrArg some (by kernel_rfl))⟩
 f26:=⟨Tryz.f201.name,by decide,Tryz.func201.trans (congrArg some (by kernel_rfl))⟩
 f27:=⟨Tryz.f202.name,by decide,Tryz.func202.trans (congrArg some (by kernel_rfl))⟩
 f28:=⟨Tryz.f203.name,by decide,Tryz.func203.trans (congrArg some (by kernel_rfl))⟩
 f29:=⟨Tryz.f204.name,by decide,Tryz.func204.trans (congrArg some (by kernel_rfl))⟩
 f31:=Tryz.func212.trans (congrArg some (by kernel_rfl))
 f32:=Tryz.func213.trans (congrArg some (by kernel_rfl))
 f36:=⟨Tryz.f211.name,by decide,Tryz.func211.trans (congrArg some (by kernel_rfl))⟩
 f37:=⟨Tryz.f214.name,by decide,Tryz.func214.trans (congrArg some (by kernel_rfl))⟩
 f38:=⟨Tryz.f215.name,by decide,Tryz.func215.trans (congrArg some (by kernel_rfl))⟩
 f39:=⟨Tryz.f216.name,by decide,Tryz.func216.trans (congrArg some (by kernel_rfl))⟩
 f41:=⟨Tryz.f222.name,by decide,Tryz.func222.trans (congrArg some (by kernel_rfl))⟩
 t0:=Tryz.underlying0
 a0:=Tryz.isAgg0
 z0:=Tryz.sizeOf0
 v0:=Tryz.zeroValue0
 t3:=Tryz.underlying3
 a3:=Tryz.isAgg3
 z3:=Tryz.sizeOf3
 v3:=Tryz.zeroValue3
 t4:=Tryz.underlying4
 a4:=Tryz.isAgg4
 z4:=Tryz.sizeOf4
 v4:=Tryz.zeroValue4
 t5:=Tryz.underlying5
 a5:=Tryz.isAgg5
 z5:=Tryz.sizeOf5
 v5:=Tryz.zeroValue5
 t9:=Tryz.underlying9
 a9:=Tryz.isAgg9
 z9:=Tryz.sizeOf9
 v9:=Tryz.zeroValue9
 t26:=Tryz.underlying49
 a26:=Tryz.isAgg49
 z26:=Tryz.sizeOf49
 v26:=Tryz.zeroValue49
 t27:=Tryz.underlying49
 a27:=Tryz.isAgg49
 z27:=Tryz.sizeOf49
 v27:=Tryz.zeroValue49
 t29:=Tryz.underlying9
 a29:=Tryz.isAgg9
 z29:=Tryz.sizeOf9
 v29:=Tryz.zeroValue9
 t32:=Tryz.underlying238
 a32:=Tryz.isAgg238
 z32:=Tryz.sizeOf238
 v32:=Tryz.zeroValue238
 t35:=Tryz.underlying270
 a35:=Tryz.isAgg270
 z35:=Tryz.sizeOf270
 v35:=Tryz.zeroValue270
 t36:=Tryz.underlying271
 a36:=Tryz.isAgg271
 z36:=Tryz.sizeOf271
 v36:=Tryz.zeroValue271
 t41:=Tryz.underlying211
 a41:=Tryz.isAgg211
 z41:=Tryz.sizeOf211
 v41:=Tryz.zeroValue211
 t44:=Tryz.underlying121
 a44:=Tryz.isAgg121
 z44:=Tryz.sizeOf121
 v44:=Tryz.zeroValue121
 t46:=Tryz.underlying278
 a46:=Tryz.isAgg278
 z46:=Tryz.sizeOf278
 v46:=Tryz.zeroValue278
 t53:=Tryz.underlying282
 a53:=Tryz.isAgg282
 z53:=Tryz.sizeOf282
 v53:=Tryz.zeroValue282
 t57:=Tryz.underlying286
 a57:=Tryz.isAgg286
 z57:=Tryz.sizeOf286
 v57:=Tryz.zeroValue286
 t63:=Tryz.underlying292
 a63:=Tryz.isAgg292
 z63:=Tryz.sizeOf292
 v63:=Tryz.zeroValue292
 t64:=Tryz.underlying293
 a64:=Tryz.isAgg293
 z64:=Tryz.sizeOf293
 v64:=Tryz.zeroValue293 }
def Tryz.keys155_ren:Go.Shelf.Ren:=⟨fun | 7 => 155 | 10 => 176 | n => n,fun | 23 => 201 | 26 => 9 | 3 => 75 | 28 => 233 | 0 => 0 | 27 => 232 | 33 => 93 | 4 => 4 | n => n,fun | n => n⟩
theorem Tryz.keys155:Go.Proofs.SlLaysZ.n7 Tryz.prog Tryz.keys155_ren:={
 mixed:=by kernel_rfl
 f7:=⟨Tryz.f155.name,by decide,Tryz.func155.trans (congrArg some (by kernel_rfl))⟩
 f10:=⟨Tryz.f176.name,by decide,Tryz.func176.trans (congrArg some (by kernel_rfl))⟩
 t0:=Tryz.underlying0
 a0:=Tryz.isAgg0
 z0:=Tryz.sizeOf0
 v0:=Tryz.zeroValue0
 t4:=Tryz.underlying4
 a4:=Tryz.isAgg4
 z4:=Tryz.sizeOf4
 v4:=Tryz.zeroValue4
 t23:=Tryz.underlying201
 a23:=Tryz.isAgg201
 z23:=Tryz.sizeOf201
 v23:=Tryz.zeroValue201
 t26:=Tryz.underlying9
 a26:=Tryz.isAgg9
 z26:=Tryz.sizeOf9
 v26:=Tryz.zeroValue9
 t27:=Tryz.underlying232
 a27:=Tryz.isAgg232
 z27:=Tryz.sizeOf232
 v27:=Tryz.zeroValue232
 t28:=Tryz.underlying233
 a28:=Tryz.isAgg233
 z28:=Tryz.sizeOf233
 v28:=Tryz.zeroValue233
 t33:=Tryz.underlying93
 a33:=Tryz.isAgg93
 z33:=Tryz.sizeOf93
 v33:=Tryz.zeroValue93 }
theorem Tryz.sorts152 (m:Nat):AnyZ.SortsIn Tryz.prog Tryz.sorted152_ren Fence.wide m :=
 ⟨fun blk off cap ss W hH hblk hsz => callsIn_wide.2 (AnyM.slices_Sort_string Tryz.sort174 blk off cap ss W hH hblk hsz),
  fun p cap W => callsIn_wide.2 (AnyM.slices_Sort_string_none Tryz.sort174 p cap W)⟩
theorem Tryz.maps_Keys_153 (mb:Option Nat) (W:World):CallsIn Fence.wide 5 Tryz.prog 153 #[.map mb] W fun e w' => e=.returned (.func (.func 175) #[] #[.pointer (some ⟨W.heap.size,0,none⟩)])∧w' = W.alloc (.cells #[.map mb] 193) :=
 AnyZ.keys_in Tryz.keys153 Fence.wide 5 trivial rfl mb W
theorem Tryz.slices_Sorted_keys_152_153 {H:Type} (b nn:Nat) (D0:DataW H) (R:Value→Option (DataW H × List MemPlace)) (w:World) (hown:w.ownsMap Tryz.prog 9 R b nn D0) (hmax:Maps.size D0≤maxLen) (hbytes:Maps.size D0 * 16≤140737488355328) :
  CallsIn Fence.wide 5 Tryz.prog 152 #[.func (.func 175) #[] #[.pointer (some ⟨w.heap.size,0,none⟩)]] (w.alloc (.cells #[.map (some b)] 193)) fun e w' => ∃ (v:Value) (ss:List (List UInt8)),e=.returned v∧ss.Perm (strKeys D0) ∧
   w'.ownsRow (w.alloc (.cells #[.map (some b)] 193)).heap.size 9 1 v ss.length ((ss.mergeSort (fun x y => decide (x≤y))).map encStr)∧(v=.slice none 0 0 ↔ ss=[])∧Below (w.alloc (.cells #[.map (some b)] 193)).heap.size (w.alloc (.cells #[.map (some b)] 193)) w':=by
 have hbl:=hown.lt
 have hseq:SeqGives Fence.wide 2 Tryz.prog 175 #[.pointer (some ⟨w.heap.size,0,none⟩)] encStr (fun ss => ss.Perm (strKeys D0)) (Maps.size D0) (w.alloc (.cells #[.map (some b)] 193)) :=
  AnyZ.keys_gives (ρ:=Tryz.keys153_ren) { Tryz.keys153 with } Fence.wide _ trivial rfl (by omega) w.heap.size b nn D0 _ (by simp) (by simp) (by
   obtain ⟨es,clock,hb,Ft,hs,hD⟩:=hown
   exact ⟨es,clock,(Below.heap_alloc _ _ b hbl).trans hb,Ft,hs,hD⟩)
 exact AnyZ.sorted_in Tryz.sorted152 Fence.wide 5 trivial trivial trivial trivial rfl (by omega) (Tryz.sorts152 _) (enters_of Tryz.func174 (by kernel_rfl) rfl) 175 #[.pointer (some ⟨w.heap.size,0,none⟩)] trivial (enters_of Tryz.func175 (by kernel_rfl) rfl) _ _ hmax hbytes _ hseq
theorem Tryz.maps_Keys_155 (mb:Option Nat) (W:World):CallsIn Fence.wide 5 Tryz.prog 155 #[.map mb] W fun e w' => e=.returned (.func (.func 176) #[] #[.pointer (some ⟨W.heap.size,0,none⟩)])∧w' = W.alloc (.cells #[.map mb] 201) :=
 AnyZ.keys_in Tryz.keys155 Fence.wide 5 trivial rfl mb W
theorem Tryz.slices_Sorted_keys_152_155 {H:Type} (b nn:Nat) (D0:DataW H) (R:Value→Option (DataW H × List MemPlace)) (w:World) (hown:w.ownsMap Tryz.prog 9 R b nn D0) (hmax:Maps.size D0≤maxLen) (hbytes:Maps.size D0 * 16≤140737488355328) :
  CallsIn Fence.wide 5 Tryz.prog 152 #[.func (.func 176) #[] #[.pointer (some ⟨w.heap.size,0,none⟩)]] (w.alloc (.cells #[.map (some b)] 201)) fun e w' => ∃ (v:Value) (ss:List (List UInt8)),e=.returned v∧ss.Perm (strKeys D0) ∧
   w'.ownsRow (w.alloc (.cells #[.map (some b)] 201)).heap.size 9 1 v ss.length ((ss.mergeSort (fun x y => decide (x≤y))).map encStr)∧(v=.slice none 0 0 ↔ ss=[])∧Below (w.alloc (.cells #[.map (some b)] 201)).heap.size (w.alloc (.cells #[.map (some b)] 201)) w':=by
 have hbl:=hown.lt
 have hseq:SeqGives Fence.wide 2 Tryz.prog 176 #[.pointer (some ⟨w.heap.size,0,none⟩)] encStr (fun ss => ss.Perm (strKeys D0)) (Maps.size D0) (w.alloc (.cells #[.map (some b)] 201)) :=
  AnyZ.keys_gives (ρ:=Tryz.keys155_ren) { Tryz.keys155 with } Fence.wide _ trivial rfl (by omega) w.heap.size b nn D0 _ (by simp) (by simp) (by
   obtain ⟨es,clock,hb,Ft,hs,hD⟩:=hown
   exact ⟨es,clock,(Below.heap_alloc _ _ b hbl).trans hb,Ft,hs,hD⟩)
 exact AnyZ.sorted_in Tryz.sorted152 Fence.wide 5 trivial trivial trivial trivial rfl (by omega) (Tryz.sorts152 _) (enters_of Tryz.func174 (by kernel_rfl) rfl) 176 #[.pointer (some ⟨w.heap.size,0,none⟩)] trivial (enters_of Tryz.func176 (by kernel_rfl) rfl) _ _ hmax hbytes _ hseq
end Go.Proofs
namespace Go.Proofs.YtbenmgokhklnjaaGreatDoor
open Go.RowKit Go.Maps
theorem keys_sorted {w:World} {mb n:Nat} {gs:List SpotD} {D:DataW Unit} (h1:w.ownsMap Tryz.prog 9 spotElem mb n D) (h2:∀ s,has D (kl s)=true ↔ ∃ F ∈ gs,F.key=s) (hs:srtS gs) {ss:List (List UInt8)} (hp:ss.Perm (strKeys D)):ss.mergeSort (fun x y => decide (x≤y))=gs.map (fun F => F.key.data.toList):=by
 have hlt:(gs.map (fun F => F.key.data.toList)).Pairwise (fun a b => Op.bytesLess a b=true):=by
  refine List.pairwise_map.2 (hs.imp fun {a b} h => ?_)
  rw [Lib.toList_data,Lib.toList_data] at h
  exact h
 have hnd:(gs.map (fun F => F.key.data.toList)).Nodup:=hlt.imp fun {a b} h e => by rw [e,less_irrefl] at h;cases h
 have hm:∀ x,x ∈ gs.map (fun F => F.key.data.toList) ↔ has D (.string x)=true:=by
  intro x
  have h3:=h2 ⟨x.toArray⟩
  have e:kl ⟨x.toArray⟩=.string x:=by simp [kl]
  rw [e] at h3
  rw [h3,List.mem_map]
  constructor
  ·
   rintro ⟨F,hF,rfl⟩
   exact ⟨F,hF,by cases F.key;simp⟩
  ·
   rintro ⟨F,hF,e2⟩
   exact ⟨F,hF,by rw [e2]⟩
 have hc:Collected D (fun _ => false) (gs.map (fun F => F.key.data.toList)):=⟨hnd,fun x => by rw [hm x];simp⟩
 have hp2:=hc.perm h1 (string_keyed Tryz.underlying9) Tryz.underlying9 (fun _ => rfl)
 have h1:=mergeSort_of_perm (hp.trans hp2.symm)
 refine h1.trans ?_
 have tr:∀ a b c:List UInt8,leB a b=true→leB b c=true→leB a c=true:=fun a b c h1 h2 => by simp only [leB,decide_eq_true_eq] at *;exact List.le_trans h1 h2
 have tot:∀ a b:List UInt8,(leB a b || leB b a)=true:=fun a b => by simp only [leB,Bool.or_eq_true,decide_eq_true_eq];exact List.le_total a b
 refine List.Perm.eq_of_pairwise (le:=fun a b => leB a b=true) (fun a b _ _ h1 h2 => ?_) (List.pairwise_mergeSort tr tot _) ?_ (List.mergeSort_perm _ leB)
 ·
  simp only [leB,decide_eq_true_eq] at h1 h2
  exact List.le_antisymm h1 h2
 ·
  refine hlt.imp fun {a b} h => ?_
  rw [bytesLess_eq,decide_eq_true_eq] at h
  simp only [leB,decide_eq_true_eq]
  exact List.le_of_lt h
theorem dirKeys_any (mb:Option Nat) (W:World):Calls Tryz.prog 155 #[.map mb] W fun e w' => e=.returned (.func (.func 176) #[] #[.pointer (some ⟨W.heap.size,0,none⟩)])∧w' = W.alloc (.cells #[.map mb] 201) :=
 (callsIn_wide (n:=5)).1 (Tryz.maps_Keys_155 mb W)
theorem dirSorted_any {mb n:Nat} {gs:List SpotD} (w:World) (h:DirM w mb n gs) (hn:n≤1000000) :
  Calls Tryz.prog 152 #[.func (.func 176) #[] #[.pointer (some ⟨w.heap.size,0,none⟩)]] (w.alloc (.cells #[.map (some mb)] 201)) fun e w' => (∃ v:Value,e=.returned v∧w'.ownsRow (w.heap.size+1) 9 1 v gs.length (gs.map (fun F => .string F.key)))∧Below w.heap.size w w':=by
 obtain ⟨D,h1,h2,h3,h4⟩:=h
 have hsz:=h1.size_le
 refine ((callsIn_wide (n:=5)).1 (Tryz.slices_Sorted_keys_152_155 mb n D spotElem w h1 (by unfold maxLen;omega) (by omega))).mono ?_
 rintro e w' ⟨v,ss,rfl,hp,hrow,_,hb⟩
 refine ⟨⟨v,rfl,?_⟩,((Below.refl _ w).alloc (Nat.le_refl _) _).trans (hb.mono (by simp))⟩
 have hnn:=keys_sorted h1 h2 h4 hp
 rw [hnn] at hrow
 have hle:ss.length=gs.length:=by
  have:=congrArg List.length hnn
  rw [List.length_mergeSort,List.length_map] at this
  exact this
 rw [hle,List.map_map] at hrow
 have e1:(w.alloc (.cells #[.map (some mb)] 201)).heap.size=w.heap.size+1:=by simp
 rw [e1] at hrow
 have e2:(encStr ∘ fun F:SpotD => F.key.data.toList)=fun F:SpotD => Value.string F.key:=by
  funext F
  simp [encStr]
 rw [e2] at hrow
 exact hrow
theorem Tryz.zeroSpot (w:World):(zeroValue 75).run Tryz.prog w=.ok (.agg #[.string ⟨#[]⟩,.int .i64 0,.int .i64 0,.int .i64 0]) w:=by
 have hz:Tryz.t75.zero=some (.agg #[.string ⟨#[]⟩,.int .i64 0,.int .i64 0,.int .i64 0]):=by kernel_rfl
 simp [zeroValue,go_sem,hz]
theorem rowStr_at {w:World} {B n cap:Nat} {ao:Option Addr} {gs:List SpotD} (h:w.ownsRow B 9 1 (.slice ao n cap) gs.length (gs.map (fun F => .string F.key))) (j:Nat) (hj:j < gs.length):∃ g,ao=some ⟨g,0,none⟩∧g < w.heap.size∧w.cell? ⟨g,j,none⟩=some (.string gs[j].key):=by
 rcases h.2 with ⟨_,hn⟩ | ⟨g,cap',cur,hv,hB,hC,hle,_,hs,ht⟩
 · omega
 ·
  cases hv
  refine ⟨g,rfl,(Array.getElem?_eq_some_iff.1 hC).1,?_⟩
  exact (cell_of_row w g j _ _ (0,0) hC).trans (take_getSpot ht (by omega) (by simp [hj]))
theorem inOrder_any (gs:List SpotD) (mb n B:Nat) (w:World) (hm:DirM w mb n gs) (hn:n≤1000000) (hk:∀ A ∈ gs,A.key.size≤1048576) (hgl:gs.length≤1000000) (hB:B≤w.heap.size) :
  Calls Tryz.prog 124 #[.map (some mb)] w fun e w' => (∃ v,e=.returned v∧RowSpot w' B v gs)∧Below w.heap.size w w':=by
 have HM:=hide hm
 have HK:=hide hk
 clear hm hk
 go_enter Tryz.func124,Tryz.ntmps124
 go_wp2_with fail
 refine (dirKeys_any _ _).mono ?_
 rintro e w1 ⟨rfl,rfl⟩
 go_wp2_with fail
 refine (dirSorted_any _ HM.out hn).mono ?_
 rintro e w2 ⟨⟨v2,rfl,hrow⟩,b2⟩
 obtain ⟨a2,c2,rfl⟩:=slice_form hrow
 have HR2:=hide hrow
 have B2:=hide b2
 clear hrow b2
 have HM2:=hide (dirM_below HM.out B2.out)
 have hw2:w.heap.size≤w2.heap.size:=B2.out.size
 go_wp2_with fail
 go_loopw [3,10] (fun vo ii wr => ∃ (k:Nat),ii=.int .i64 k∧k≤gs.length∧Hid (wr.ownsRow w2.heap.size 75 4 vo (gs.take k).length (cellsSpot (gs.take k)))∧Hid (Below w2.heap.size w2 wr)) (fun _ ii _ => gs.length - (intOf ii).toNat)
 case atStart => exact ⟨0,rfl,Nat.zero_le _,World.ownsRow_nil _ _ _ _,Below.refl _ _⟩
 case round =>
  obtain ⟨k,rfl,hk,HO,HB⟩:=hrel
  have hws:=HB.out.size
  by_cases hlt:k < gs.length
  ·
   have hlt':decide ((k:Int) < (gs.length:Int))=true:=by simp;omega
   have hi0:(0:Int)≤(k:Int):=by omega
   have hi1:(k:Int) < (gs.length:Int):=by omega
   obtain ⟨g,hg,hgw,hc0⟩:=rowStr_at HR2.out k hlt
   subst hg
   have hd0:=(HB.out.cell (p:=⟨g,k,none⟩) hgw).trans hc0
   clear hc0
   obtain ⟨D,hD1,hD2,hD3,hD4⟩:=dirM_below HM2.out HB.out
   have hks:=HK.out gs[k] (List.getElem_mem hlt)
   obtain ⟨v,ps,hrun,hv⟩:=hD1.lookup (string_keyed Tryz.underlying9) Tryz.underlying201 (Tryz.zeroSpot _) (spotElem_mk ⟨⟨#[]⟩,0,0,0⟩) (Tryz.keyT gs[k].key (by unfold maxLen;omega))
   rw [hD3 gs[k] (List.getElem_mem hlt)] at hv
   obtain rfl:=spotElem_inv hv
   have htk:=hide (List.take_succ_eq_append_getElem hlt)
   clear hv hD1 hD2 hD3 hD4
   generalize gs[k]=F at hd0 hks hrun htk
   have hln:(gs.take k).length≤gs.length:=by rw [List.length_take];omega
   obtain ⟨L,HL⟩:∃ L,Hid (gs.take k=L):=⟨_,hide rfl⟩
   rw [HL.out] at HO htk hln
   go_wp2_with (at_builtin;refine app_spot _ w2.heap.size (by rfl) _ _ (by rfl) _ L F (by rfl) (HO.out.alloc _) wr.heap.size (by rfl) (heap_alloc_new wr _) (by omega) (by simp;omega) ?_;intro g5 cap5 w5 ho5 hb5 hg5 hgl5;have HO5:=hide ho5;have HB5:=hide hb5;clear ho5 hb5 hg5 hgl5)
   go_roundw
   case rel => exact ⟨k+1,by go_num,by omega,by show World.ownsRow _ _ _ _ _ _ _;rw [htk.out];exact HO5.out,(HB.out.alloc (by omega) _).trans HB5.out⟩
   case measure => simp [intOf];omega
  ·
   have hlt':decide ((k:Int) < (gs.length:Int))=false:=by simp;omega
   have hke:k=gs.length:=by omega
   subst hke
   rw [List.take_length] at HO
   go_wp2
   go_ret
   exact ⟨⟨_,rfl,rowSpot_le (rowSpot_own HO.out) (by omega)⟩,B2.out.trans (HB.out.mono hw2)⟩
theorem spotsOf_of (HIO:∀ (gs:List SpotD) (mb n B:Nat) (w:World),DirM w mb n gs→n≤1000000→(∀ A ∈ gs,A.key.size≤1048576)→gs.length≤1000000→B≤w.heap.size→Calls Tryz.prog 124 #[.map (some mb)] w fun e w' => (∃ v,e=.returned v∧RowSpot w' B v gs)∧Below w.heap.size w w')
  (l:List SegD) (v:Value) (B K:Nat) (w:World) (hll:l.length≤100) (HN:segsN l≤666700) (hbl0:∀ s ∈ l,s.bs.length≤20001) (hok0:∀ s ∈ l,∀ b ∈ s.bs,textOkD b.seq b.chs=true) (hku:∀ A ∈ dirSegs [] l,A.key.size≤20) (HDL:(dirSegs [] l).length≤1000000) (hG:BuildG w B K v l) :
  Calls Tryz.prog 92 #[v] w fun e w' => (∃ v,e=.returned v∧RowSpot w' w.heap.size v (dirSegs [] l))∧Below w.heap.size w w':=by
 obtain ⟨a1,c1,rfl⟩:=buildG_form hG
 have HBL:=hide hbl0
 have HOK:=hide hok0
 have HKU:=hide hku
 have G1:=hide hG
 clear hG hbl0 hok0 hku
 go_enter Tryz.func92,Tryz.ntmps92
 have hmk:(Instr.makeMap 201 none).run Tryz.prog w=.ok (.map (some w.heap.size)) (w.alloc (.map #[] 0)):=run_makeMap _ w
 obtain ⟨wm,hwm⟩:∃ x,x=w.alloc (.map #[] 0):=⟨_,rfl⟩
 have HM0:Hid (DirM wm w.heap.size 0 []):=by rw [hwm];exact dirM_new w
 have BM:Hid (Below w.heap.size w wm):=by rw [hwm];exact (Below.refl _ w).alloc (Nat.le_refl _) _
 have hms:wm.heap.size=w.heap.size+1:=by rw [hwm];simp
 have HBW:Hid (∀ W,wm.grownBy W (some w.heap.size)→Below w.heap.size w W):=fun W hW => BM.out.grown hW (by omega) (fun k hk => by cases hk;exact Nat.le_refl _)
 go_wp2_with fail
 rw [← hwm]
 clear hwm hmk
 go_loopg [11] l.length (fun gg ii wr => ∃ (k:Nat),k+gg=l.length∧ii=.int .i64 k∧k≤l.length∧Hid (DirM wr w.heap.size (segsN (l.take k)) (dirSegs [] (l.take k)))∧Hid (wm.grownBy wr (some w.heap.size)))
 case atStart => exact ⟨0,by omega,rfl,Nat.zero_le _,HM0,World.grownBy.refl _ _⟩
 case round =>
  obtain ⟨k,hkg,rfl,hk,HM,HG⟩:=hrel
  have hws:=HG.out.size
  have HBr:=hide (HBW.out _ HG.out)
  cases gk with
  | zero =>
   have hlt':decide ((k:Int) < (l.length:Int))=false:=by simp;omega
   have hltn:decide (k < l.length)=false:=by simp;omega
   have hke:k=l.length:=by omega
   rw [show l.take k=l from List.take_of_length_le (by omega)] at HM
   have HMw:=hide (dirM_mono HM.out HN)
   have HIOr:=hide (HIO (dirSegs [] l) w.heap.size 666700 w.heap.size wr HMw.out (by omega) (fun A hA => by have:=HKU.out A hA;omega) (by omega) (by omega))
   go_wp2_with fail
   refine HIOr.out.mono ?_
   rintro e w9 ⟨⟨v9,rfl,r9⟩,b9⟩
   obtain ⟨a9,c9,rfl,-⟩:=rowSpot_at r9
   have R9:=hide r9
   have B9:Hid (Below w.heap.size w w9):=HBr.out.trans (b9.mono (by omega))
   clear r9 b9
   go_wp2
   go_ret
   exact ⟨⟨_,rfl,R9.out⟩,B9.out⟩
  | succ g0 =>
   have hlt:k < l.length:=by omega
   have hlt':decide ((k:Int) < (l.length:Int))=true:=by simp;omega
   have hltn:decide (k < l.length)=true:=by simp;omega
   have hi0:(0:Int)≤(k:Int):=by omega
   have hi1:(k:Int) < (l.length:Int):=by omega
   obtain ⟨g,hg,hgw,hc0,hc1,⟨a,c,hc2,hrb⟩,⟨a',c',hc3,hrp⟩,hc4,hc5,hc6⟩:=buildG_at G1.out k hlt
   subst hg
   have hbl:=HBL.out l[k] (List.getElem_mem hlt)
   have HOKk:=hide (HOK.out l[k] (List.getElem_mem hlt))
   have htk:=hide (List.take_succ_eq_append_getElem hlt)
   have htN:segsN (l.take k)+chsN l[k].bs≤segsN l:=by
    rw [← segsN_snoc,← htk.out]
    exact segsN_take_le l (k+1)
   have HBAT:=hide (rowBatch_rows hrb).2
   have HPLS:=hide hrp
   clear hrb hrp
   generalize l[k]=F at hc0 hc1 hc2 hc3 hc4 hc5 hc6 htk hbl HOKk htN HBAT HPLS
   have HPG:Hid (∀ j (h:j < F.pls.length),F.pls[j]=F.hd+totD (F.bs.take j)):=fun j h => plsB_get F.bs F.hd j h
   have hpl:=hide F.pls_len
   obtain ⟨P,HP⟩:∃ P,Hid (F.pls=P):=⟨_,hide rfl⟩
   rw [HP.out] at hc3 HPLS hpl
   have hd0:=(HBr.out.cell (p:=⟨g,k * 7,none⟩) hgw).trans hc0
   have hd1:=(HBr.out.cell (p:=⟨g,k * 7+1,none⟩) hgw).trans hc1
   have hd2:=(HBr.out.cell (p:=⟨g,k * 7+2,none⟩) hgw).trans hc2
   have hd3:=(HBr.out.cell (p:=⟨g,k * 7+3,none⟩) hgw).trans hc3
   have hd4:=(HBr.out.cell (p:=⟨g,k * 7+4,none⟩) hgw).trans hc4
   have hd5:=(HBr.out.cell (p:=⟨g,k * 7+5,none⟩) hgw).trans hc5
   have hd6:=(HBr.out.cell (p:=⟨g,k * 7+6,none⟩) hgw).trans hc6
   clear hc0 hc1 hc2 hc3 hc4 hc5 hc6
   obtain ⟨wO,rfl⟩:∃ wO,wO=wr:=⟨_,rfl⟩
   obtain ⟨wX,hwX⟩:∃ x,x=wO.alloc (.cells #[.int .i64 (F.num:Int),.int .i64 (F.frm:Int),.slice a F.bs.length c,.slice a' P.length c',.int .i64 (F.fin:Int),.bool F.right,.bool F.torn] 162):=⟨_,rfl⟩
   have BX:Hid (Below wO.heap.size wO wX):=by rw [hwX];exact (Below.refl _ wO).alloc (Nat.le_refl _) _
   have hxs:wX.heap.size=wO.heap.size+1:=by rw [hwX];simp
   have HXB:Hid (wX.heap[wO.heap.size]? = some (.cells #[.int .i64 (F.num:Int),.int .i64 (F.frm:Int),.slice a F.bs.length c,.slice a' P.length c',.int .i64 (F.fin:Int),.bool F.right,.bool F.torn] 162 (0,0))):=by rw [hwX];exact heap_alloc_new wO _
   have hx2:wX.cell? ⟨wO.heap.size,2,none⟩=some (.slice a F.bs.length c):=(cell_of_row wX _ 2 _ _ (0,0) HXB.out).trans rfl
   obtain ⟨n0,HN0⟩:∃ n,Hid (segsN (l.take k)=n):=⟨_,hide rfl⟩
   obtain ⟨D0,HD0⟩:∃ n,Hid (dirSegs [] (l.take k)=n):=⟨_,hide rfl⟩
   rw [HN0.out,HD0.out] at HM
   rw [HN0.out] at htN
   have HMX:=hide (dirM_below HM.out BX.out)
   have HGX:Hid (wm.grownBy wX (some w.heap.size)):=grownBy_trans HG.out (grownBy_below _ BX.out)
   have HNX:Hid (segsN (l.take (k+1))=n0+chsN F.bs∧dirSegs [] (l.take (k+1))=batsIn (F.num:Int) D0 F.hd F.bs):=by
    show _∧_
    rw [htk.out,segsN_snoc,dirSegs_snoc,HN0.out,HD0.out]
    exact ⟨rfl,rfl⟩
   have hmw:w.heap.size < wO.heap.size:=by omega
   go_wp2_with fail
   rw [← hwX]
   clear hwX hx2 hd0 hd1 hd2 hd3 hd4 hd5 hd6 BX
   go_loopg [18] F.bs.length (fun g2 ii wy => ∃ (j:Nat),j+g2=F.bs.length∧ii=.int .i64 j∧j≤F.bs.length∧Hid (DirM wy w.heap.size (n0+chsN (F.bs.take j)) (batsIn (F.num:Int) D0 F.hd (F.bs.take j)))∧Hid (wX.grownBy wy (some w.heap.size)))
   case atStart => exact ⟨0,by omega,rfl,Nat.zero_le _,HMX,World.grownBy.refl _ _⟩
   case round =>
    obtain ⟨j,hjg,rfl,hj,HMy,HGy⟩:=hrel
    have hwy:=HGy.out.size
    have HBy:=hide (HBW.out _ (grownBy_trans HGX.out HGy.out))
    cases gk with
    | zero =>
     have hjt':decide ((j:Int) < (F.bs.length:Int))=false:=by simp;omega
     have hjtn:decide (j < F.bs.length)=false:=by simp;omega
     rw [show F.bs.take j=F.bs from List.take_of_length_le (by omega)] at HMy
     go_wp2
     go_roundg g0
     case measure => omega
     case rel => exact ⟨k+1,by omega,by go_num,by omega,by show DirM _ _ _ _;rw [HNX.out.1,HNX.out.2];exact HMy.out,grownBy_trans HGX.out HGy.out⟩
    | succ g2 =>
     have hjt:j < F.bs.length:=by omega
     have hjt':decide ((j:Int) < (F.bs.length:Int))=true:=by simp;omega
     have hjtn:decide (j < F.bs.length)=true:=by simp;omega
     have hj0:(0:Int)≤(j:Int):=by omega
     have hj1:(j:Int) < (F.bs.length:Int):=by omega
     have hj2:(j:Int) < (P.length:Int):=by have:=hpl.out;omega
     obtain ⟨b,off,hab,hbw,he0,a2,c2,he1,hch⟩:=HBAT.out j hjt
     obtain ⟨gp,hgp,hgpw,hep⟩:=rowNat_at HPLS.out j (by have:=hpl.out;omega)
     have hpv:P[j]'(by have:=hpl.out;omega)=F.hd+totD (F.bs.take j):=by have:=HPG.out j (by rw [HP.out];have:=hpl.out;omega);simpa [HP.out] using this
     rw [hpv] at hep
     have htj:=hide (List.take_succ_eq_append_getElem hjt)
     have hokb:=HOKk.out F.bs[j] (List.getElem_mem hjt)
     have htn2:chsN (F.bs.take j)+F.bs[j].chs.length≤chsN F.bs:=by
      rw [← chsN_snoc,← htj.out]
      exact chsN_take_le F.bs (j+1)
     generalize F.bs[j]=A at he0 he1 hch htj hokb htn2
     subst hab hgp
     have hsm:=textOk_small hokb
     have HCH:=hide hch
     obtain ⟨ps,HPS⟩:∃ p:Nat,Hid (F.hd+totD (F.bs.take j)=p):=⟨_,hide rfl⟩
     rw [HPS.out] at hep
     have HNj:Hid (chsN (F.bs.take (j+1))=chsN (F.bs.take j)+A.chs.length∧batsIn (F.num:Int) D0 F.hd (F.bs.take (j+1))=chsIn (F.num:Int) (ps:Int) A.seq (batsIn (F.num:Int) D0 F.hd (F.bs.take j)) A.chs):=by
      show _∧_
      rw [htj.out,chsN_snoc,batsIn_snoc,HPS.out]
      exact ⟨rfl,rfl⟩
     generalize chsN (F.bs.take j)=nj at HMy htn2 HNj
     generalize batsIn (F.num:Int) D0 F.hd (F.bs.take j)=Dj at HMy HNj
     have hy0:=(HBy.out.cell (p:=⟨b,off+j * 2,none⟩) hbw).trans he0
     have hy1:=(HBy.out.cell (p:=⟨b,off+j * 2+1,none⟩) hbw).trans he1
     clear he0 he1 hch hpv
     obtain ⟨wY,hwY⟩:∃ x,x=wr.alloc (.cells #[.int .i64 A.seq,.slice a2 A.chs.length c2] 109):=⟨_,rfl⟩
     have BY:Hid (Below wr.heap.size wr wY):=by rw [hwY];exact (Below.refl _ wr).alloc (Nat.le_refl _) _
     have hYB:wY.heap[wr.heap.size]? = some (.cells #[.int .i64 A.seq,.slice a2 A.chs.length c2] 109 (0,0)):=by rw [hwY];exact heap_alloc_new wr _
     have hSB:=(BY.out.block wO.heap.size (by omega)).trans ((HGy.out.block wO.heap.size (by omega) (by simp;omega)).trans HXB.out)
     have hz0:wY.cell? ⟨wr.heap.size,0,none⟩=some (.int .i64 A.seq):=(cell_of_row wY _ 0 _ _ (0,0) hYB).trans rfl
     have hz1:wY.cell? ⟨wr.heap.size,1,none⟩=some (.slice a2 A.chs.length c2):=(cell_of_row wY _ 1 _ _ (0,0) hYB).trans rfl
     have hz2:wY.cell? ⟨wO.heap.size,0,none⟩=some (.int .i64 (F.num:Int)):=(cell_of_row wY _ 0 _ _ (0,0) hSB).trans rfl
     have hz3:wY.cell? ⟨wO.heap.size,3,none⟩=some (.slice (some ⟨gp,0,none⟩) P.length c'):=(cell_of_row wY _ 3 _ _ (0,0) hSB).trans rfl
     have hz4:wY.cell? ⟨gp,j,none⟩=some (.int .i64 (ps:Int)):=((HBy.out.trans (BY.out.mono HBy.out.size)).cell (p:=⟨gp,j,none⟩) hgpw).trans hep
     have HMY:=hide (dirM_below HMy.out BY.out)
     have HCY:Hid (ChangesAt wY a2 A.chs):=changesAt_keep HCH.out (HBy.out.trans (BY.out.mono HBy.out.size))
     have HGY:Hid (wX.grownBy wY (some w.heap.size)):=grownBy_trans HGy.out (grownBy_below _ BY.out)
     have HMC:Hid (0 < A.chs.length→∀ b off,a2=some ⟨b,off,none⟩→b ≠ w.heap.size):=fun h b off e => by
      obtain ⟨b',off',e',h',-⟩:=HCH.out 0 h
      rw [e] at e'
      cases e'
      omega
     have HTL:Hid (∀ W,wY.drewN 1=W ∨ wY.drew=W ∨ wY=W→Calls Tryz.prog 123 #[.map (some w.heap.size),.agg #[.int .i64 A.seq,.slice a2 A.chs.length c2],.int .i64 (F.num:Int),.int .i64 (ps:Int)] W fun e w' => e=.returned (.tuple #[])∧DirM w' w.heap.size (n0+nj+A.chs.length) (chsIn (F.num:Int) (ps:Int) A.seq Dj A.chs)∧W.grownBy w' (some w.heap.size)):=by
      intro W hW
      have hb:Below wY.heap.size wY W:=by
       rcases hW with rfl | rfl | rfl
       · exact drewN_below wY 1
       · exact (Below.refl _ _).drew
       · exact Below.refl _ _
      exact tell_any Dj w.heap.size (n0+nj) A.seq F.num ps A.chs a2 c2 W (dirM_below HMY.out hb) (by omega) (by omega) (changesAt_keep HCY.out hb) HMC.out (fun B hB => by have:=(hsm.2.2 B hB).1;omega)
     clear hYB hSB hep
     have hn1:wr.heap.size ≠ w.heap.size:=by omega
     have hn2:wO.heap.size ≠ w.heap.size:=by omega
     have hn3:gp ≠ w.heap.size:=by omega
     go_wp2_with fail
     rw [← hwY]
     clear hwY hy0 hy1
     go_region_held3 (fun w' => w'.cell? ⟨wr.heap.size,0,none⟩=some (.int .i64 A.seq)∧w'.cell? ⟨wr.heap.size,1,none⟩=some (.slice a2 A.chs.length c2)∧w'.cell? ⟨wO.heap.size,0,none⟩=some (.int .i64 (F.num:Int))∧w'.cell? ⟨wO.heap.size,3,none⟩=some (.slice (some ⟨gp,0,none⟩) P.length c')∧w'.cell? ⟨gp,j,none⟩=some (.int .i64 (ps:Int))) (first | go_keep | (exact ⟨hz0,hz1,hz2,hz3,hz4⟩) | (exact ⟨cells_grown hg5 hz0 hn1,cells_grown hg5 hz1 hn1,cells_grown hg5 hz2 hn2,cells_grown hg5 hz3 hn2,cells_grown hg5 hz4 hn3⟩)) ((go_at_call 123;refine (HTL.out _ (by first | exact .inr (.inl rfl) | exact .inr (.inr rfl) | exact .inl rfl)).mono ?_;rintro e w5 ⟨rfl,hm5,hg5⟩))
     have HM5:=hide hm5
     have HG5:Hid (wX.grownBy w5 (some w.heap.size)):=grownBy_trans HGY.out (grownBy_trans (grownBy_below _ ((Below.refl _ wY).drew)) hg5)
     clear hm5 hg5
     go_wp2
     go_roundg g2
     case measure => omega
     case rel => exact ⟨j+1,by omega,by go_num,by omega,by show DirM _ _ _ _;rw [HNj.out.1,HNj.out.2,← Nat.add_assoc];exact HM5.out,HG5⟩
theorem segsL_tell (fs:List FileD):segsN (segsL fs)≤666700∧(∀ s ∈ segsL fs,s.bs.length≤20001)∧(∀ s ∈ segsL fs,∀ b ∈ s.bs,textOkD b.seq b.chs=true)∧(∀ A ∈ dirSegs [] (segsL fs),A.key.size≤20)∧(dirSegs [] (segsL fs)).length≤1000000 :=
 ⟨segsL_N fs,segsL_bl,fun s hs => segsL_ok hs,dirD_keys fs,by have:=dirD_len fs;unfold dirD at this;omega⟩
end Go.Proofs.YtbenmgokhklnjaaGreatDoor
namespace Go.Proofs.YtbenmgokhklnjaaGreatDoor
open Go.RowKit
theorem blk_below {w w':World} {b:Nat} {O:Obj} (h:w.heap[b]? = some O) (hb:Below w.heap.size w w'):w'.heap[b]? = some O:=(hb.block b (Array.getElem?_eq_some_iff.1 h).1).trans h
theorem blk_grown {w w':World} {b:Nat} {O:Obj} {r:Option Nat} (h:w.heap[b]? = some O) (hg:w.grownBy w' r) (hne:some b ≠ r):w'.heap[b]? = some O:=(hg.block b (Array.getElem?_eq_some_iff.1 h).1 hne).trans h
theorem box_of {w:World} {b:Nat} {v:Value} {t:TypeId} (h:w.heap[b]? = some (.cells #[v] t (0,0))):w.cell? ⟨b,0,none⟩=some v:=(cell_of_row w b 0 _ _ (0,0) h).trans rfl
theorem rowF_files {w:World} {B n c:Nat} {a:Option Addr} {fs:List FileD} (h:RowF w B (.slice a n c) fs):FilesAt w a fs:=by
 obtain ⟨ao,cap,e,hf⟩:=rowF_at h
 cases e
 exact hf
end Go.Proofs.YtbenmgokhklnjaaGreatDoor
