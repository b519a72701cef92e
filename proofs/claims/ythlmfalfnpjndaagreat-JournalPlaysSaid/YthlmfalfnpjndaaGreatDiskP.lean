import Derived.Shelf.SlGeneric
import Derived.Shelf.SlIter.Nil
import Derived.Shelf.SortM.Plain
import Derived.Shelf.SortM.SortNone
import Derived.Ground.GgzProg
import Derived.Ground.SlgmProg
import Derived.Shelf.SlMaps.Clone
import Derived.Ground.SlmcProg
import Derived.Test.YthlmfalfnpjndaaGreatProg
import Derived.Test.YthlmfalfnpjndaaGreatAw15
import Derived.KernelRfl
namespace Go.Proofs
open Go.Shelf
def Tryz.dKeys_ren : Go.Shelf.Ren := ⟨fun | 7 => 46 | 10 => 80 | n => n,fun | 23 => 47 | 26 => 9 | 3 => 62 | 28 => 93 | 0 => 0 | 27 => 92 | 33 => 99 | 4 => 4 | n => n,fun | n => n⟩
theorem Tryz.dKeys : Go.Proofs.SlLaysZ.n7 Tryz.prog Tryz.dKeys_ren := {
 mixed := by kernel_rfl
 f7 := ⟨Tryz.f46.name,by decide,Tryz.func46.trans (congrArg some (by kernel_rfl))⟩
 f10 := ⟨Tryz.f80.name,by decide,Tryz.func80.trans (congrArg some (by kernel_rfl))⟩
 t0 := Tryz.underlying0
 a0 := Tryz.isAgg0
 z0 := Tryz.sizeOf0
 v0 := Tryz.zeroValue0
 t4 := Tryz.underlying4
 a4 := Tryz.isAgg4
 z4 := Tryz.sizeOf4
 v4 := Tryz.zeroValue4
 t23 := Tryz.underlying47
 a23 := Tryz.isAgg47
 z23 := Tryz.sizeOf47
 v23 := Tryz.zeroValue47
 t26 := Tryz.underlying9
 a26 := Tryz.isAgg9
 z26 := Tryz.sizeOf9
 v26 := Tryz.zeroValue9
 t27 := Tryz.underlying92
 a27 := Tryz.isAgg92
 z27 := Tryz.sizeOf92
 v27 := Tryz.zeroValue92
 t28 := Tryz.underlying93
 a28 := Tryz.isAgg93
 z28 := Tryz.sizeOf93
 v28 := Tryz.zeroValue93
 t33 := Tryz.underlying99
 a33 := Tryz.isAgg99
 z33 := Tryz.sizeOf99
 v33 := Tryz.zeroValue99 }
def Tryz.dSorted_ren : Go.Shelf.Ren := ⟨fun | 6 => 45 | 8 => 78 | 9 => 79 | 11 => 95 | 13 => 97 | 12 => 96 | 23 => 112 | 24 => 113 | 14 => 103 | 15 => 104 | 16 => 105 | 17 => 106 | 18 => 107 | 19 => 108 | 20 => 109 | 21 => 110 | 22 => 111 | 25 => 117 | 26 => 118 | 27 => 119 | 28 => 120 | 29 => 121 | 30 => 122 | 31 => 124 | n => n,fun | 26 => 9 | 28 => 93 | 24 => 67 | 0 => 0 | 3 => 3 | 37 => 133 | 48 => 128 | 50 => 111 | 4 => 4 | 40 => 138 | 39 => 137 | 45 => 143 | 5 => 5 | 9 => 9 | 51 => 149 | 55 => 153 | 57 => 157 | 58 => 158 | 33 => 99 | n => n,fun | n => n⟩
theorem Tryz.dSorted : Go.Proofs.SlLaysZ.n6 Tryz.prog Tryz.dSorted_ren := {
 mixed := by kernel_rfl
 f6 := ⟨Tryz.f45.name,by decide,Tryz.func45.trans (congrArg some (by kernel_rfl))⟩
 f8 := ⟨Tryz.f78.name,by decide,Tryz.func78.trans (congrArg some (by kernel_rfl))⟩
 f11 := ⟨Tryz.f95.name,by decide,Tryz.func95.trans (congrArg some (by kernel_rfl))⟩
 t0 := Tryz.underlying0
 a0 := Tryz.isAgg0
 z0 := Tryz.sizeOf0
 v0 := Tryz.zeroValue0
 t24 := Tryz.underlying67
 a24 := Tryz.isAgg67
 z24 := Tryz.sizeOf67
 v24 := Tryz.zeroValue67
 t26 := Tryz.underlying9
 a26 := Tryz.isAgg9
 z26 := Tryz.sizeOf9
 v26 := Tryz.zeroValue9
 t28 := Tryz.underlying93
 a28 := Tryz.isAgg93
 z28 := Tryz.sizeOf93
 v28 := Tryz.zeroValue93
 i26 := by kernel_rfl }
def Tryz.dSort_ren : Go.Shelf.Ren := ⟨fun | 6 => 79 | 8 => 97 | 9 => 96 | 19 => 112 | 20 => 113 | 21 => 103 | 22 => 104 | 23 => 105 | 24 => 106 | 25 => 107 | 26 => 108 | 27 => 109 | 28 => 110 | 29 => 111 | 36 => 117 | 31 => 118 | 32 => 119 | 37 => 120 | 38 => 121 | 39 => 122 | 41 => 124 | n => n,fun | 27 => 67 | 29 => 9 | 3 => 3 | 32 => 133 | 26 => 67 | 0 => 0 | 44 => 128 | 46 => 111 | 4 => 4 | 36 => 138 | 35 => 137 | 41 => 143 | 5 => 5 | 9 => 9 | 53 => 149 | 57 => 153 | 63 => 157 | 64 => 158 | n => n,fun | n => n⟩
theorem Tryz.dSort : Go.Proofs.SlLaysM.n6 Tryz.prog Tryz.dSort_ren := {
 mixed := by kernel_rfl
 f6 := ⟨Tryz.f79.name,by decide,Tryz.func79.trans (congrArg some (by kernel_rfl))⟩
 f8 := Tryz.func97.trans (congrArg some (by kernel_rfl))
 f9 := ⟨Tryz.f96.name,by decide,Tryz.func96.trans (congrArg some (by kernel_rfl))⟩
 f19 := Tryz.func112.trans (congrArg some (by kernel_rfl))
 f20 := Tryz.func113.trans (congrArg some (by kernel_rfl))
 f21 := ⟨Tryz.f103.name,by decide,Tryz.func103.trans (congrArg some (by kernel_rfl))⟩
 f22 := ⟨Tryz.f104.name,by decide,Tryz.func104.trans (congrArg some (by kernel_rfl))⟩
 f23 := ⟨Tryz.f105.name,by decide,Tryz.func105.trans (congrArg some (by kernel_rfl))⟩
 f24 := ⟨Tryz.f106.name,by decide,Tryz.func106.trans (congrArg some (by kernel_rfl))⟩
 f25 := ⟨Tryz.f107.name,by decide,Tryz.func107.trans (congrArg some (by kernel_rfl))⟩
 f26 := ⟨Tryz.f108.name,by decide,Tryz.func108.trans (congrArg some (by kernel_rfl))⟩
 f27 := ⟨Tryz.f109.name,by decide,Tryz.func109.trans (congrArg some (by kernel_rfl))⟩
 f28 := ⟨Tryz.f110.name,by decide,Tryz.func110.trans (congrArg some (by kernel_rfl))⟩
 f29 := ⟨Tryz.f111.name,by decide,Tryz.func111.trans (congrArg some (by kernel_rfl))⟩
 f31 := Tryz.func118.trans (congrArg some (by kernel_rfl))
 f32 := Tryz.func119.trans (congrArg some (by kernel_rfl))
 f36 := ⟨Tryz.f117.name,by decide,Tryz.func117.trans (congrArg some (by kernel_rfl))⟩
 f37 := ⟨Tryz.f120.name,by decide,Tryz.func120.trans (congrArg some (by kernel_rfl))⟩
 f38 := ⟨Tryz.f121.name,by decide,Tryz.func121.trans (congrArg some (by kernel_rfl))⟩
 f39 := ⟨Tryz.f122.name,by decide,Tryz.func122.trans (congrArg some (by kernel_rfl))⟩
 f41 := ⟨Tryz.f124.name,by decide,Tryz.func124.trans (congrArg some (by kernel_rfl))⟩
 t0 := Tryz.underlying0
 a0 := Tryz.isAgg0
 z0 := Tryz.sizeOf0
 v0 := Tryz.zeroValue0
 t3 := Tryz.underlying3
 a3 := Tryz.isAgg3
 z3 := Tryz.sizeOf3
 v3 := Tryz.zeroValue3
 t4 := Tryz.underlying4
 a4 := Tryz.isAgg4
 z4 := Tryz.sizeOf4
 v4 := Tryz.zeroValue4
 t5 := Tryz.underlying5
 a5 := Tryz.isAgg5
 z5 := Tryz.sizeOf5
 v5 := Tryz.zeroValue5
 t9 := Tryz.underlying9
 a9 := Tryz.isAgg9
 z9 := Tryz.sizeOf9
 v9 := Tryz.zeroValue9
 t26 := Tryz.underlying67
 a26 := Tryz.isAgg67
 z26 := Tryz.sizeOf67
 v26 := Tryz.zeroValue67
 t27 := Tryz.underlying67
 a27 := Tryz.isAgg67
 z27 := Tryz.sizeOf67
 v27 := Tryz.zeroValue67
 t29 := Tryz.underlying9
 a29 := Tryz.isAgg9
 z29 := Tryz.sizeOf9
 v29 := Tryz.zeroValue9
 t32 := Tryz.underlying133
 a32 := Tryz.isAgg133
 z32 := Tryz.sizeOf133
 v32 := Tryz.zeroValue133
 t35 := Tryz.underlying137
 a35 := Tryz.isAgg137
 z35 := Tryz.sizeOf137
 v35 := Tryz.zeroValue137
 t36 := Tryz.underlying138
 a36 := Tryz.isAgg138
 z36 := Tryz.sizeOf138
 v36 := Tryz.zeroValue138
 t41 := Tryz.underlying143
 a41 := Tryz.isAgg143
 z41 := Tryz.sizeOf143
 v41 := Tryz.zeroValue143
 t44 := Tryz.underlying128
 a44 := Tryz.isAgg128
 z44 := Tryz.sizeOf128
 v44 := Tryz.zeroValue128
 t46 := Tryz.underlying111
 a46 := Tryz.isAgg111
 z46 := Tryz.sizeOf111
 v46 := Tryz.zeroValue111
 t53 := Tryz.underlying149
 a53 := Tryz.isAgg149
 z53 := Tryz.sizeOf149
 v53 := Tryz.zeroValue149
 t57 := Tryz.underlying153
 a57 := Tryz.isAgg153
 z57 := Tryz.sizeOf153
 v57 := Tryz.zeroValue153
 t63 := Tryz.underlying157
 a63 := Tryz.isAgg157
 z63 := Tryz.sizeOf157
 v63 := Tryz.zeroValue157
 t64 := Tryz.underlying158
 a64 := Tryz.isAgg158
 z64 := Tryz.sizeOf158
 v64 := Tryz.zeroValue158 }
def Tryz.dClone_ren : Go.Shelf.Ren := ⟨fun | 5 => 26 | 7 => 44 | n => n,fun | 23 => 47 | 25 => 9 | 3 => 62 | 4 => 4 | 20 => 20 | n => n,fun | n => n⟩
theorem Tryz.dClone : Go.Proofs.SlLaysW.n5 Tryz.prog Tryz.dClone_ren := {
 mixed := by kernel_rfl
 f5 := ⟨Tryz.f26.name,by decide,Tryz.func26.trans (congrArg some (by kernel_rfl))⟩
 f7 := Tryz.func44.trans (congrArg some (by kernel_rfl))
 t4 := Tryz.underlying4
 a4 := Tryz.isAgg4
 z4 := Tryz.sizeOf4
 v4 := Tryz.zeroValue4
 t20 := Tryz.underlying20
 a20 := Tryz.isAgg20
 z20 := Tryz.sizeOf20
 v20 := Tryz.zeroValue20
 t23 := Tryz.underlying47
 a23 := Tryz.isAgg47
 z23 := Tryz.sizeOf47
 v23 := Tryz.zeroValue47 }
end Go.Proofs
namespace Go.Proofs.YthlmfalfnpjndaaGreat.DiskK
open Go Go.Proofs Aw Go.RowKit Go.Maps Go.Sort Go.Shelf
set_option linter.unusedSimpArgs false
set_option linter.unusedVariables false
def cloneMP : PM := fun args L T K => (∃ o kk ck l,args = [.mref o] ∧ L[o]? = some [.mapc kk ck l] ∧ K (.mref L.length) (L ++ [[.mapc kk ck l]]) T) ∨ (args = [.raw (.map none)] ∧ K (.raw (.map none)) L T)
theorem cloneM_ok : PSound Tryz.prog 26 cloneMP := by
 intro B p0 K L T args vs Kont hm hk hsz hrel
 rcases hk with ⟨o,kk,ck,l,rfl,hl,hk⟩ | ⟨rfl,hk⟩
 · obtain ⟨x,rfl⟩ : ∃ x,vs = #[x] := by
    have h1 : vs.size = 1 := hsz
    exact ⟨vs[0],by apply Array.ext; simp [h1]; intro i h2 h3; simp at h3; subst h3; rfl⟩
   have r0 := hrel 0 (by simp) (by simp)
   simp only [List.getElem_cons_zero,List.getElem_toArray] at r0
   obtain ⟨b,es,rfl,hb,hh,hr,hat⟩ := map_at hm hl r0
   refine (AnyW.maps_Clone Tryz.dClone b es ck K.w hh).mono ?_
   rintro e w' ⟨rfl,rfl⟩
   obtain ⟨K',hw,he,hm',hb'⟩ := newMap hm (obj := .map es ck) (cs := [.mapc kk ck l]) (fun K' hx hK' => .inl ⟨_,_,hK',.inr ⟨_,_,rfl,hr.ext hx⟩⟩)
   exact ⟨_,K',_,_,T,rfl,hw,he,hm',.mref _ _ hb',hk⟩
 · obtain ⟨x,rfl⟩ : ∃ x,vs = #[x] := by
    have h1 : vs.size = 1 := hsz
    exact ⟨vs[0],by apply Array.ext; simp [h1]; intro i h2 h3; simp at h3; subst h3; rfl⟩
   have r0 := hrel 0 (by simp) (by simp)
   simp only [List.getElem_cons_zero,List.getElem_toArray] at r0
   cases r0
   refine (AnyW.maps_Clone_nil Tryz.dClone K.w).mono ?_
   rintro e w' ⟨rfl,rfl⟩
   exact ⟨_,K,_,L,T,rfl,rfl,Ext.refl K,hm,.raw _,hk⟩
theorem row_base {w : World} {a a' : Nat} {e : TypeId} {sz : Nat} {v : Value} {n : Nat} {xs : List Value} (h : w.ownsRow a e sz v n xs) (ha : a' ≤ a) : w.ownsRow a' e sz v n xs := by
 obtain ⟨h1,h2⟩ := h
 refine ⟨h1,h2.imp id ?_⟩
 rintro ⟨g,cap,cur,q1,q2,q3⟩
 exact ⟨g,cap,cur,q1,by omega,q3⟩
theorem sorts (m : Nat) : AnyZ.SortsIn Tryz.prog Tryz.dSorted_ren Fence.wide m :=
 ⟨fun blk off cap ss W hH hblk hsz => callsIn_wide.2 (AnyM.slices_Sort_string Tryz.dSort blk off cap ss W hH hblk hsz),fun p cap W => callsIn_wide.2 (AnyM.slices_Sort_string_none Tryz.dSort p cap W)⟩
set_option maxHeartbeats 1000000 in
theorem rising_calls {H : Type} (b nn : Nat) (D0 : DataW H) (R : Value → Option (DataW H × List MemPlace)) (w : World) (hown : w.ownsMap Tryz.prog 9 R b nn D0) (hmax : Maps.size D0 ≤ maxLen) (hbytes : Maps.size D0 * 16 ≤ 140737488355328) :
 Calls Tryz.prog 27 #[.map (some b)] w fun e w' => ∃ (v : Value) (ss : List (List UInt8)),e = .returned v ∧ ss.Perm (strKeys D0) ∧
  w'.ownsRow w.heap.size 9 1 v ss.length ((ss.mergeSort (fun x y => decide (x ≤ y))).map encStr) ∧ Below w.heap.size w w' := by
 have hbl := hown.lt
 have hseq : SeqGives Fence.wide 2 Tryz.prog 80 #[.pointer (some ⟨w.heap.size,0,none⟩)] encStr (fun ss => ss.Perm (strKeys D0)) (Maps.size D0) (w.alloc (.cells #[.map (some b)] 47)) :=
  AnyZ.keys_gives (ρ := Tryz.dKeys_ren) { Tryz.dKeys with } Fence.wide _ trivial rfl (by omega) w.heap.size b nn D0 _ (by simp) (by simp) (by
   obtain ⟨es,clock,hb,Ft,hs,hD⟩ := hown
   exact ⟨es,clock,(Below.heap_alloc _ _ b hbl).trans hb,Ft,hs,hD⟩)
 refine (callsIn_wide (n := 6)).1 (callsIn_of_wp Tryz.func27 rfl trivial ?_ rfl)
 simp only [Tryz.ntmps27,List.size_toArray,List.length_cons,List.length_nil,Nat.reduceAdd,Nat.reduceSub,Array.replicate_succ,Array.replicate_zero,List.push_toArray,List.append_toArray,List.nil_append,List.cons_append]
 have hfK : Fence.wide.fn 46 := trivial
 have hfS : Fence.wide.fn 45 := trivial
 gi_wp2_with (first
  | (gi_at_call 46; refine (AnyZ.keys_in Tryz.dKeys Fence.wide 5 trivial rfl _ _).mono ?_; rintro e w' ⟨rfl,rfl⟩)
  | (gi_at_call 45; refine (AnyZ.sorted_in Tryz.dSorted Fence.wide 5 trivial trivial trivial trivial rfl (by omega) (sorts _) (enters_of Tryz.func79 (by kernel_rfl) rfl) 80 _ trivial (enters_of Tryz.func80 (by kernel_rfl) rfl) _ _ hmax hbytes _ hseq).mono ?_; rintro e w' ⟨v,ss,rfl,hS,hrow,hnil,hb⟩))
 go_ret
 exact ⟨v,ss,rfl,hS,row_base hrow (by simp),((Below.refl _ w).alloc (Nat.le_refl _) _).trans (hb.mono (by simp))⟩
set_option maxHeartbeats 1000000 in
theorem rising_nil (w : World) :
 Calls Tryz.prog 27 #[.map none] w fun e w' => ∃ (v : Value),e = .returned v ∧ w'.ownsRow w.heap.size 9 1 v 0 [] ∧ Below w.heap.size w w' := by
 have hseq : SeqGives Fence.wide 2 Tryz.prog 80 #[.pointer (some ⟨w.heap.size,0,none⟩)] encStr (fun ss : List (List UInt8) => ss = []) 0 (w.alloc (.cells #[.map none] 47)) :=
  AnyZ.keys_gives_nil (ρ := Tryz.dKeys_ren) { Tryz.dKeys with } Fence.wide _ trivial rfl w.heap.size _ (by simp) (by simp)
 refine (callsIn_wide (n := 6)).1 (callsIn_of_wp Tryz.func27 rfl trivial ?_ rfl)
 simp only [Tryz.ntmps27,List.size_toArray,List.length_cons,List.length_nil,Nat.reduceAdd,Nat.reduceSub,Array.replicate_succ,Array.replicate_zero,List.push_toArray,List.append_toArray,List.nil_append,List.cons_append]
 have hfK : Fence.wide.fn 46 := trivial
 have hfS : Fence.wide.fn 45 := trivial
 gi_wp2_with (first
  | (gi_at_call 46; refine (AnyZ.keys_in Tryz.dKeys Fence.wide 5 trivial rfl _ _).mono ?_; rintro e w' ⟨rfl,rfl⟩)
  | (gi_at_call 45; refine (AnyZ.sorted_in Tryz.dSorted Fence.wide 5 trivial trivial trivial trivial rfl (by omega) (sorts _) (enters_of Tryz.func79 (by kernel_rfl) rfl) 80 _ trivial (enters_of Tryz.func80 (by kernel_rfl) rfl) _ 0 (Nat.zero_le _) (by omega) _ hseq).mono ?_; rintro e w' ⟨v,ss,rfl,hS,hrow,hnil,hb⟩))
 go_ret
 subst hS
 exact ⟨v,rfl,by
  have h3 := row_base (a' := w.heap.size) hrow (by simp)
  simp only [List.mergeSort_nil,List.map_nil,List.length_nil] at h3
  exact h3,((Below.refl _ w).alloc (Nat.le_refl _) _).trans (hb.mono (by simp))⟩
theorem add_zero' (g j : Nat) : (⟨g,0,none⟩ : Addr).add j = ⟨g,j,none⟩ := by
 unfold Addr.add
 split
 · rename_i h; subst h; rfl
 · simp
theorem erel_len {K : Kw} : ∀ {l : List (MKey × Nat × V)} {es : List MapEntry},ERel K l es → es.length = l.length
 | [],[],_ => rfl
 | _ :: _,_ :: _,⟨_,h⟩ => by simp [erel_len h]
theorem erel_mem {K : Kw} : ∀ {l : List (MKey × Nat × V)} {es : List MapEntry},ERel K l es → ∀ e ∈ es,∃ x ∈ l,e.key = x.1.val
 | [],[],_,e,h => by cases h
 | x :: _,_ :: _,⟨⟨h1,_⟩,h⟩,e,he => by
  rcases List.mem_cons.1 he with rfl | he
  · exact ⟨x,by simp,h1⟩
  · obtain ⟨y,hy,h2⟩ := erel_mem h e he
    exact ⟨y,List.mem_cons_of_mem _ hy,h2⟩
abbrev RK : Value → Option (DataW Unit × List MemPlace) := fun _ => some (.lit (.bool true),[])
def keyB : MKey → List UInt8
 | .str n => n
 | .int _ _ => []
theorem ukS : Tryz.prog.underlying 9 = some .string := by kernel_rfl
theorem key_str {n : List UInt8} (h : n.length ≤ 1000) : keyOf Tryz.prog 9 (.string ⟨n.toArray⟩) = some (.string n) := by
 unfold keyOf
 have h : (⟨n.toArray⟩ : ByteArray).size ≤ maxLen := by show n.toArray.size ≤ _; rw [List.size_toArray]; unfold maxLen; omega
 simp only [ukS,mapKey,h,if_true]
theorem strs_of {K : Kw} : ∀ {l : List (MKey × Nat × V)} {es : List MapEntry},ERel K l es → (∀ x ∈ l,∃ n,x.1 = .str n ∧ n.length ≤ 1000) → (es.map (Go.WideElems.rg (H := Unit) Tryz.prog 9 RK)).map (fun p => strOf p.1) = l.map fun x => keyB x.1
 | [],[],_,_ => rfl
 | x :: l,e :: es,⟨⟨h1,_⟩,h⟩,hk => by
  obtain ⟨n,hn,hl⟩ := hk x (by simp)
  simp only [List.map_cons]
  rw [strs_of h fun y hy => hk y (List.mem_cons_of_mem _ hy)]
  have hkey : keyOf Tryz.prog 9 e.key = some (.string n) := by rw [h1,hn]; exact key_str hl
  have : Go.WideElems.rd (H := Unit) Tryz.prog 9 RK e = some (.string n,.lit (.bool true)) := by unfold Go.WideElems.rd; rw [hkey]; rfl
  have h5 : strOf (Go.WideElems.rg (H := Unit) Tryz.prog 9 RK e).1 = keyB x.1 := by
   rw [Go.WideElems.rg_of this,hn]
   rfl
  rw [h5]
theorem owns_of {K : Kw} {kk : Option IntKind} {l : List (MKey × Nat × V)} {es : Array MapEntry} {ck b : Nat} (hb : K.w.heap[b]? = some (.map es ck)) (hr : MRel K kk l es ck) (hk : ∀ x ∈ l,∃ n,x.1 = .str n ∧ n.length ≤ 1000) (hl : l.length ≤ 1099511627776) :
 ∃ D0 : DataW Unit,K.w.ownsMap Tryz.prog 9 RK b l.length D0 ∧ Maps.size D0 = l.length ∧ (strKeys D0).Perm (l.map fun x => keyB x.1) := by
 obtain ⟨hs,_,he⟩ := hr
 have hsz : es.size = l.length := by rw [← Array.length_toList]; exact erel_len he
 refine ⟨.map ((es.toList.map (Go.WideElems.rg Tryz.prog 9 RK)).foldr DataW.insert []),⟨es,ck,hb,⟨by unfold maxLen; omega,hs,fun x hx => ?_⟩,by omega,rfl⟩,?_,?_⟩
 · obtain ⟨y,hy,h1⟩ := erel_mem he x hx
   obtain ⟨n,hn,hln⟩ := hk y hy
   refine ⟨(.string n,.lit (.bool true)),?_⟩
   unfold Go.WideElems.rd
   rw [h1,hn]
   rw [show (MKey.str n).val = .string ⟨n.toArray⟩ from rfl,key_str hln]
   rfl
 · rw [Maps.size_eq,(Go.WideShapes.sorted_perm _).length_eq,List.length_map,Array.length_toList,hsz]
 · rw [← strs_of he hk]
   exact (Go.WideShapes.sorted_perm _).map _
def risingP : PM := fun args L T K => (∃ (o : Nat) (kk : Option IntKind) (ck : Nat) (l : List (MKey × Nat × V)) (ns : List (List UInt8)),args = [.mref o] ∧ L[o]? = some [.mapc kk ck l] ∧ (l.map (·.1)).Perm (ns.map .str) ∧ (∀ n ∈ ns,n.length ≤ 1000) ∧ ns.Pairwise (fun x y => x ≤ y) ∧ ns.length ≤ 1099511627776 ∧ K (.list 1 (ns.map .str) none) L T) ∨ (args = [.raw (.map none)] ∧ K (.list 1 [] none) L T)
theorem sorted_eq {ss ns : List (List UInt8)} (hp : ss.Perm ns) (hs : ns.Pairwise (fun x y => x ≤ y)) : ss.mergeSort (fun x y => decide (x ≤ y)) = ns := by
 rw [mergeSort_of_perm hp]
 exact List.mergeSort_of_pairwise (hs.imp fun h => by simpa using h)
theorem row_rel {B : World} {p0 : Bs} {K : Kw} {L : LL} {T : TT} (hm : Mem Tryz.prog B p0 K L T) {w' : World} (hB : Below K.w.heap.size K.w w') {v : Value} {ns : List (List UInt8)} {e : TypeId} (hrow : w'.ownsRow K.w.heap.size e 1 v ns.length (ns.map encStr)) :
 ∃ K',K'.w = w' ∧ Ext K K' ∧ Mem Tryz.prog B p0 K' L T ∧ Rel K' (.list 1 (ns.map .str) none) v := by
 obtain ⟨he,hm'⟩ := hm.grow (q := fun b o => K.w.heap.size ≤ b ∧ b < w'.heap.size) hB (fun b o h => h)
 refine ⟨_,rfl,he,hm',?_⟩
 have hfl : ∀ l : List (List UInt8),(l.map V.str).flatMap V.cells = l.map V.str := by
  intro l
  induction l with
  | nil => rfl
  | cons x l ih => simp only [List.map_cons,List.flatMap_cons,ih]; rfl
 obtain ⟨h1,h2⟩ := hrow
 rcases h2 with ⟨rfl,hz⟩ | ⟨g,cap,cur,rfl,hg,hh,hc,hcm,hsz,hcur⟩
 · have : ns = [] := List.eq_nil_of_length_eq_zero hz
   subst this
   exact .list 1 [] none none 0 (fun _ => .bool false) (by simp) (by simp) (by simp) (by simp) (by simp) trivial
 · have hcell : ∀ j (hj : j < ns.length),cur[j]? = some (encStr ns[j]) := fun j hj => by
    have := congrArg (·[j]?) hcur
    simp only [Nat.mul_one,List.getElem?_map] at this
    rw [List.getElem?_take_of_lt hj,List.getElem?_eq_getElem hj] at this
    simpa using this
   have hcl : ∀ j (hj : j < ns.length),w'.cell? ((⟨g,0,none⟩ : Addr).add j) = some (encStr (ns.getD j [])) := fun j hj => by
    rw [add_zero']
    simp only [World.cell?,hh]
    rw [if_neg (by simp),hcell j hj,List.getD_eq_getElem?_getD,List.getElem?_eq_getElem hj]
    rfl
   have := Rel.list (K := { K with w := w',prot := fun b o => K.prot b o ∨ (K.w.heap.size ≤ b ∧ b < w'.heap.size) }) 1 (ns.map .str) none (some ⟨g,0,none⟩) cap (fun j => encStr (ns.getD j [])) (by simpa using hc) hcm (by simp [V.cells])
    (fun j hj => ⟨⟨_,rfl,.inr ⟨by rw [add_zero']; exact hg,by rw [add_zero']; exact (Array.getElem?_eq_some_iff.1 hh).1⟩,hcl j (by simpa using hj)⟩,rfl⟩) (fun j hj => ?_) trivial
   · simpa using this
   · have hj' : j < ns.length := by rw [hfl,List.length_map] at hj; exact hj
     simp only [hfl,List.getElem_map]
     rw [List.getD_eq_getElem?_getD,List.getElem?_eq_getElem hj']
     exact .str _
theorem rising_ok : PSound Tryz.prog 27 risingP := by
 intro B p0 K L T args vs Kont hm hk hsz hrel
 have hone : ∀ x,args = [x] → ∃ u,vs = #[u] ∧ Rel K x u := fun x e => by
  subst e
  have h1 : vs.size = 1 := hsz
  refine ⟨vs[0],by apply Array.ext; simp [h1]; intro i h2 h3; simp at h3; subst h3; rfl,?_⟩
  exact hrel 0 (by simp) (by omega)
 rcases hk with ⟨o,kk,ck,l,ns,rfl,hl,hp,hlen,hs,hcnt,hk⟩ | ⟨rfl,hk⟩
 · obtain ⟨u,rfl,r0⟩ := hone _ rfl
   obtain ⟨b,es,rfl,hb,hh,hr,hat⟩ := map_at hm hl r0
   have hll : l.length = ns.length := by simpa using hp.length_eq
   have hkeys : ∀ x ∈ l,∃ n,x.1 = .str n ∧ n.length ≤ 1000 := fun x hx => by
    have := hp.subset (List.mem_map.2 ⟨x,hx,rfl⟩)
    obtain ⟨n,hn,he⟩ := List.mem_map.1 this
    exact ⟨n,he.symm,hlen n hn⟩
   obtain ⟨D0,hown,hsize,hsk⟩ := owns_of hh hr hkeys (by omega)
   have hsk2 : (strKeys D0).Perm ns := by
    refine hsk.trans ?_
    have := hp.map keyB
    simp only [List.map_map] at this
    have e : ns.map (keyB ∘ MKey.str) = ns := by
     have e2 := List.map_congr_left (l := ns) (f := keyB ∘ MKey.str) (g := id) fun _ _ => rfl
     rw [e2,List.map_id]
    rw [e] at this
    exact this
   refine (rising_calls b _ D0 RK K.w hown (by unfold maxLen; omega) (by omega)).mono ?_
   rintro e w' ⟨v,ss,rfl,hS,hrow,hB⟩
   have hpn := hS.trans hsk2
   rw [sorted_eq hpn hs,hpn.length_eq] at hrow
   obtain ⟨K',h1,h2,h3,h4⟩ := row_rel hm hB hrow
   exact ⟨v,K',_,L,T,rfl,h1,h2,h3,h4,hk⟩
 · obtain ⟨u,rfl,r0⟩ := hone _ rfl
   cases r0
   refine (rising_nil K.w).mono ?_
   rintro e w' ⟨v,rfl,hrow,hB⟩
   obtain ⟨K',h1,h2,h3,h4⟩ := row_rel (ns := []) hm hB hrow
   exact ⟨v,K',_,L,T,rfl,h1,h2,h3,h4,hk⟩
end Go.Proofs.YthlmfalfnpjndaaGreat.DiskK
