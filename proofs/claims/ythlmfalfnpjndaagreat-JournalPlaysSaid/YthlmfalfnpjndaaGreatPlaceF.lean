import Derived.Test.YthlmfalfnpjndaaGreatAwX
import Derived.Test.YthlmfalfnpjndaaGreatPlaceC
namespace Go.Proofs.YthlmfalfnpjndaaGreat.Place
open Go Go.Proofs Aw Num DiskM DiskA DiskK DiskC Disk DiskL
set_option linter.unusedSimpArgs false
set_option linter.unusedVariables false
def chunksN (n : Nat) (b : List UInt8) : List (List UInt8) := (List.range ((b.length + n - 1) / n)).map fun i => (b.drop (n * i)).take n
theorem chunksN_len (n : Nat) (b : List UInt8) : (chunksN n b).length = (b.length + n - 1) / n := by simp [chunksN]
theorem chunksN_at {n : Nat} {b : List UInt8} {k : Nat} (h : k < (chunksN n b).length) : (chunksN n b)[k] = (b.drop (n * k)).take n := by simp [chunksN]
theorem chunks_lt {n k : Nat} {b : List UInt8} (hn : 0 < n) : n * k < b.length ↔ k < (chunksN n b).length := by
 rw [chunksN_len,Nat.lt_div_iff_mul_lt hn]
 rw [Nat.mul_comm]
 omega
def chunkP : PM := fun args L T K => ∃ b t n,args = [.bytes b t,.int .i64 n] ∧ 1 ≤ n ∧
 K (.fn (.func 100) [] [.box L.length 0,.box (L ++ [[V.bytes b t]]).length 0]) (L ++ [[.bytes b t]] ++ [[.int .i64 n]]) T
theorem chunk_ok : PSound Tryz.prog 86 chunkP := by
 refine psound tysOk P0ok mix Tryz.func86 rfl ?_
 intro args L T K hm
 obtain ⟨b,t,n,rfl,hn,hK⟩ := hm
 have h1 : decide (n < 1) = false := decide_eq_false (by omega)
 simp (maxSteps:=2000000) only[bitvec_to_nat,seval,↓tcd,Tryz.f86,h1]
 exact ret_of (((Step.refl noS noS L T).app _).app _) hK
def chunkI : IM := fun yb Y args L T K => ∃ (b : List UInt8) (t : Option Nat) (o1 o2 n : Nat),args = [.fn (.yield yb) [] [],.box o1 0,.box o2 0] ∧ 0 < n ∧ n ≤ 1099511627776 ∧ b.length ≤ 1099511627776 ∧
 runY (fun L' T' => (L.length ≤ L'.length ∧ T.length ≤ T'.length) ∧ L'[o1]? = some [.bytes b t] ∧ L'[o2]? = some [.int .i64 n]) Y (fun L' T' => (L.length ≤ L'.length ∧ T.length ≤ T'.length) ∧ K (.tuple []) L' T') ((chunksN n b).map fun x => [.bytes x none]) L T
theorem chunkI_ok : ISound Tryz.prog 100 chunkI := by
 refine isound tysOk P0ok mix Tryz.func100 rfl ?_
 intro yb Y args L T K hY hm
 obtain ⟨b,t,o1,o2,n,rfl,hn,hn2,hb,hrun⟩ := hm
 simp (maxSteps:=2000000) only[bitvec_to_nat,seval,↓tcd,Tryz.f100]
 obtain ⟨xs,hxs⟩ : ∃ xs,xs = chunksN n b := ⟨_,rfl⟩
 rw [← hxs] at hrun
 obtain ⟨S,hS⟩ : ∃ S : LL → TT → Prop,S = fun L' T' => (L.length ≤ L'.length ∧ T.length ≤ T'.length) ∧ L'[o1]? = some [.bytes b t] ∧ L'[o2]? = some [.int .i64 n] := ⟨_,rfl⟩
 rw [← hS] at hrun
 have hSl : ∀ {xs : List (List V)} {L1 : LL} {T1 : TT} {K0 : LL → TT → Prop},runY S Y K0 xs L1 T1 → (L.length ≤ L1.length ∧ T.length ≤ T1.length) ∧ L1[o1]? = some [.bytes b t] ∧ L1[o2]? = some [.int .i64 n] := by
  intro xs L1 T1 K0 h
  have h' : S L1 T1 := by cases xs <;> exact h.1
  rw [hS] at h'
  exact h'
 refine awpLoop_intro (α := {q : Nat × LL × TT // q.1 ≤ xs.length ∧ runY S Y (fun L' T' => (L.length ≤ L'.length ∧ T.length ≤ T'.length) ∧ K (.tuple []) L' T') ((xs.map fun x => [V.bytes x none]).drop q.1) q.2.1 q.2.2})
  (fun q => ⟨[.fn (.yield yb) [] [],.box o1 0,.box o2 0,.any,.int .i64 ((n * q.1.1 : Nat) : Int),.any,.any,.any,.any,.any,.any,.any,.any,.any,.any,.any,.any,.any,.any,.any,.any,.any,.any,.any,.any,.any,.any,.any,.any,.any,.any],q.1.2.1,q.1.2.2⟩) (fun q => xs.length - q.1.1)
  ⟨(0,L,T),Nat.zero_le _,hrun⟩ ?_ ?_ (fun q => (hSl q.2.2).1)
 · simp (maxSteps:=2000000) only[bitvec_to_nat,seval,↓tcd,leLL_self]
   all_goals simp
 · rintro ⟨⟨k,L1,T1⟩,hk,hrun1⟩
   simp only at hk hrun1
   obtain ⟨⟨hl1,ht1⟩,hb1,hb2⟩ := hSl hrun1
   have hlt : n * k < b.length ↔ k < xs.length := by rw [hxs]; exact chunks_lt hn
   by_cases hkm : k < xs.length
   · have hnk : n * k < b.length := hlt.2 hkm
     have hdc : decide (((n * k : Nat) : Int) < (b.length : Int)) = true := decide_eq_true (by omega)
     rw [List.drop_eq_getElem_cons (by simpa using hkm)] at hrun1
     obtain ⟨e,he⟩ : ∃ e,e = min n (b.length - n * k) := ⟨_,rfl⟩
     have hmin : (if ((b.drop (n * k)).length : Int) < (n : Int) then ((b.drop (n * k)).length : Int) else (n : Int)) = (e : Int) := by
      rw [List.length_drop]
      split <;> omega
     have hw1 : IntKind.i64.wrap (((n * k : Nat) : Int) + (e : Int)) = ((n * k + e : Nat) : Int) := by rw [i64w (by omega) (by omega)]; omega
     have hw2 : IntKind.i64.wrap (((n * k : Nat) : Int) + (n : Int)) = ((n * (k + 1) : Nat) : Int) := by rw [i64w (by omega) (by omega),Nat.mul_succ]; omega
     simp (maxSteps:=2000000) only[bitvec_to_nat,seval,↓tcd,hb1,hb2,hdc,Int.toNat_natCast,hmin,hw1]
     refine ⟨by kernel_rfl,⟨by omega,by omega⟩,⟨⟨by omega,by omega⟩,by omega,by omega⟩,⟨hl1,ht1⟩,?_⟩
     have hx : (b.take (n * k + e)).drop (n * k) = xs[k] := by
      subst hxs
      rw [chunksN_at hkm,← List.take_drop,he]
      by_cases h : n ≤ b.length - n * k
      · rw [Nat.min_eq_left h]
      · rw [Nat.min_eq_right (by omega),List.take_of_length_le (by simp),List.take_of_length_le (by simp; omega)]
     rw [hx]
     have hxk : (xs.map fun x => [V.bytes x none])[k]'(by simpa using hkm) = [.bytes xs[k] none] := by simp
     rw [hxk] at hrun1
     refine hY _ _ _ _ _ (fun v L2 T2 hv => ?_) hrun1.2
     split at hv
     · obtain ⟨⟨hl2,ht2⟩,hb12,hb22⟩ := hSl hv
       simp (maxSteps:=2000000) only[bitvec_to_nat,seval,↓tcd,hb12,hb22,hw2]
       refine ⟨⟨(k + 1,L2,T2),by simp only; omega,by simpa using hv⟩,?_,by simp only; omega⟩
       simp (maxSteps:=2000000) only[bitvec_to_nat,seval,↓tcd,leLL_self]
     · simp (maxSteps:=2000000) only[bitvec_to_nat,seval,↓tcd]
       exact ⟨_,_,L2,T2,rfl,hv.1,St.le_self _,hv.2⟩
     · exact hv.elim
   · have hdc : decide (((n * k : Nat) : Int) < (b.length : Int)) = false := decide_eq_false (by omega)
     rw [List.drop_of_length_le (by simp; omega)] at hrun1
     simp (maxSteps:=2000000) only[bitvec_to_nat,seval,↓tcd,hb1,hb2,hdc]
     exact ⟨_,_,L1,T1,rfl,⟨hl1,ht1⟩,St.le_self _,hrun1.2.2⟩
theorem chunks_N (b : List UInt8) : chunks b = chunksN 64 b := rfl
def F1 : Fns := { fn := fun f => P1.fn f,mu := fun d => .no,hp := fun f => if f = 86 then some chunkP else P1.hp f,ord := fun i => none,it := fun f => if f = 100 then some chunkI else P1.it f }
theorem F1_fn (f : FuncId) : F1.fn f = (P1.fn f) := rfl
theorem F1_mu (d : Tmp) : F1.mu d = (.no) := rfl
theorem F1_hp (f : FuncId) : F1.hp f = (if f = 86 then some chunkP else P1.hp f) := rfl
theorem F1_ord (i : Nat) : F1.ord i = (none) := rfl
theorem F1_it (f : FuncId) : F1.it f = (if f = 100 then some chunkI else P1.it f) := rfl
theorem F1_hy (b : Nat) : F1.hy b = none := rfl
theorem F1ok : FnsOk Tryz.prog F1 := FnsOk.same (FnsOk.consP (FnsOk.consI P1ok _ _ chunkI_ok Tryz.func100 (by decide) (fun h => by cases h)) _ _ chunk_ok Tryz.func86 (by decide) (fun h => by cases h)) rfl rfl
attribute [bitvec_to_nat] F1_fn F1_mu F1_hp F1_ord F1_it F1_hy
theorem Step.round {S R S' R' S2 R2 : Nat → Prop} {L L1 L2 : LL} {T T1 T2 : TT} {o : Nat} {x y : List V} (h : Step S R L T S' R' L1 T1) (g : Step S' R' (L1.set o y) T1 S2 R2 L2 T2) (ho : ¬ S o) (hx : L[o]? = some x) :
 L1[o]? = some x ∧ L2[o]? = some y ∧ (L2.set o x)[o]? = some x ∧ Step S R L T S2 R2 (L2.set o x) T2 := by
 have hol := lt_at hx
 have h1 : L1[o]? = some x := by rw [h.keep o hol ho]; exact hx
 have hol1 := lt_at h1
 have ho1 : ¬ S' o := fun hs => (h.own o hs).elim ho (fun h => by omega)
 have h2 : L2[o]? = some y := by rw [g.keep o (by simpa using hol1) ho1,List.getElem?_set_self hol1]
 have hol2 := lt_at h2
 have gl := g.len
 rw [List.length_set] at gl
 have hl := h.len
 refine ⟨h1,h2,List.getElem?_set_self hol2,⟨by rw [List.length_set]; omega,fun i hi hs => ?_,fun i hs => ?_,Nat.le_trans h.tlen g.tlen,fun k hk hr => ?_,fun k hr => ?_⟩⟩
 · by_cases e : o = i
   · subst e; rw [List.getElem?_set_self hol2,hx]
   · rw [List.getElem?_set_ne e,g.keep i (by rw [List.length_set]; omega) (fun h' => (h.own i h').elim hs fun h2 => by omega),List.getElem?_set_ne e,h.keep i hi hs]
 · rcases g.own i hs with h1 | h1
   · exact h.own i h1
   · rw [List.length_set] at h1; exact .inr (by omega)
 · rw [g.tkeep k (by have := h.tlen; omega) (fun h' => (h.town k h').elim hr fun h2 => by omega),h.tkeep k hk hr]
 · rcases g.town k hr with h1 | h1
   · exact h.town k h1
   · exact .inr (Nat.le_trans h.tlen h1)
theorem alike_step {S R S' R' : Nat → Prop} {L L1 L2 : LL} {T T1 : TT} (h : Step S R L T S' R' L1 T1) (hl : L2.length = L1.length) (hk : ∀ i,i < L.length → L2[i]? = L1[i]?) : Step S R L T S' R' L2 T1 :=
 ⟨by rw [hl]; exact h.len,fun i hi hs => (hk i hi).trans (h.keep i hi hs),h.own,h.tlen,h.tkeep,h.town⟩
theorem dAt.set {L : LL} {T : TT} {M : MD} {w : Own} (h : dAt L T M w) {o : Nat} (ho : ¬ w.S o) (y : List V) : dAt (L.set o y) T M w :=
 h.frame (S := fun i => i = o) (S' := fun i => i = o) (R := noS) (R' := noS) ⟨by simp,fun i hi hb => by rw [List.getElem?_set]; simp only [if_neg (fun e : o = i => hb e.symm)],fun i h => .inl h,Nat.le_refl _,fun _ _ _ => rfl,fun _ h => .inl h⟩ (fun i hs e => ho (e ▸ hs)) (fun _ _ h => h)
theorem pre_at : ∀ (l r : List Do) (g : Do) (M : MD),runPre (l ++ g :: r) M → (runF l M).2 = 0 → g.pre (runF l M).1
 | [],r,g,M,h,_ => h.1
 | f :: l,r,g,M,h,hz => by
  obtain ⟨h1,h2⟩ := h
  rw [runF_cons] at hz ⊢
  unfold runFrom at *
  by_cases h0 : (f.f M).2 = 0
  · rw [if_pos h0] at hz ⊢
    exact pre_at l r g _ (h2 h0) hz
  · rw [if_neg h0] at hz
    exact absurd hz h0
def partsOf (n : Name) (b : List UInt8) : List Do := (chunks b).map (appendD n)
def inPartsP : PM := fun args L T K => ∃ M w n b t,args = [.box w.o 0,.str n,.bytes b t] ∧ b.length ≤ 1099511627776 ∧ dAt L T M w ∧ runPre (partsOf n b) M ∧
 ∀ L' T' w',w'.o = w.o → dAt L' T' (runF (partsOf n b) M).1 w' → Step w.S w.R L T w'.S w'.R L' T' → K (codeV (runF (partsOf n b) M).2) L' T'
theorem inParts_ok : PSound Tryz.prog 57 inPartsP := by
 refine psound tysOk F1ok mix Tryz.func57 rfl ?_
 intro args L T K hm
 obtain ⟨M,w,n,b,t,rfl,hb,hd,hp,hK⟩ := hm
 simp (maxSteps:=2000000) only[bitvec_to_nat,seval,↓tcd,Tryz.f57]
 refine ⟨b,t,64,rfl,by omega,?_⟩
 have no : ∀ i,L.length ≤ i → ¬ w.S i := fun i h hs => by have := hd.lt i hs; omega
 have hst5 : Step noS noS L T noS noS (L ++ [[V.box w.o 0]] ++ [[V.str n]] ++ [[V.int .i64 0]] ++ [[V.bytes b t]] ++ [[V.int .i64 64]]) T := (((((Step.refl noS noS L T).app _).app _).app _).app _).app _
 have a1 : (L ++ [[V.box w.o 0]] ++ [[V.str n]] ++ [[V.int .i64 0]] ++ [[V.bytes b t]] ++ [[V.int .i64 64]])[L.length]? = some [.box w.o 0] := by simp
 have a2 : (L ++ [[V.box w.o 0]] ++ [[V.str n]] ++ [[V.int .i64 0]] ++ [[V.bytes b t]] ++ [[V.int .i64 64]])[(L ++ [[V.box w.o 0]]).length]? = some [.str n] := by simp
 have a3 : (L ++ [[V.box w.o 0]] ++ [[V.str n]] ++ [[V.int .i64 0]] ++ [[V.bytes b t]] ++ [[V.int .i64 64]])[(L ++ [[V.box w.o 0]] ++ [[V.str n]]).length]? = some [.int .i64 0] := by simp
 have a4 : (L ++ [[V.box w.o 0]] ++ [[V.str n]] ++ [[V.int .i64 0]] ++ [[V.bytes b t]] ++ [[V.int .i64 64]])[(L ++ [[V.box w.o 0]] ++ [[V.str n]] ++ [[V.int .i64 0]]).length]? = some [.bytes b t] := by simp
 have a5 : (L ++ [[V.box w.o 0]] ++ [[V.str n]] ++ [[V.int .i64 0]] ++ [[V.bytes b t]] ++ [[V.int .i64 64]])[(L ++ [[V.box w.o 0]] ++ [[V.str n]] ++ [[V.int .i64 0]] ++ [[V.bytes b t]]).length]? = some [.int .i64 64] := by simp
 have l2 : (L ++ [[V.box w.o 0]]).length = L.length + 1 := by simp
 have l3 : (L ++ [[V.box w.o 0]] ++ [[V.str n]]).length = L.length + 2 := by simp
 have l4 : (L ++ [[V.box w.o 0]] ++ [[V.str n]] ++ [[V.int .i64 0]]).length = L.length + 3 := by simp
 have l5 : (L ++ [[V.box w.o 0]] ++ [[V.str n]] ++ [[V.int .i64 0]] ++ [[V.bytes b t]]).length = L.length + 4 := by simp
 have l6 : (L ++ [[V.box w.o 0]] ++ [[V.str n]] ++ [[V.int .i64 0]] ++ [[V.bytes b t]] ++ [[V.int .i64 64]]).length = L.length + 5 := by simp
 generalize (L ++ [[V.box w.o 0]] ++ [[V.str n]] ++ [[V.int .i64 0]] ++ [[V.bytes b t]] ++ [[V.int .i64 64]]) = L5 at *
 generalize (L ++ [[V.box w.o 0]] ++ [[V.str n]] ++ [[V.int .i64 0]] ++ [[V.bytes b t]]).length = i5 at *
 generalize (L ++ [[V.box w.o 0]] ++ [[V.str n]] ++ [[V.int .i64 0]]).length = i4 at *
 generalize (L ++ [[V.box w.o 0]] ++ [[V.str n]]).length = i3 at *
 generalize (L ++ [[V.box w.o 0]]).length = i2 at *
 refine awpRange_intro rfl ⟨by simp only; omega,Nat.le_refl _⟩ ?_
 intro yb r hrs hrp
 have hst6 : Step noS noS L T noS noS (L5 ++ [[V.loopc r]]) T := hst5.app _
 have b1 : (L5 ++ [[V.loopc r]])[L.length]? = some [.box w.o 0] := by rw [List.getElem?_append_left (by omega)]; exact a1
 have b2 : (L5 ++ [[V.loopc r]])[i2]? = some [.str n] := by rw [List.getElem?_append_left (by omega)]; exact a2
 have b3 : (L5 ++ [[V.loopc r]])[i3]? = some [.int .i64 0] := by rw [List.getElem?_append_left (by omega)]; exact a3
 have b4 : (L5 ++ [[V.loopc r]])[i4]? = some [.bytes b t] := by rw [List.getElem?_append_left (by omega)]; exact a4
 have b5 : (L5 ++ [[V.loopc r]])[i5]? = some [.int .i64 64] := by rw [List.getElem?_append_left (by omega)]; exact a5
 have b6 : (L5 ++ [[V.loopc r]])[L5.length]? = some [.loopc r] := by simp
 have l7 : (L5 ++ [[V.loopc r]]).length = L.length + 6 := by simp [l6]
 refine ⟨b,t,i4,i5,64,rfl,by omega,by omega,hb,?_⟩
 generalize (L5 ++ [[V.loopc r]]) = L6 at *
 obtain ⟨o,ho⟩ : ∃ o,o = L5.length := ⟨_,rfl⟩
 rw [← ho] at b6 ⊢
 have hd6 : dAt L6 T M w := hd.frame hst6 (fun _ _ h => h) (fun _ _ h => h)
 refine runY_inv (up_mono _) ((chunksN 64 b).map fun x => [V.bytes x none]) (fun k L1 T1 => ∃ w1,w1.o = w.o ∧ dAt L1 T1 (runF ((partsOf n b).take k) M).1 w1 ∧ Step w.S w.R L6 T w1.S w1.R L1 T1 ∧ (runF ((partsOf n b).take k) M).2 = 0) ?_ ?_ ?_ (chunksN 64 b).length 0 L6 T (by simp) ⟨w,rfl,hd6,Step.refl _ _ _ _,rfl⟩
 · rintro k L1 T1 ⟨w1,ho1,hd1,hst1,hz⟩
   refine ⟨⟨hst1.len,hst1.tlen⟩,?_,?_⟩
   · rw [hst1.keep i4 (by omega) (no _ (by omega))]; exact b4
   · rw [hst1.keep i5 (by omega) (no _ (by omega))]; exact b5
 · rintro k hk L1 T1 ⟨w1,ho1,hd1,hst1,hz⟩
   have hkc : k < (chunksN 64 b).length := by simpa using hk
   have hxk : ((chunksN 64 b).map fun x => [V.bytes x none])[k]'hk = [.bytes (chunksN 64 b)[k] none] := by simp
   rw [hxk]
   have c1 : L1[L.length]? = some [.box w.o 0] := by rw [hst1.keep L.length (by omega) (no _ (by omega))]; exact b1
   have c2 : L1[i2]? = some [.str n] := by rw [hst1.keep i2 (by omega) (no _ (by omega))]; exact b2
   have c3 : L1[i3]? = some [.int .i64 0] := by rw [hst1.keep i3 (by omega) (no _ (by omega))]; exact b3
   have c6 : L1[o]? = some [.loopc r] := by rw [hst1.keep o (by omega) (no _ (by omega))]; exact b6
   refine ⟨_,fun _ _ _ h => h,rfl,c6,?_⟩
   have e1 : (L1.set o [.loopc (busyL r)])[L.length]? = some [.box w.o 0] := by rw [List.getElem?_set_ne (by omega)]; exact c1
   have e2 : (L1.set o [.loopc (busyL r)])[i2]? = some [.str n] := by rw [List.getElem?_set_ne (by omega)]; exact c2
   have d3 : i3 < L1.length := lt_at c3
   have hk' : k < (partsOf n b).length := by simpa [partsOf,chunks_N] using hkc
   have hpk : (partsOf n b)[k] = appendD n (chunksN 64 b)[k] := by simp [partsOf,chunks_N]
   have hsplit : partsOf n b = (partsOf n b).take k ++ (partsOf n b)[k] :: (partsOf n b).drop (k + 1) := by rw [List.getElem_cons_drop,List.take_append_drop]
   have hsm : Small (runF ((partsOf n b).take k) M).1 := by
    have := pre_at ((partsOf n b).take k) ((partsOf n b).drop (k + 1)) (partsOf n b)[k] M (by rw [← hsplit]; exact hp) hz
    rw [hpk] at this
    exact this
   have hnext : runF ((partsOf n b).take (k + 1)) M = (runF ((partsOf n b).take k) M).1.append n (chunksN 64 b)[k] := by
    rw [List.take_succ_eq_append_getElem hk',runF_app,hpk]
    unfold runFrom
    rw [if_pos hz]
    show (if _ then _ else _) = _
    split
    · rename_i h
      exact Prod.ext rfl h.symm
    · rfl
   have hcl : (chunksN 64 b)[k].length ≤ 1099511627776 := by rw [chunksN_at hkc,List.length_take]; omega
   generalize (runF ((partsOf n b).take k) M).1 = Mk at *
   generalize (chunksN 64 b)[k] = c at *
   simp (maxSteps:=2000000) only[bitvec_to_nat,seval,↓tcd,c6,e1,e2]
   rw [← ho1]
   refine op_at (if_pos hcl) (dAt.set hd1 (fun hs => (hst1.own _ hs).elim (no _ (by omega)) (fun h => by omega)) _) hsm fun L2 T2 w2 ho2 hd2 hst2 => ?_
   obtain ⟨r1,r2,r3,hst7⟩ := Step.round hst1 hst2 (no _ (by omega)) b6
   have hno2 : ∀ i,L.length ≤ i → i < L6.length → ¬ w2.S i := fun i h1 h2 hs => (hst7.own i hs).elim (no i h1) (fun h => by omega)
   obtain ⟨cd,hcd⟩ : ∃ x,(Mk.append n c).2 = x := ⟨_,rfl⟩
   have hl7 := hst7.len
   have ht7 := hst7.tlen
   rw [List.length_set] at hl7
   have hl2 := hst2.len
   have ht2 := hst2.tlen
   rw [List.length_set] at hl2
   simp only [hcd,code_V]
   by_cases h0 : cd = 0
   · have hcc : decide ((cd : Int) = 0) = true := decide_eq_true (by omega)
     simp (maxSteps:=2000000) only[bitvec_to_nat,seval,↓tcd,hcc]
     refine ⟨r2,_,_,St.le_self _,⟨by simp only [List.length_set]; omega,by simp only; omega⟩,.inl ⟨rfl,w2,ho2,?_,hst7,by rw [hnext,hcd,h0]⟩⟩
     rw [hnext]
     exact dAt.set hd2 (hno2 _ (by omega) (by omega)) _
   · have hcc : decide ((cd : Int) = 0) = false := decide_eq_false (by omega)
     have s1 : L2[i3]? = some [.int .i64 0] := by rw [hst2.keep i3 (by rw [List.length_set]; omega) (fun hs => (hst1.own _ hs).elim (no _ (by omega)) (fun h => by omega)),List.getElem?_set_ne (by omega)]; exact c3
     have s2 : i3 < L2.length := lt_at s1
     simp (maxSteps:=2000000) only[bitvec_to_nat,seval,↓tcd,hcc,s1,s2]
     have s3 : (L2.set i3 [V.int .i64 (cd : Int)])[o]? = some [.loopc (busyL r)] := by rw [List.getElem?_set_ne (by omega)]; exact r2
     have s4 : o < L2.length := lt_at r2
     refine ⟨s3,_,_,St.le_self _,⟨by simp only [List.length_set]; omega,by simp only; omega⟩,.inr ⟨rfl,⟨by simp only [List.length_set]; omega,by simp only; omega⟩,_,by rw [List.getElem?_set_self (by rw [List.length_set]; exact s4)],by simp,?_⟩⟩
     have s5 : ((L2.set i3 [V.int .i64 (cd : Int)]).set o [V.any])[i3]? = some [.int .i64 (cd : Int)] := by
      rw [List.getElem?_set_ne (by omega),List.getElem?_set_self s2]
     have hfin : runF (partsOf n b) M = Mk.append n c := by
      have e : partsOf n b = (partsOf n b).take (k + 1) ++ (partsOf n b).drop (k + 1) := (List.take_append_drop _ _).symm
      rw [e,runF_app,hnext]
      unfold runFrom
      rw [hcd,if_neg h0]
     have hstA : Step w.S w.R L T w2.S w2.R (L2.set o [.loopc r]) T2 := ((Step.refl w.S w.R L T).via hst6 (fun _ h => h.elim) (fun _ h => h.elim)).trans hst7
     have hstB : Step w.S w.R L T w2.S w2.R ((L2.set i3 [V.int .i64 (cd : Int)]).set o [V.any]) T2 := by
      refine alike_step hstA (by simp only [List.length_set]) fun i hi => ?_
      rw [List.getElem?_set_ne (by omega),List.getElem?_set_ne (by omega),List.getElem?_set_ne (by omega)]
     have hg := hK _ T2 w2 (ho2.trans ho1) (by rw [hfin]; exact dAt.set (dAt.set hd2 (hno2 i3 (by omega) (by omega)) [V.int .i64 (cd : Int)]) (hno2 o (by omega) (by omega)) [V.any]) hstB
     rw [hfin,hcd,code_V] at hg
     simp (maxSteps:=2000000) only[bitvec_to_nat,seval,↓tcd,jumpA,s5]
     exact ret_of hstB hg
 · rintro L1 T1 ⟨w1,ho1,hd1,hst1,hz⟩
   have hl1 := hst1.len
   have ht1 := hst1.tlen
   have c6 : L1[o]? = some [.loopc r] := by rw [hst1.keep o (by omega) (no _ (by omega))]; exact b6
   refine ⟨⟨hl1,ht1⟩,r,c6,by rw [hrs]; simp,?_⟩
   rw [hrp]
   have hall : (partsOf n b).take ((chunksN 64 b).map fun x => [V.bytes x none]).length = partsOf n b := List.take_of_length_le (by simp [partsOf,chunks_N])
   rw [hall] at hd1 hz
   have c3 : L1[i3]? = some [.int .i64 0] := by rw [hst1.keep i3 (by omega) (no _ (by omega))]; exact b3
   have s1 : (L1.set o [V.any])[i3]? = some [.int .i64 0] := by rw [List.getElem?_set_ne (by omega)]; exact c3
   have s2 : i3 < (L1.set o [V.any]).length := lt_at s1
   have s3 : ((L1.set o [V.any]).set i3 [V.int .i64 0])[i3]? = some [.int .i64 0] := List.getElem?_set_self s2
   have hno1 : ∀ i,L.length ≤ i → i < L6.length → ¬ w1.S i := fun i h1 h2 hs => (hst1.own i hs).elim (no i h1) (fun h => by omega)
   have hstA : Step w.S w.R L T w1.S w1.R L1 T1 := ((Step.refl w.S w.R L T).via hst6 (fun _ h => h.elim) (fun _ h => h.elim)).trans hst1
   have hstB : Step w.S w.R L T w1.S w1.R ((L1.set o [V.any]).set i3 [V.int .i64 0]) T1 := by
    refine alike_step hstA (by simp only [List.length_set]) fun i hi => ?_
    rw [List.getElem?_set_ne (by omega),List.getElem?_set_ne (by omega)]
   have hg := hK _ T1 w1 ho1 (dAt.set (dAt.set hd1 (hno1 o (by omega) (by omega)) [V.any]) (hno1 i3 (by omega) (by omega)) [V.int .i64 0]) hstB
   rw [hz,code_V] at hg
   simp (maxSteps:=2000000) only[bitvec_to_nat,seval,↓tcd,jumpA,s1,s2,s3]
   exact ret_of hstB hg
end Go.Proofs.YthlmfalfnpjndaaGreat.Place
