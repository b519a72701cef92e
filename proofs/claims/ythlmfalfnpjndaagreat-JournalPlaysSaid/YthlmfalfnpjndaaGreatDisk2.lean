import Derived.Test.YthlmfalfnpjndaaGreatAwX
import Derived.Test.YthlmfalfnpjndaaGreatDisk
import Derived.Test.YthlmfalfnpjndaaGreatDiskC
namespace Go.Proofs.YthlmfalfnpjndaaGreat.Disk
open Go Go.Proofs Aw Num DiskM DiskA DiskK DiskC
set_option linter.unusedSimpArgs false
set_option linter.unusedVariables false
def G9 : Fns := { fn := fun f => G2.fn f,mu := fun d => .no,hp := fun f => if f = 25 then some onP else if f = 27 then some risingP else if f = 28 then some crashFP else if f = 26 then some cloneMP else G2.hp f,ord := fun i => if i = 3 then some [(0,0),(1,0),(2,0),(4,0),(6,0),(7,0),(8,0),(14,0),(3,2),(5,2),(9,2),(10,0),(11,0),(12,0),(13,0)] else if i = 6 then some [(1,0),(2,0),(3,0),(0,2),(4,2),(5,1)] else if i = 14 then some [(0,0),(1,0),(2,0),(4,0),(5,0),(6,0),(3,2),(7,2),(8,0),(9,0),(10,0),(11,0),(12,1)] else none,it := fun f => G2.it f }
theorem G9_fn (f : FuncId) : G9.fn f = (G2.fn f) := rfl
theorem G9_mu (d : Tmp) : G9.mu d = (.no) := rfl
theorem G9_hp (f : FuncId) : G9.hp f = (if f = 25 then some onP else if f = 27 then some risingP else if f = 28 then some crashFP else if f = 26 then some cloneMP else G2.hp f) := rfl
theorem G9_ord (i : Nat) : G9.ord i = (if i = 3 then some [(0,0),(1,0),(2,0),(4,0),(6,0),(7,0),(8,0),(14,0),(3,2),(5,2),(9,2),(10,0),(11,0),(12,0),(13,0)] else if i = 6 then some [(1,0),(2,0),(3,0),(0,2),(4,2),(5,1)] else if i = 14 then some [(0,0),(1,0),(2,0),(4,0),(5,0),(6,0),(3,2),(7,2),(8,0),(9,0),(10,0),(11,0),(12,1)] else none) := rfl
theorem G9_it (f : FuncId) : G9.it f = (G2.it f) := rfl
theorem G9_hy (b : Nat) : G9.hy b = none := rfl
theorem G9ok : FnsOk Tryz.prog G9 := FnsOk.same (FnsOk.consP (FnsOk.consP (FnsOk.consP (FnsOk.consP G2ok _ _ cloneM_ok Tryz.func26 (by decide) (fun h => by cases h)) _ _ crashF_ok Tryz.func28 (by decide) (fun h => by cases h)) _ _ rising_ok Tryz.func27 (by decide) (fun h => by cases h)) _ _ on_ok Tryz.func25 (by decide) (fun h => by cases h)) rfl rfl
attribute [bitvec_to_nat] G9_fn G9_mu G9_hp G9_ord G9_it G9_hy
theorem crs_sum_le {M : MD} (h : M.Ok) (wr : Wreck) : ∀ (l : Names) (k : Nat),((crs M wr l k).map fun x => x.1.length).sum ≤ (l.map fun e => M.size e.2).sum
 | [],_ => Nat.le_refl _
 | e :: r,k => by
  simp only [crs,List.map_cons,List.sum_cons]
  have h1 := crs_sum_le h wr r (k + 1)
  have h2 : (crashF wr k (M.file e.2)).1.length ≤ M.size e.2 := (DiskC.crashF_ok (file_cut h _)).2
  omega
theorem clone_nil {L : LL} {T : TT} {K : V → LL → TT → Prop} (h : K (.raw (.map none)) L T) : cloneMP [.raw (.map none)] L T K := .inr ⟨rfl,h⟩
theorem clone_at {L : LL} {T : TT} {K : V → LL → TT → Prop} {o ck : Nat} {kk : Option IntKind} {l : List (MKey × Nat × V)} (hl : L[o]? = some [.mapc kk ck l]) (h : K (.mref L.length) (L ++ [[.mapc kk ck l]]) T) : cloneMP [.mref o] L T K := .inl ⟨o,kk,ck,l,rfl,hl,h⟩
theorem oc_map : (Value.map none).oneCell' = true := rfl
theorem rising_nilP {L : LL} {T : TT} {K : V → LL → TT → Prop} (h : K (.list 1 [] none) L T) : risingP [.raw (.map none)] L T K := .inr ⟨rfl,h⟩
def crashP : PM := fun args L T K => ∃ (M : MD) (w : Own) (n : Int) (X : V) (bs : List Int),args = [.box w.o 0,.agg [.int .i64 n,X]] ∧ wreckX X bs ∧ bs.length ≤ 9223372036854775807 ∧ dAt L T M w ∧ Small M ∧
 ∀ L' T' w',w'.o = w.o → dAt L' T' (M.crash ⟨n,bs⟩) w' → Step w.S w.R L T w'.S w'.R L' T' → K (codeV 0) L' T'
set_option maxHeartbeats 4000000 in
theorem crash_sound : PSound Tryz.prog 9 crashP := by
 refine psound tysOk G9ok mix Tryz.func9 rfl ?_
 intro args L T K hm
 obtain ⟨M,w,n,X,bs,rfl,hX,hbs,hd,hsm,hK⟩ := hm
 obtain ⟨lf,h1,h2⟩ := hd.head
 have hhead := h1
 unfold headV at h1
 have hlt := lt_at h1
 have hch := hd.chs
 unfold ChsAt at hch
 obtain ⟨a1,a2,a3,a4,a5⟩ := at_ok hd.ok ⟨n,bs⟩
 have fin : ∀ (L' : LL) (w' : Own) (x : List V),w'.o = w.o → dAt (L'.set w.o x) T (mid M (M.at ⟨n,bs⟩) (crs M ⟨n,bs⟩ (M.at ⟨n,bs⟩) 0)) w' → Step w.S w.R L T w'.S w'.R L' T →
  ∃ v r L'' T',codeV 0 = v ∧ (L.length ≤ L''.length ∧ T.length ≤ T'.length) ∧ St.le ⟨[v],L'.set w.o (headV w' (M.crash ⟨n,bs⟩) 0),T⟩ ⟨[r],L'',T'⟩ ∧ K r L'' T' := by
  intro L' w' x ho hd' hst
  have hs := hd'.setHead (M' := M.crash ⟨n,bs⟩) (by rw [crash_eq]) (by rw [crash_eq]) (by rw [crash_eq]) (by rw [crash_eq]; exact hd.ok.room) (by rw [crash_eq]; simp) (lf := 0) (by rw [crash_eq]; intro h; cases h)
  rw [ho,set_set] at hs
  have := hK _ T w' ho hs (hst.set (.inl (mem_o w)) _)
  exact ret_of (hst.set (.inl (mem_o w)) _) this
 cases hms : w.ms with
 | none =>
  have hmaps := hd.maps
  unfold MapsAt at hmaps
  rw [hms] at hmaps
  have hat : M.at ⟨n,bs⟩ = [] := by unfold MD.at play; rw [hmaps.1,hmaps.2,List.take_nil]; rfl
  have hE : headV { o := w.o,ms := none,fs := pick w.fs (M.at ⟨n,bs⟩),tk := none } (M.crash ⟨n,bs⟩) 0 = [.int .i64 M.room,.int .i64 0,.raw (.map none),.raw (.map none),.nils,.bool false,.bool false,.int .i64 0] := by
   rw [crash_eq,hat]; rfl
  have hr := DiskAt.renum (L' := (L ++ [[.int .i64 n,X]]).set w.o (headV { o := w.o,ms := none,fs := pick w.fs (M.at ⟨n,bs⟩),tk := none } (mid M (M.at ⟨n,bs⟩) ((M.at ⟨n,bs⟩).map fun e => M.file e.2)) lf)) (T' := T) hd a1 a2 a3 a4 (ms' := none) (lf := lf) (at_set (by simp; omega) _) h2 (by rw [hat]; exact ⟨rfl,rfl⟩) (fun a b h => by cases h) (fun i hi hio _ => by rw [at_other (Ne.symm hio),at_app hi])
  have hst := (((Step.refl w.S w.R L T).app [[.int .i64 n,X]])).less (S2 := ({ o := w.o,ms := none,fs := pick w.fs (M.at ⟨n,bs⟩),tk := none } : Own).S) (R2 := ({ o := w.o,ms := none,fs := pick w.fs (M.at ⟨n,bs⟩),tk := none } : Own).R) (fun i hi => by rw [hat] at hi; simp [Own.S,Own.mine,pick] at hi; subst hi; exact .inl (mem_o w)) (fun k hk => by cases hk)
  have finN := fin (L ++ [[.int .i64 n,X]]) { o := w.o,ms := none,fs := pick w.fs (M.at ⟨n,bs⟩),tk := none } (headV { o := w.o,ms := none,fs := pick w.fs (M.at ⟨n,bs⟩),tk := none } (mid M (M.at ⟨n,bs⟩) ((M.at ⟨n,bs⟩).map fun e => M.file e.2)) lf) rfl (by rw [hat] at hr ⊢; exact hr) hst
  rw [hE,set_app hlt] at finN
  clear hK fin hr hst hE hat
  cases htk : w.tk with
  | none =>
   simp only [hms,htk,mapV,nilM,chsV] at h1
   simp (maxSteps:=2000000) only[bitvec_to_nat,seval,↓tcd,Tryz.f9,h1,hlt,withinM,Int.toNat_zero]
   first
    | refine ⟨by kernel_rfl,⟨by omega,by have := within_le n 0; omega⟩,?_⟩
    | refine ⟨by kernel_rfl,by omega,⟨by omega,by have := within_le n 0; omega⟩,?_⟩
   refine awpLoop_intro (α := Unit) (fun q => ⟨[.box w.o 0,.any,.any,.box L.length 0,.int .i64 0,.any,.any,.any,.any,.any,.any,.any,.any,.any,.any,.any,.any,.any,.any,.any,.any,.any,.any,.any,.any,.int .i64 0,.int .i64 0,.any,.any,.any,.any,.any,.any,.any,.any,.any,.any,.any,.any,.any,.any,.any,.any,.any,.any,.any,.any,.any,.any,.any,.any,.any,.any,.any,.any,.any,.any,.any,.any,.any,.any,.any,.any,.any,.any,.any,.any,.any,.any,.any,.any,.any,.any,.any,.any,.any,.any,.any,.any,.any,.any,.any,.any,.any,.any,.any,.any,.any,.any,.any,.any,.any,.any,.any,.any],L ++ [[.int .i64 n,X]],T⟩) (fun q => 0) () ?_ ?_ (fun _ => ⟨by simp,Nat.le_refl _⟩)
   · simp (maxSteps:=2000000) only[bitvec_to_nat,seval,↓tcd,leLL_self,List.take_nil]
     all_goals simp
   · rintro ⟨⟩
     simp (maxSteps:=2000000) only[bitvec_to_nat,seval,↓tcd,h1,hlt,List.length_map]
     refine clone_nil ?_
     simp (maxSteps:=2000000) only[bitvec_to_nat,seval,↓tcd,h1,hlt,oc_map]
     refine rising_nilP ?_
     simp (maxSteps:=2000000) only[bitvec_to_nat,seval,↓tcd,h1,hlt]
     refine awpLoop_intro (α := Unit) (fun q => ⟨[.box w.o 0,.any,.any,.box L.length 0,.int .i64 0,.any,.any,.any,.any,.any,.any,.any,.any,.any,.any,.any,.any,.any,.any,.any,.any,.any,.any,.any,.any,.any,.any,.any,.any,.any,.any,.any,.any,.any,.any,.any,.any,.any,.any,.any,.any,.any,.any,.any,.any,.any,.any,.any,.any,.any,.any,.any,.any,.any,.any,.list 1 [] none,.int .i64 0,.int .i64 0,.any,.any,.any,.any,.any,.any,.any,.any,.any,.any,.any,.any,.any,.any,.any,.any,.any,.any,.any,.any,.any,.any,.any,.any,.any,.any,.any,.any,.any,.any,.any,.any,.any,.any,.any,.any,.any],L.set w.o [.int .i64 M.room,.int .i64 0,.raw (.map none),.raw (.map none),.nils,.bool M.down,.bool M.doomed,.int .i64 lf] ++ [[.int .i64 n,X]],T⟩) (fun q => 0) () ?_ ?_ (fun _ => ⟨by simp,Nat.le_refl _⟩)
     · simp (maxSteps:=2000000) only[bitvec_to_nat,seval,↓tcd,leLL_self]
       all_goals simp
     · rintro ⟨⟩
       simp (maxSteps:=2000000) only[bitvec_to_nat,seval,↓tcd,h1,hlt]
       exact finN
  | some k =>
   rw [htk] at hch
   simp only [hms,htk,mapV,nilM,chsV,hmaps.2,List.map_nil,List.length_nil] at h1 hch
   simp (maxSteps:=2000000) only[bitvec_to_nat,seval,↓tcd,Tryz.f9,h1,hlt,hch,withinM,Int.toNat_natCast]
   first
    | refine ⟨by kernel_rfl,⟨by omega,by have := within_le n 0; omega⟩,?_⟩
    | refine ⟨by kernel_rfl,by omega,⟨by omega,by have := within_le n 0; omega⟩,?_⟩
   refine awpLoop_intro (α := Unit) (fun q => ⟨[.box w.o 0,.any,.any,.box L.length 0,.int .i64 0,.any,.any,.any,.any,.any,.any,.any,.any,.any,.any,.any,.any,.any,.any,.any,.any,.any,.any,.any,.any,.int .i64 0,.int .i64 0,.any,.any,.any,.any,.any,.any,.any,.any,.any,.any,.any,.any,.any,.any,.any,.any,.any,.any,.any,.any,.any,.any,.any,.any,.any,.any,.any,.any,.any,.any,.any,.any,.any,.any,.any,.any,.any,.any,.any,.any,.any,.any,.any,.any,.any,.any,.any,.any,.any,.any,.any,.any,.any,.any,.any,.any,.any,.any,.any,.any,.any,.any,.any,.any,.any,.any,.any,.any],L ++ [[.int .i64 n,X]],T⟩) (fun q => 0) () ?_ ?_ (fun _ => ⟨by simp,Nat.le_refl _⟩)
   · simp (maxSteps:=2000000) only[bitvec_to_nat,seval,↓tcd,leLL_self,List.take_nil]
     all_goals simp
   · rintro ⟨⟩
     simp (maxSteps:=2000000) only[bitvec_to_nat,seval,↓tcd,h1,hlt,List.length_map]
     refine clone_nil ?_
     simp (maxSteps:=2000000) only[bitvec_to_nat,seval,↓tcd,h1,hlt,oc_map]
     refine rising_nilP ?_
     simp (maxSteps:=2000000) only[bitvec_to_nat,seval,↓tcd,h1,hlt]
     refine awpLoop_intro (α := Unit) (fun q => ⟨[.box w.o 0,.any,.any,.box L.length 0,.int .i64 0,.any,.any,.any,.any,.any,.any,.any,.any,.any,.any,.any,.any,.any,.any,.any,.any,.any,.any,.any,.any,.any,.any,.any,.any,.any,.any,.any,.any,.any,.any,.any,.any,.any,.any,.any,.any,.any,.any,.any,.any,.any,.any,.any,.any,.any,.any,.any,.any,.any,.any,.list 1 [] none,.int .i64 0,.int .i64 0,.any,.any,.any,.any,.any,.any,.any,.any,.any,.any,.any,.any,.any,.any,.any,.any,.any,.any,.any,.any,.any,.any,.any,.any,.any,.any,.any,.any,.any,.any,.any,.any,.any,.any,.any,.any,.any],L.set w.o [.int .i64 M.room,.int .i64 0,.raw (.map none),.raw (.map none),.nils,.bool M.down,.bool M.doomed,.int .i64 lf] ++ [[.int .i64 n,X]],T⟩) (fun q => 0) () ?_ ?_ (fun _ => ⟨by simp,Nat.le_refl _⟩)
     · simp (maxSteps:=2000000) only[bitvec_to_nat,seval,↓tcd,leLL_self]
       all_goals simp
     · rintro ⟨⟩
       simp (maxSteps:=2000000) only[bitvec_to_nat,seval,↓tcd,h1,hlt]
       exact finN
 | some ab =>
  obtain ⟨a,b⟩ := ab
  obtain ⟨⟨ck,l,hl,hnm⟩,ck2,l2,hl2,hnm2⟩ := names_at hd hms
  cases htk : w.tk with
  | none =>
   rw [htk] at hch
   simp only [hms,htk,mapV,chsV] at h1
   simp (maxSteps:=2000000) only[bitvec_to_nat,seval,↓tcd,Tryz.f9,h1,hlt,withinM,Int.toNat_zero]
   refine ⟨by kernel_rfl,⟨by omega,by have := within_le n 0; omega⟩,?_⟩
   obtain ⟨L2,hL2⟩ : ∃ L2 : LL,L ++ [[.int .i64 n,X]] = L2 := ⟨_,rfl⟩
   rw [hL2]
   have hs2 : Step (fun i => i = b) noS (L ++ [[.int .i64 n,X]]) T (fun i => i = b) noS L2 T := hL2 ▸ Step.refl _ _ _ _
   have hl2n : L2.length = L.length + 1 := by rw [← hL2]; simp
   refine awpLoop_intro (α := Unit) (fun q => ⟨[.box w.o 0,.any,.any,.box L.length 0,.int .i64 0,.any,.any,.any,.any,.any,.any,.any,.any,.any,.any,.any,.any,.any,.any,.any,.any,.any,.any,.any,.any,.int .i64 0,.int .i64 0,.any,.any,.any,.any,.any,.any,.any,.any,.any,.any,.any,.any,.any,.any,.any,.any,.any,.any,.any,.any,.any,.any,.any,.any,.any,.any,.any,.any,.any,.any,.any,.any,.any,.any,.any,.any,.any,.any,.any,.any,.any,.any,.any,.any,.any,.any,.any,.any,.any,.any,.any,.any,.any,.any,.any,.any,.any,.any,.any,.any,.any,.any,.any,.any,.any,.any,.any,.any],L2,T⟩) (fun q => 0) () ?_ ?_ (fun _ => ⟨by show L.length ≤ L2.length; omega,Nat.le_refl _⟩)
   · simp (maxSteps:=2000000) only[bitvec_to_nat,seval,↓tcd,leLL_self]
   · rintro ⟨⟩
     have hob : w.o ≠ b := (hd.o_ne.1 a b hms).2.1
     have k1 : L2[w.o]? = L[w.o]? := by rw [← hL2,at_app hlt]
     rw [h1] at k1
     have hlt2 := lt_at k1
     obtain ⟨ck3,l3,hl3,hnm3⟩ : ∃ ck3 l3,L2[b]? = some [.mapc none ck3 l3] ∧ NMap w.fs l3 (M.at ⟨n,bs⟩) := by
      refine ⟨ck2,l2,by rw [← hL2,at_app (lt_at hl2)]; exact hl2,?_⟩
      have : M.at ⟨n,bs⟩ = M.kept := by unfold MD.at play; rw [hch,List.take_nil]; rfl
      rw [this]; exact hnm2
     simp (maxSteps:=2000000) only[bitvec_to_nat,seval,↓tcd,k1,hlt2,hl3]
     refine clone_at hl3 ?_
     have hwr : L2[L.length]? = some [.int .i64 n,X] := by rw [hs2.keep L.length (by simp) (by have := lt_at hl2; omega),at_new rfl]
     have hltw := lt_at hwr
     have how : w.o ≠ L.length := by omega
     have hwo := Ne.symm how
     simp (maxSteps:=2000000) only[bitvec_to_nat,seval,↓tcd,k1,hlt2]
     have hlen2 : L.length ≤ L2.length := by have := hs2.len; simp at this; omega
     have hln : (M.at ⟨n,bs⟩).length ≤ 1099511627776 := by
      have q1 := nodup_len (r := List.range M.files.length) a3 fun f hf => by
       obtain ⟨e,he,rfl⟩ := List.mem_map.1 hf
       exact List.mem_range.2 (a4 e he)
      have q2 := hsm.nf
      rw [List.length_map,List.length_range] at q1
      omega
     refine at_rising (m := M.at ⟨n,bs⟩) (fs := w.fs) (by rw [at_new (by simp)]) hnm3 a1 a2 hln ?_
     simp (maxSteps:=2000000) only[bitvec_to_nat,seval,↓tcd,k1,hlt2]
     obtain ⟨w0,hw0⟩ : ∃ w0 : Own,w0 = { o := w.o,ms := some (L2.length,b),fs := pick w.fs (M.at ⟨n,bs⟩),tk := none } := ⟨_,rfl⟩
     obtain ⟨A,hA⟩ : ∃ A,M.at ⟨n,bs⟩ = A := ⟨_,rfl⟩
     rw [hA] at a1 a2 a3 a4 a5 hln hnm3 hw0 fin
     have hltA : ∀ e ∈ A,e.2 < w.fs.length := fun e he => by rw [hd.nfs]; exact a4 e he
     have hnA : NMap (pick w.fs A) l3 (num A 0) := NMap.num hnm3 a1.nodup hltA
     have hbl : b < L.length := lt_at hl2
     have hhd : ∀ (fl : List (List UInt8 × Nat)) (x : Int),[V.int .i64 M.room,.int .i64 x,.mref L2.length,.mref b,.nils,.bool M.down,.bool M.doomed,.int .i64 lf] = [.int .i64 M.room,.int .i64 x,mapV w0.ms false,mapV w0.ms true,chsV w0.fs w0.tk [],.bool (mid M A fl).down,.bool (mid M A fl).doomed,.int .i64 lf] := fun fl x => by rw [hw0]; rfl
     have hd0 : dAt ((List.set L2 w.o [.int .i64 M.room,.int .i64 0,.mref L2.length,.mref b,.nils,.bool M.down,.bool M.doomed,.int .i64 lf] ++ [[V.mapc none ck3 l3]] : LL).set w.o (headV w0 (mid M A (A.map fun (e : Name × Nat) => M.file e.2)) lf)) T (mid M A (A.map fun e => M.file e.2)) w0 := by
      rw [hw0]
      refine DiskAt.renum hd a1 a2 a3 a4 (lf := lf) (at_set (by simp; omega) _) h2 ?_ (fun a' b' h => ?_) (fun i' hi' hio hia => ?_)
      · unfold MapsAt
        have hnow : (mid M A (A.map fun e => M.file e.2)).now = num A 0 := rfl
        simp only [hnow]
        refine ⟨⟨ck3,l3,?_,hnA⟩,ck3,l3,?_,hnA⟩
        · rw [at_other (by omega),at_new (by simp)]
        · rw [at_other hob,at_app (by simp; omega),at_other hob,hl3]
      · cases h
        exact ⟨hlen2,a,hms⟩
      · obtain ⟨q1,q2⟩ := hia a b hms
        rw [at_other (Ne.symm hio),at_app (by simp; omega),at_other (Ne.symm hio),hs2.keep i' (by simp; omega) q2,at_app hi']
     have hS0 : ∀ i,w0.S i → w.S i ∨ L.length ≤ i := fun i hi => by
      subst hw0
      simp only [Own.S] at hi
      rw [mine_eq] at hi
      rcases List.mem_cons.1 hi with rfl | hi
      · exact .inl (mem_o w)
      · rcases List.mem_append.1 hi with hi | hi
        · simp only [List.mem_cons,List.not_mem_nil,or_false] at hi
          rcases hi with rfl | rfl
          · exact .inr hlen2
          · exact .inl (mem_ms hms).2
        · obtain ⟨d4⟩ : True := trivial
          have hnd := hd.nodup
          rw [mine_eq] at hnd
          have hd4 := (List.nodup_append.1 (List.nodup_cons.1 hnd).2).2.1
          refine .inl ?_
          show i ∈ w.mine
          rw [mine_eq]
          exact List.mem_cons_of_mem _ (List.mem_append_right _ ((pick_cells hd4 a3 hltA).2 i hi))
     have hR0 : ∀ k,¬ w0.R k := fun k hk => by subst hw0; cases hk
     have hst0 : Step w.S w.R L T w0.S w0.R (List.set L2 w.o [.int .i64 M.room,.int .i64 0,.mref L2.length,.mref b,.nils,.bool M.down,.bool M.doomed,.int .i64 lf] ++ [[.mapc none ck3 l3]]) T :=
      ((((((Step.refl w.S w.R L T).app [[.int .i64 n,X]]).via hs2 (fun i hi => by subst hi; exact .inl (mem_ms hms).2) (fun _ h => h.elim)).set (.inl (mem_o w)) _).app _)).less (fun i hi => (hS0 i hi)) (fun k hk => absurd hk (hR0 k))
     have ho0 : w0.o = w.o := by rw [hw0]
     refine awpLoop_intro (α := {q : Names × Names × LL // A = q.1 ++ q.2.1 ∧ dAt (q.2.2.set w.o (headV w0 (mid M A (crs M ⟨n,bs⟩ q.1 0 ++ q.2.1.map fun e => M.file e.2)) lf)) T (mid M A (crs M ⟨n,bs⟩ q.1 0 ++ q.2.1.map fun e => M.file e.2)) w0 ∧
      q.2.2[w.o]? = some [.int .i64 M.room,.int .i64 ((((crs M ⟨n,bs⟩ q.1 0).map fun x => x.1.length).sum : Nat) : Int),.mref L2.length,.mref b,.nils,.bool M.down,.bool M.doomed,.int .i64 lf] ∧ q.2.2[L.length]? = some [.int .i64 n,X] ∧ q.2.2[L2.length]? = some [.mapc none ck3 l3] ∧ Step w.S w.R L T w0.S w0.R q.2.2 T})
      (fun q => ⟨[.box w.o 0,.any,.any,.box L.length 0,.int .i64 0,.any,.any,.any,.any,.any,.any,.any,.any,.any,.any,.any,.any,.any,.any,.any,.any,.any,.any,.any,.any,.any,.any,.any,.any,.any,.any,.any,.any,.any,.any,.any,.any,.any,.any,.any,.any,.any,.any,.any,.any,.any,.any,.any,.any,.any,.any,.any,.any,.any,.any,.list 1 ((A.map (·.1)).map .str) none,.int .i64 (A.length : Int),.int .i64 (q.1.1.length : Int),.any,.any,.any,.any,.any,.any,.any,.any,.any,.any,.any,.any,.any,.any,.any,.any,.any,.any,.any,.any,.any,.any,.any,.any,.any,.any,.any,.any,.any,.any,.any,.any,.any,.any,.any,.any,.any],q.1.2.2,T⟩) (fun q => q.1.2.1.length)
      ⟨([],A,_),rfl,hd0,by rw [at_app (by simp; omega),at_set hlt2]; rfl,by rw [at_app (by simp; omega),at_other how]; exact hwr,by rw [at_new (by simp)],hst0⟩ ?_ ?_ (fun q => ⟨q.2.2.2.2.2.2.len,Nat.le_refl _⟩)
     · simp (maxSteps:=2000000) only[bitvec_to_nat,seval,↓tcd,leLL_self,hA]
       simp
     · rintro ⟨⟨pre,post,L3⟩,hpp,hd3,h3,hwr3,hmp3,hst3⟩
       simp only at hpp hd3 h3 hwr3 hmp3 hst3
       have hlt3 := lt_at h3
       have hltw3 := lt_at hwr3
       have hltm3 := lt_at hmp3
       cases post with
       | nil =>
        rw [List.append_nil] at hpp
        simp only [List.map_nil,List.append_nil] at hd3
        have hdc : decide ((pre.length : Int) < (A.length : Int)) = false := decide_eq_false (by rw [hpp]; omega)
        simp (maxSteps:=2000000) only[bitvec_to_nat,seval,↓tcd,h3,hlt3,hdc]
        subst hpp
        have hEx : headV w0 (M.crash ⟨n,bs⟩) 0 = [.int .i64 M.room,.int .i64 ((((crs M ⟨n,bs⟩ A 0).map fun x => x.1.length).sum : Nat) : Int),.mref L2.length,.mref b,.nils,.bool false,.bool false,.int .i64 0] := by
         unfold headV
         rw [crash_used,hA,hw0]
         rfl
        have := fin L3 w0 _ ho0 hd3 hst3
        rw [hEx] at this
        exact this
       | cons e post =>
        have hdc : decide ((pre.length : Int) < (A.length : Int)) = true := decide_eq_true (by rw [hpp]; simp; omega)
        have hAi : A[pre.length]? = some e := by rw [hpp,List.getElem?_append_right (Nat.le_refl _)]; simp
        have hgd : (List.map V.str (List.map (fun x => x.1) A)).getD pre.length .any = .str e.1 := by
         rw [List.getD_eq_getElem?_getD,List.getElem?_map,List.getElem?_map,hAi]; rfl
        have hfi : (mid M A (crs M ⟨n,bs⟩ pre 0 ++ (e :: post).map fun e => M.file e.2)).file pre.length = M.file e.2 := by
         unfold MD.file mid
         simp only [List.getD_eq_getElem?_getD]
         rw [List.getElem?_append_right (by rw [crs_len]; exact Nat.le_refl _),crs_len]
         simp
        obtain ⟨fa,ob,f1,f2,f3,f4,f5⟩ := file_at hd3 (f := pre.length) (by simp [mid,crs_len])
        rw [hfi] at f4 f5
        rw [ho0] at f3
        have hfa : fa < L.length := by
         rw [hw0] at f1
         obtain ⟨e',_,q⟩ := pick_some hltA f1
         exact hd.lt _ (mem_fs q).1
        have hmf : mfind l3 (.str e.1) = some (.box fa 0) := by
         rw [hnA.2.2 e.1,nfind_num a1.nodup hAi,← f2,hw0]
         rfl
        have g4 : L3[fa]? = some [bytesV 5 ob (M.file e.2).1,.int .i64 ((M.file e.2).2 : Int)] := by rw [← f4,at_other f3]
        have hXa : X.isAgg = false := by rcases hX with ⟨rfl,_⟩ | ⟨xt,rfl⟩ <;> rfl
        simp (maxSteps:=2000000) only[bitvec_to_nat,seval,↓tcd,h3,hlt3,hdc,hgd,Int.toNat_natCast,List.length_map,hwr3,hltw3,hmp3,hltm3,how,hwo,hmf,hXa]
        have hpl : pre.length < A.length := of_decide_eq_true (by simpa using hdc)
        refine ⟨⟨by omega,by omega⟩,?_⟩
        obtain ⟨y1,hy1⟩ : ∃ y,(crashF ⟨0,bs⟩ pre.length ((M.file e.2).1,(M.file e.2).2)).1 = y := ⟨_,rfl⟩
        obtain ⟨y2,hy2⟩ : ∃ y,(crashF ⟨0,bs⟩ pre.length ((M.file e.2).1,(M.file e.2).2)).2 = y := ⟨_,rfl⟩
        have hcr : crs M ⟨n,bs⟩ (pre ++ [e]) 0 = crs M ⟨n,bs⟩ pre 0 ++ [(y1,y2)] := by
         rw [crs_app,Nat.zero_add,← hy1,← hy2]
         rfl
        refine ⟨fa,_,bs,pre.length,ob,(M.file e.2).1,(M.file e.2).2,rfl,by rcases hX with ⟨rfl,rfl⟩ | ⟨xt,rfl⟩; exact .inr ⟨none,rfl⟩; exact .inr ⟨xt,rfl⟩,hbs,g4,file_cut hd.ok _,fun h => by subst h; exact f5,file_small hsm _,by omega,?_⟩
        rw [hy1,hy2]
        have hyl : y1.length ≤ (M.file e.2).1.length := by rw [← hy1]; exact (DiskC.crashF_ok (wr := ⟨0,bs⟩) (i := pre.length) (file_cut hd.ok e.2)).2
        have hyc : y2 ≤ y1.length := by rw [← hy1,← hy2]; exact (DiskC.crashF_ok (wr := ⟨0,bs⟩) (i := pre.length) (file_cut hd.ok e.2)).1
        have hsum : ((crs M ⟨n,bs⟩ pre 0).map fun x => x.1.length).sum + y1.length ≤ 1099511627776 := by
         have q1 := crs_sum_le hd.ok ⟨n,bs⟩ pre 0
         have q2 := hsm.used
         rw [hpp,List.map_append,List.sum_append,List.map_cons,List.sum_cons] at a5
         have q3 : (M.file e.2).1.length = M.size e.2 := rfl
         omega
        have hsum2 : ((crs M ⟨n,bs⟩ (pre ++ [e]) 0).map fun x => x.1.length).sum = ((crs M ⟨n,bs⟩ pre 0).map fun x => x.1.length).sum + y1.length := by rw [hcr]; simp
        obtain ⟨U,hU⟩ : ∃ U,((crs M ⟨n,bs⟩ pre 0).map fun x => x.1.length).sum = U := ⟨_,rfl⟩
        rw [hU] at h3 hsum hsum2
        have hw : IntKind.i64.wrap ((U : Int) + (y1.length : Int)) = ((U + y1.length : Nat) : Int) := by rw [i64w (by omega) (by omega)]; omega
        have hi1 : IntKind.i64.wrap ((pre.length : Int) + 1) = ((pre ++ [e]).length : Int) := by rw [i64w (by omega) (by omega)]; simp
        have hlt3a : fa < L3.length := lt_at g4
        have hf3 := Ne.symm f3
        have hrow : ob = none → y1 = [] := fun h => by
         subst h
         have : (M.file e.2).1 = [] := f5
         rw [this] at hyl
         exact List.eq_nil_of_length_eq_zero (by simpa using hyl)
        have fin2 : ∀ L4,L4 = (L3.set fa [bytesV 5 ob y1,.int .i64 (y2 : Int)]).set w.o [.int .i64 M.room,.int .i64 ((U + y1.length : Nat) : Int),.mref L2.length,.mref b,.nils,.bool M.down,.bool M.doomed,.int .i64 lf] →
         dAt (L4.set w.o (headV w0 (mid M A (crs M ⟨n,bs⟩ (pre ++ [e]) 0 ++ post.map fun e => M.file e.2)) lf)) T (mid M A (crs M ⟨n,bs⟩ (pre ++ [e]) 0 ++ post.map fun e => M.file e.2)) w0 ∧
         L4[w.o]? = some [.int .i64 M.room,.int .i64 ((((crs M ⟨n,bs⟩ (pre ++ [e]) 0).map fun x => x.1.length).sum : Nat) : Int),.mref L2.length,.mref b,.nils,.bool M.down,.bool M.doomed,.int .i64 lf] ∧ L4[L.length]? = some [.int .i64 n,X] ∧ L4[L2.length]? = some [.mapc none ck3 l3] ∧ Step w.S w.R L T w0.S w0.R L4 T := by
         intro L4 hL4
         have e1 : (mid M A (crs M ⟨n,bs⟩ pre 0 ++ (e :: post).map fun e => M.file e.2)).setFile pre.length (y1,y2) = mid M A (crs M ⟨n,bs⟩ (pre ++ [e]) 0 ++ post.map fun e => M.file e.2) := by
          unfold MD.setFile mid
          simp only
          rw [List.set_append_right _ _ (by rw [crs_len]; exact Nat.le_refl _),crs_len,hcr]
          simp
         have e2 : w0.fs.set pre.length (fa,ob) = w0.fs := by
          apply List.ext_getElem?
          intro j
          by_cases hj : pre.length = j
          · subst hj
            rw [List.getElem?_set_self (List.getElem?_eq_some_iff.1 f1).1,f1]
          · rw [List.getElem?_set_ne hj]
         have ht := hd3.turnFile (L' := L4.set w.o (headV w0 (mid M A (crs M ⟨n,bs⟩ (pre ++ [e]) 0 ++ post.map fun e => M.file e.2)) lf)) (f := pre.length) (a := fa) (ob := ob) (ob' := ob) f1 (x := (y1,y2)) hyc (.inl rfl) (lf := lf)
          (by rw [ho0,e1,at_set (by rw [hL4]; simpa using hlt3)]; rfl) h2 (by rw [at_other f3,hL4,at_other f3,at_set hlt3a])
          (by
           unfold RowAt at f5 ⊢
           cases ob with
           | none => exact hrow rfl
           | some r =>
            obtain ⟨cs,v1,v2,v3⟩ := f5
            have hr1 : w.o ≠ r := by have := (hd3.o_ne.2 _ _ f1).2 r rfl; rw [ho0] at this; exact this
            have hr2 : fa ≠ r := cell_ne hd3 f1
            rw [at_other hr1] at v1
            refine ⟨cs,by rw [at_other hr1,hL4,at_other hr1,at_other hr2]; exact v1,v2,?_⟩
            have q : y1 = (M.file e.2).1.take y1.length := by
             have h0 := (crashF_le bs pre.length (file_cut hd.ok e.2)).2
             rw [hy1,hy2] at h0
             rw [h0,List.length_take,Nat.min_eq_left (Nat.le_trans hyc hyl)]
            show cs.take y1.length = y1.map byteV
            rw [q,List.length_take,Nat.min_eq_left hyl,List.map_take,← v3,List.take_take,Nat.min_eq_left hyl])
          (fun i hi hio hia _ => by rw [ho0] at hio; rw [at_other (Ne.symm hio),hL4,at_other (Ne.symm hio),at_other (Ne.symm hia),at_other (Ne.symm hio)])
         rw [e1,e2] at ht
         refine ⟨ht.1,?_,?_,?_,?_⟩
         · rw [hL4,at_set (by simpa using hlt3),hsum2]
         · rw [hL4,at_other how,at_other (by omega)]; exact hwr3
         · rw [hL4,at_other (by omega),at_other (by omega)]; exact hmp3
         · rw [hL4]
           exact (hst3.set (hS0 fa (mem_fs f1).1) _).set (.inl (mem_o w)) _
        cases ob with
        | none =>
         have hy0 := hrow rfl
         subst hy0
         simp only [bytesV,List.length_nil,Nat.add_zero,Int.natCast_zero,Int.add_zero] at hw fin2
         simp (maxSteps:=2000000) only[bitvec_to_nat,seval,↓tcd,h3,hlt3,hlt3a,f3,hf3,hw,hi1,bytesV,Int.add_zero,hU]
         obtain ⟨v1,v2,v3,v4,v5⟩ := fin2 _ rfl
         refine ⟨by kernel_rfl,⟨(pre ++ [e],post,_),by rw [hpp]; simp,v1,v2,v3,v4,v5⟩,?_,Nat.lt_succ_self _⟩
         simp (maxSteps:=2000000) only[bitvec_to_nat,seval,↓tcd,leLL_self]
        | some r =>
         simp only [bytesV] at fin2
         simp (maxSteps:=2000000) only[bitvec_to_nat,seval,↓tcd,h3,hlt3,hlt3a,f3,hf3,hw,hi1,bytesV,hU]
         obtain ⟨v1,v2,v3,v4,v5⟩ := fin2 _ rfl
         refine ⟨by kernel_rfl,⟨(pre ++ [e],post,_),by rw [hpp]; simp,v1,v2,v3,v4,v5⟩,?_,Nat.lt_succ_self _⟩
         simp (maxSteps:=2000000) only[bitvec_to_nat,seval,↓tcd,leLL_self]
  | some k =>
   rw [htk] at hch
   simp only [hms,htk,mapV,chsV] at h1 hch
   simp (maxSteps:=2000000) only[bitvec_to_nat,seval,↓tcd,Tryz.f9,h1,hlt,hch,withinM,List.length_map,Int.toNat_natCast]
   refine ⟨by kernel_rfl,by omega,⟨by omega,by have := within_le n M.chs.length; omega⟩,?_⟩
   have htake : (List.take (within n M.chs.length) (List.map (chgV w.fs) M.chs)).length = within n M.chs.length := by rw [List.length_take,List.length_map]; have := within_le n M.chs.length; omega
   rw [htake]
   obtain ⟨m,hm⟩ : ∃ m,within n M.chs.length = m := ⟨_,rfl⟩
   have hml : m ≤ M.chs.length := hm ▸ within_le n M.chs.length
   have hsmc := hsm.chs
   have hat : M.at ⟨n,bs⟩ = play M.kept (M.chs.take m) := by rw [← hm]; rfl
   rw [hm]
   refine awpLoop_intro (α := {q : Nat × LL // q.1 ≤ m ∧ Step (fun i => i = b) noS (L ++ [[.int .i64 n,X]]) T (fun i => i = b) noS q.2 T ∧ ∃ ck l,q.2[b]? = some [.mapc none ck l] ∧ NMap w.fs l (play M.kept (M.chs.take q.1))})
    (fun q => ⟨[.box w.o 0,.any,.any,.box L.length 0,.int .i64 0,.any,.any,.any,.any,.any,.any,.any,.any,.any,.any,.any,.any,.any,.any,.any,.any,.any,.any,.any,.list 3 (List.take m (List.map (chgV w.fs) M.chs)) none,.int .i64 (m : Int),.int .i64 (q.1.1 : Int),.any,.any,.any,.any,.any,.any,.any,.any,.any,.any,.any,.any,.any,.any,.any,.any,.any,.any,.any,.any,.any,.any,.any,.any,.any,.any,.any,.any,.any,.any,.any,.any,.any,.any,.any,.any,.any,.any,.any,.any,.any,.any,.any,.any,.any,.any,.any,.any,.any,.any,.any,.any,.any,.any,.any,.any,.any,.any,.any,.any,.any,.any,.any,.any,.any,.any,.any,.any],q.1.2,T⟩) (fun q => m - q.1.1)
    ⟨(0,L ++ [[.int .i64 n,X]]),Nat.zero_le _,Step.refl _ _ _ _,ck2,l2,by rw [at_app (lt_at hl2)]; exact hl2,hnm2⟩ ?_ ?_ (fun q => ⟨Nat.le_trans (by simp) q.2.2.1.len,Nat.le_refl _⟩)
   · simp (maxSteps:=2000000) only[bitvec_to_nat,seval,↓tcd,leLL_self]
     all_goals simp
   · rintro ⟨⟨i,L2⟩,hi,hs2,ck3,l3,hl3,hnm3⟩
     simp only at hi hs2 hl3 hnm3
     have hob : w.o ≠ b := (hd.o_ne.1 a b hms).2.1
     have k1 : L2[w.o]? = L[w.o]? := by rw [hs2.keep w.o (by simp; omega) hob,at_app hlt]
     rw [h1] at k1
     have hlt2 := lt_at k1
     by_cases him : i < m
     · have hdc : decide ((i : Int) < (m : Int)) = true := decide_eq_true (by omega)
       have hic : i < M.chs.length := by omega
       obtain ⟨c,hc⟩ : ∃ c,M.chs[i] = c := ⟨_,rfl⟩
       have hci : M.chs[i]? = some c := by rw [List.getElem?_eq_getElem hic,hc]
       have hgd : (List.take m (List.map (chgV w.fs) M.chs)).getD i .any = .agg [.str c.frm,.str c.to,madeV w.fs c] := by
        rw [List.getD_eq_getElem?_getD,List.getElem?_take_of_lt him,List.getElem?_map,hci]
        rfl
       simp (maxSteps:=2000000) only[bitvec_to_nat,seval,↓tcd,k1,hlt2,hdc,hgd,Int.toNat_natCast,htake,hm]
       have htk1 : M.chs.take (i + 1) = M.chs.take i ++ [c] := by rw [List.take_succ_eq_append_getElem hic,hc]
       have hcan : CanDo (play M.kept (M.chs.take i)) c := by
        have h0 := hd.ok.can
        rw [← List.take_append_drop i M.chs] at h0
        have := canAll_app h0
        rw [List.drop_eq_getElem_cons hic,hc] at this
        exact this.1
       have hi1 : IntKind.i64.wrap ((i : Int) + 1) = ((i + 1 : Nat) : Int) := by rw [i64w (by omega) (by omega)]; omega
       refine ⟨⟨by omega,?_⟩,by kernel_rfl,?_⟩
       · rw [← hm,htake,hm]; omega
       unfold onP
       refine ⟨w.fs,c,play M.kept (M.chs.take i),b,ck3,l3,rfl,by rw [at_app (lt_at hl3)]; exact hl3,hnm3,hcan,fun L3 ck4 l4 hl4 hn4 hst3 => ?_⟩
       simp (maxSteps:=2000000) only[bitvec_to_nat,seval,↓tcd,hi1]
       refine ⟨⟨(i + 1,L3),him,(hs2.app _).via hst3 (fun i hi => .inl hi) (fun _ h => h.elim),ck4,l4,hl4,?_⟩,?_,by simp only; omega⟩
       · simp only
         rw [htk1,play_snoc]; exact hn4
       · simp (maxSteps:=2000000) only[bitvec_to_nat,seval,↓tcd,leLL_self]
     · have hdc : decide ((i : Int) < (m : Int)) = false := decide_eq_false (by omega)
       have hie : i = m := by omega
       subst hie
       rw [← hat] at hnm3
       simp (maxSteps:=2000000) only[bitvec_to_nat,seval,↓tcd,k1,hlt2,hdc,hl3]
       refine clone_at hl3 ?_
       have hwr : L2[L.length]? = some [.int .i64 n,X] := by rw [hs2.keep L.length (by simp) (by have := lt_at hl2; omega),at_new rfl]
       have hltw := lt_at hwr
       have how : w.o ≠ L.length := by omega
       have hwo := Ne.symm how
       simp (maxSteps:=2000000) only[bitvec_to_nat,seval,↓tcd,k1,hlt2]
       have hlen2 : L.length ≤ L2.length := by have := hs2.len; simp at this; omega
       have hln : (M.at ⟨n,bs⟩).length ≤ 1099511627776 := by
        have q1 := nodup_len (r := List.range M.files.length) a3 fun f hf => by
         obtain ⟨e,he,rfl⟩ := List.mem_map.1 hf
         exact List.mem_range.2 (a4 e he)
        have q2 := hsm.nf
        rw [List.length_map,List.length_range] at q1
        omega
       refine at_rising (m := M.at ⟨n,bs⟩) (fs := w.fs) (by rw [at_new (by simp)]) hnm3 a1 a2 hln ?_
       simp (maxSteps:=2000000) only[bitvec_to_nat,seval,↓tcd,k1,hlt2]
       obtain ⟨w0,hw0⟩ : ∃ w0 : Own,w0 = { o := w.o,ms := some (L2.length,b),fs := pick w.fs (M.at ⟨n,bs⟩),tk := none } := ⟨_,rfl⟩
       obtain ⟨A,hA⟩ : ∃ A,M.at ⟨n,bs⟩ = A := ⟨_,rfl⟩
       rw [hA] at a1 a2 a3 a4 a5 hln hnm3 hw0 fin
       have hltA : ∀ e ∈ A,e.2 < w.fs.length := fun e he => by rw [hd.nfs]; exact a4 e he
       have hnA : NMap (pick w.fs A) l3 (num A 0) := NMap.num hnm3 a1.nodup hltA
       have hbl : b < L.length := lt_at hl2
       have hhd : ∀ (fl : List (List UInt8 × Nat)) (x : Int),[V.int .i64 M.room,.int .i64 x,.mref L2.length,.mref b,.nils,.bool M.down,.bool M.doomed,.int .i64 lf] = [.int .i64 M.room,.int .i64 x,mapV w0.ms false,mapV w0.ms true,chsV w0.fs w0.tk [],.bool (mid M A fl).down,.bool (mid M A fl).doomed,.int .i64 lf] := fun fl x => by rw [hw0]; rfl
       have hd0 : dAt ((List.set L2 w.o [.int .i64 M.room,.int .i64 0,.mref L2.length,.mref b,.nils,.bool M.down,.bool M.doomed,.int .i64 lf] ++ [[V.mapc none ck3 l3]] : LL).set w.o (headV w0 (mid M A (A.map fun (e : Name × Nat) => M.file e.2)) lf)) T (mid M A (A.map fun e => M.file e.2)) w0 := by
        rw [hw0]
        refine DiskAt.renum hd a1 a2 a3 a4 (lf := lf) (at_set (by simp; omega) _) h2 ?_ (fun a' b' h => ?_) (fun i' hi' hio hia => ?_)
        · unfold MapsAt
          have hnow : (mid M A (A.map fun e => M.file e.2)).now = num A 0 := rfl
          simp only [hnow]
          refine ⟨⟨ck3,l3,?_,hnA⟩,ck3,l3,?_,hnA⟩
          · rw [at_other (by omega),at_new (by simp)]
          · rw [at_other hob,at_app (by simp; omega),at_other hob,hl3]
        · cases h
          exact ⟨hlen2,a,hms⟩
        · obtain ⟨q1,q2⟩ := hia a b hms
          rw [at_other (Ne.symm hio),at_app (by simp; omega),at_other (Ne.symm hio),hs2.keep i' (by simp; omega) q2,at_app hi']
       have hS0 : ∀ i,w0.S i → w.S i ∨ L.length ≤ i := fun i hi => by
        subst hw0
        simp only [Own.S] at hi
        rw [mine_eq] at hi
        rcases List.mem_cons.1 hi with rfl | hi
        · exact .inl (mem_o w)
        · rcases List.mem_append.1 hi with hi | hi
          · simp only [List.mem_cons,List.not_mem_nil,or_false] at hi
            rcases hi with rfl | rfl
            · exact .inr hlen2
            · exact .inl (mem_ms hms).2
          · obtain ⟨d4⟩ : True := trivial
            have hnd := hd.nodup
            rw [mine_eq] at hnd
            have hd4 := (List.nodup_append.1 (List.nodup_cons.1 hnd).2).2.1
            refine .inl ?_
            show i ∈ w.mine
            rw [mine_eq]
            exact List.mem_cons_of_mem _ (List.mem_append_right _ ((pick_cells hd4 a3 hltA).2 i hi))
       have hR0 : ∀ k,¬ w0.R k := fun k hk => by subst hw0; cases hk
       have hst0 : Step w.S w.R L T w0.S w0.R (List.set L2 w.o [.int .i64 M.room,.int .i64 0,.mref L2.length,.mref b,.nils,.bool M.down,.bool M.doomed,.int .i64 lf] ++ [[.mapc none ck3 l3]]) T :=
        ((((((Step.refl w.S w.R L T).app [[.int .i64 n,X]]).via hs2 (fun i hi => by subst hi; exact .inl (mem_ms hms).2) (fun _ h => h.elim)).set (.inl (mem_o w)) _).app _)).less (fun i hi => (hS0 i hi)) (fun k hk => absurd hk (hR0 k))
       have ho0 : w0.o = w.o := by rw [hw0]
       refine awpLoop_intro (α := {q : Names × Names × LL // A = q.1 ++ q.2.1 ∧ dAt (q.2.2.set w.o (headV w0 (mid M A (crs M ⟨n,bs⟩ q.1 0 ++ q.2.1.map fun e => M.file e.2)) lf)) T (mid M A (crs M ⟨n,bs⟩ q.1 0 ++ q.2.1.map fun e => M.file e.2)) w0 ∧
        q.2.2[w.o]? = some [.int .i64 M.room,.int .i64 ((((crs M ⟨n,bs⟩ q.1 0).map fun x => x.1.length).sum : Nat) : Int),.mref L2.length,.mref b,.nils,.bool M.down,.bool M.doomed,.int .i64 lf] ∧ q.2.2[L.length]? = some [.int .i64 n,X] ∧ q.2.2[L2.length]? = some [.mapc none ck3 l3] ∧ Step w.S w.R L T w0.S w0.R q.2.2 T})
        (fun q => ⟨[.box w.o 0,.any,.any,.box L.length 0,.int .i64 0,.any,.any,.any,.any,.any,.any,.any,.any,.any,.any,.any,.any,.any,.any,.any,.any,.any,.any,.any,.any,.any,.any,.any,.any,.any,.any,.any,.any,.any,.any,.any,.any,.any,.any,.any,.any,.any,.any,.any,.any,.any,.any,.any,.any,.any,.any,.any,.any,.any,.any,.list 1 ((A.map (·.1)).map .str) none,.int .i64 (A.length : Int),.int .i64 (q.1.1.length : Int),.any,.any,.any,.any,.any,.any,.any,.any,.any,.any,.any,.any,.any,.any,.any,.any,.any,.any,.any,.any,.any,.any,.any,.any,.any,.any,.any,.any,.any,.any,.any,.any,.any,.any,.any,.any,.any],q.1.2.2,T⟩) (fun q => q.1.2.1.length)
        ⟨([],A,_),rfl,hd0,by rw [at_app (by simp; omega),at_set hlt2]; rfl,by rw [at_app (by simp; omega),at_other how]; exact hwr,by rw [at_new (by simp)],hst0⟩ ?_ ?_ (fun q => ⟨q.2.2.2.2.2.2.len,Nat.le_refl _⟩)
       · simp (maxSteps:=2000000) only[bitvec_to_nat,seval,↓tcd,leLL_self,hA]
         simp
       · rintro ⟨⟨pre,post,L3⟩,hpp,hd3,h3,hwr3,hmp3,hst3⟩
         simp only at hpp hd3 h3 hwr3 hmp3 hst3
         have hlt3 := lt_at h3
         have hltw3 := lt_at hwr3
         have hltm3 := lt_at hmp3
         cases post with
         | nil =>
          rw [List.append_nil] at hpp
          simp only [List.map_nil,List.append_nil] at hd3
          have hdc : decide ((pre.length : Int) < (A.length : Int)) = false := decide_eq_false (by rw [hpp]; omega)
          simp (maxSteps:=2000000) only[bitvec_to_nat,seval,↓tcd,h3,hlt3,hdc]
          subst hpp
          have hEx : headV w0 (M.crash ⟨n,bs⟩) 0 = [.int .i64 M.room,.int .i64 ((((crs M ⟨n,bs⟩ A 0).map fun x => x.1.length).sum : Nat) : Int),.mref L2.length,.mref b,.nils,.bool false,.bool false,.int .i64 0] := by
           unfold headV
           rw [crash_used,hA,hw0]
           rfl
          have := fin L3 w0 _ ho0 hd3 hst3
          rw [hEx] at this
          exact this
         | cons e post =>
          have hdc : decide ((pre.length : Int) < (A.length : Int)) = true := decide_eq_true (by rw [hpp]; simp; omega)
          have hAi : A[pre.length]? = some e := by rw [hpp,List.getElem?_append_right (Nat.le_refl _)]; simp
          have hgd : (List.map V.str (List.map (fun x => x.1) A)).getD pre.length .any = .str e.1 := by
           rw [List.getD_eq_getElem?_getD,List.getElem?_map,List.getElem?_map,hAi]; rfl
          have hfi : (mid M A (crs M ⟨n,bs⟩ pre 0 ++ (e :: post).map fun e => M.file e.2)).file pre.length = M.file e.2 := by
           unfold MD.file mid
           simp only [List.getD_eq_getElem?_getD]
           rw [List.getElem?_append_right (by rw [crs_len]; exact Nat.le_refl _),crs_len]
           simp
          obtain ⟨fa,ob,f1,f2,f3,f4,f5⟩ := file_at hd3 (f := pre.length) (by simp [mid,crs_len])
          rw [hfi] at f4 f5
          rw [ho0] at f3
          have hfa : fa < L.length := by
           rw [hw0] at f1
           obtain ⟨e',_,q⟩ := pick_some hltA f1
           exact hd.lt _ (mem_fs q).1
          have hmf : mfind l3 (.str e.1) = some (.box fa 0) := by
           rw [hnA.2.2 e.1,nfind_num a1.nodup hAi,← f2,hw0]
           rfl
          have g4 : L3[fa]? = some [bytesV 5 ob (M.file e.2).1,.int .i64 ((M.file e.2).2 : Int)] := by rw [← f4,at_other f3]
          have hXa : X.isAgg = false := by rcases hX with ⟨rfl,_⟩ | ⟨xt,rfl⟩ <;> rfl
          simp (maxSteps:=2000000) only[bitvec_to_nat,seval,↓tcd,h3,hlt3,hdc,hgd,Int.toNat_natCast,List.length_map,hwr3,hltw3,hmp3,hltm3,how,hwo,hmf,hXa]
          have hpl : pre.length < A.length := of_decide_eq_true (by simpa using hdc)
          refine ⟨⟨by omega,by omega⟩,?_⟩
          obtain ⟨y1,hy1⟩ : ∃ y,(crashF ⟨0,bs⟩ pre.length ((M.file e.2).1,(M.file e.2).2)).1 = y := ⟨_,rfl⟩
          obtain ⟨y2,hy2⟩ : ∃ y,(crashF ⟨0,bs⟩ pre.length ((M.file e.2).1,(M.file e.2).2)).2 = y := ⟨_,rfl⟩
          have hcr : crs M ⟨n,bs⟩ (pre ++ [e]) 0 = crs M ⟨n,bs⟩ pre 0 ++ [(y1,y2)] := by
           rw [crs_app,Nat.zero_add,← hy1,← hy2]
           rfl
          refine ⟨fa,_,bs,pre.length,ob,(M.file e.2).1,(M.file e.2).2,rfl,by rcases hX with ⟨rfl,rfl⟩ | ⟨xt,rfl⟩; exact .inr ⟨none,rfl⟩; exact .inr ⟨xt,rfl⟩,hbs,g4,file_cut hd.ok _,fun h => by subst h; exact f5,file_small hsm _,by omega,?_⟩
          rw [hy1,hy2]
          have hyl : y1.length ≤ (M.file e.2).1.length := by rw [← hy1]; exact (DiskC.crashF_ok (wr := ⟨0,bs⟩) (i := pre.length) (file_cut hd.ok e.2)).2
          have hyc : y2 ≤ y1.length := by rw [← hy1,← hy2]; exact (DiskC.crashF_ok (wr := ⟨0,bs⟩) (i := pre.length) (file_cut hd.ok e.2)).1
          have hsum : ((crs M ⟨n,bs⟩ pre 0).map fun x => x.1.length).sum + y1.length ≤ 1099511627776 := by
           have q1 := crs_sum_le hd.ok ⟨n,bs⟩ pre 0
           have q2 := hsm.used
           rw [hpp,List.map_append,List.sum_append,List.map_cons,List.sum_cons] at a5
           have q3 : (M.file e.2).1.length = M.size e.2 := rfl
           omega
          have hsum2 : ((crs M ⟨n,bs⟩ (pre ++ [e]) 0).map fun x => x.1.length).sum = ((crs M ⟨n,bs⟩ pre 0).map fun x => x.1.length).sum + y1.length := by rw [hcr]; simp
          obtain ⟨U,hU⟩ : ∃ U,((crs M ⟨n,bs⟩ pre 0).map fun x => x.1.length).sum = U := ⟨_,rfl⟩
          rw [hU] at h3 hsum hsum2
          have hw : IntKind.i64.wrap ((U : Int) + (y1.length : Int)) = ((U + y1.length : Nat) : Int) := by rw [i64w (by omega) (by omega)]; omega
          have hi1 : IntKind.i64.wrap ((pre.length : Int) + 1) = ((pre ++ [e]).length : Int) := by rw [i64w (by omega) (by omega)]; simp
          have hlt3a : fa < L3.length := lt_at g4
          have hf3 := Ne.symm f3
          have hrow : ob = none → y1 = [] := fun h => by
           subst h
           have : (M.file e.2).1 = [] := f5
           rw [this] at hyl
           exact List.eq_nil_of_length_eq_zero (by simpa using hyl)
          have fin2 : ∀ L4,L4 = (L3.set fa [bytesV 5 ob y1,.int .i64 (y2 : Int)]).set w.o [.int .i64 M.room,.int .i64 ((U + y1.length : Nat) : Int),.mref L2.length,.mref b,.nils,.bool M.down,.bool M.doomed,.int .i64 lf] →
           dAt (L4.set w.o (headV w0 (mid M A (crs M ⟨n,bs⟩ (pre ++ [e]) 0 ++ post.map fun e => M.file e.2)) lf)) T (mid M A (crs M ⟨n,bs⟩ (pre ++ [e]) 0 ++ post.map fun e => M.file e.2)) w0 ∧
           L4[w.o]? = some [.int .i64 M.room,.int .i64 ((((crs M ⟨n,bs⟩ (pre ++ [e]) 0).map fun x => x.1.length).sum : Nat) : Int),.mref L2.length,.mref b,.nils,.bool M.down,.bool M.doomed,.int .i64 lf] ∧ L4[L.length]? = some [.int .i64 n,X] ∧ L4[L2.length]? = some [.mapc none ck3 l3] ∧ Step w.S w.R L T w0.S w0.R L4 T := by
           intro L4 hL4
           have e1 : (mid M A (crs M ⟨n,bs⟩ pre 0 ++ (e :: post).map fun e => M.file e.2)).setFile pre.length (y1,y2) = mid M A (crs M ⟨n,bs⟩ (pre ++ [e]) 0 ++ post.map fun e => M.file e.2) := by
            unfold MD.setFile mid
            simp only
            rw [List.set_append_right _ _ (by rw [crs_len]; exact Nat.le_refl _),crs_len,hcr]
            simp
           have e2 : w0.fs.set pre.length (fa,ob) = w0.fs := by
            apply List.ext_getElem?
            intro j
            by_cases hj : pre.length = j
            · subst hj
              rw [List.getElem?_set_self (List.getElem?_eq_some_iff.1 f1).1,f1]
            · rw [List.getElem?_set_ne hj]
           have ht := hd3.turnFile (L' := L4.set w.o (headV w0 (mid M A (crs M ⟨n,bs⟩ (pre ++ [e]) 0 ++ post.map fun e => M.file e.2)) lf)) (f := pre.length) (a := fa) (ob := ob) (ob' := ob) f1 (x := (y1,y2)) hyc (.inl rfl) (lf := lf)
            (by rw [ho0,e1,at_set (by rw [hL4]; simpa using hlt3)]; rfl) h2 (by rw [at_other f3,hL4,at_other f3,at_set hlt3a])
            (by
             unfold RowAt at f5 ⊢
             cases ob with
             | none => exact hrow rfl
             | some r =>
              obtain ⟨cs,v1,v2,v3⟩ := f5
              have hr1 : w.o ≠ r := by have := (hd3.o_ne.2 _ _ f1).2 r rfl; rw [ho0] at this; exact this
              have hr2 : fa ≠ r := cell_ne hd3 f1
              rw [at_other hr1] at v1
              refine ⟨cs,by rw [at_other hr1,hL4,at_other hr1,at_other hr2]; exact v1,v2,?_⟩
              have q : y1 = (M.file e.2).1.take y1.length := by
               have h0 := (crashF_le bs pre.length (file_cut hd.ok e.2)).2
               rw [hy1,hy2] at h0
               rw [h0,List.length_take,Nat.min_eq_left (Nat.le_trans hyc hyl)]
              show cs.take y1.length = y1.map byteV
              rw [q,List.length_take,Nat.min_eq_left hyl,List.map_take,← v3,List.take_take,Nat.min_eq_left hyl])
            (fun i hi hio hia _ => by rw [ho0] at hio; rw [at_other (Ne.symm hio),hL4,at_other (Ne.symm hio),at_other (Ne.symm hia),at_other (Ne.symm hio)])
           rw [e1,e2] at ht
           refine ⟨ht.1,?_,?_,?_,?_⟩
           · rw [hL4,at_set (by simpa using hlt3),hsum2]
           · rw [hL4,at_other how,at_other (by omega)]; exact hwr3
           · rw [hL4,at_other (by omega),at_other (by omega)]; exact hmp3
           · rw [hL4]
             exact (hst3.set (hS0 fa (mem_fs f1).1) _).set (.inl (mem_o w)) _
          cases ob with
          | none =>
           have hy0 := hrow rfl
           subst hy0
           simp only [bytesV,List.length_nil,Nat.add_zero,Int.natCast_zero,Int.add_zero] at hw fin2
           simp (maxSteps:=2000000) only[bitvec_to_nat,seval,↓tcd,h3,hlt3,hlt3a,f3,hf3,hw,hi1,bytesV,Int.add_zero,hU]
           obtain ⟨v1,v2,v3,v4,v5⟩ := fin2 _ rfl
           refine ⟨by kernel_rfl,⟨(pre ++ [e],post,_),by rw [hpp]; simp,v1,v2,v3,v4,v5⟩,?_,Nat.lt_succ_self _⟩
           simp (maxSteps:=2000000) only[bitvec_to_nat,seval,↓tcd,leLL_self]
          | some r =>
           simp only [bytesV] at fin2
           simp (maxSteps:=2000000) only[bitvec_to_nat,seval,↓tcd,h3,hlt3,hlt3a,f3,hf3,hw,hi1,bytesV,hU]
           obtain ⟨v1,v2,v3,v4,v5⟩ := fin2 _ rfl
           refine ⟨by kernel_rfl,⟨(pre ++ [e],post,_),by rw [hpp]; simp,v1,v2,v3,v4,v5⟩,?_,Nat.lt_succ_self _⟩
           simp (maxSteps:=2000000) only[bitvec_to_nat,seval,↓tcd,leLL_self]
end Go.Proofs.YthlmfalfnpjndaaGreat.Disk
