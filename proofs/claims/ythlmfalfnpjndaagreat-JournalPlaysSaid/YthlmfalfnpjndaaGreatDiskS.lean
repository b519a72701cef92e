import Derived.Test.YthlmfalfnpjndaaGreatAwX
import Derived.Test.YthlmfalfnpjndaaGreatDiskL
namespace Go.Proofs.YthlmfalfnpjndaaGreat.DiskL
open Go Go.Proofs Aw Num DiskM DiskA DiskK DiskC Disk
set_option linter.unusedSimpArgs false
set_option linter.unusedVariables false
def H3 : Fns := { fn := fun f => H0.fn f,mu := fun d => .no,hp := fun f => if f = 5 then some newP else if f = 55 then some createP else if f = 13 then some readP else if f = 61 then some syncNamesP else if f = 9 then some crashP else if f = 21 then some appendP else H0.hp f,ord := fun i => none,it := fun f => H0.it f }
theorem H3_fn (f : FuncId) : H3.fn f = (H0.fn f) := rfl
theorem H3_mu (d : Tmp) : H3.mu d = (.no) := rfl
theorem H3_hp (f : FuncId) : H3.hp f = (if f = 5 then some newP else if f = 55 then some createP else if f = 13 then some readP else if f = 61 then some syncNamesP else if f = 9 then some crashP else if f = 21 then some appendP else H0.hp f) := rfl
theorem H3_ord (i : Nat) : H3.ord i = (none) := rfl
theorem H3_it (f : FuncId) : H3.it f = (H0.it f) := rfl
theorem H3_hy (b : Nat) : H3.hy b = none := rfl
attribute [bitvec_to_nat] H3_fn H3_mu H3_hp H3_ord H3_it H3_hy
def A1 : MD := ⟨[([],0)],[],[⟨[],[97],0⟩],9,false,false,0⟩
def A2 : MD := ⟨[([0,0,0,0,0],0)],[],[⟨[],[97],0⟩],9,false,false,0⟩
def A3 : MD := ⟨[],[],[],9,false,false,0⟩
def A4 : MD := ⟨[([],0)],[([97],0)],[],9,false,false,0⟩
theorem s1 : (DiskM.new 9).create [97] = (A1,0) := by kernel_rfl
theorem s2 : A1.append [97] [0,0,0,0,0] = (A2,0) := by kernel_rfl
theorem s3 : A2.crash ⟨0,[]⟩ = A3 := by kernel_rfl
theorem s4 : A3.names = (A3,0) := by kernel_rfl
theorem s5 : A3.create [97] = (A1,0) := by kernel_rfl
theorem op_o {op : List V → Option (MD → MD × V)} {L : LL} {T : TT} {M : MD} {w : Own} {o : Nat} (ho : w.o = o) {rest : List V} {g : MD → MD × V} {K : V → LL → TT → Prop} (hg : op rest = some g) (hd : dAt L T M w) (hs : Small M)
 (hK : ∀ L' T' w',w'.o = o → dAt L' T' (g M).1 w' → Step w.S w.R L T w'.S w'.R L' T' → K (g M).2 L' T') : opP op (.box o 0 :: rest) L T K := by
 subst ho
 exact ⟨M,w,rest,g,rfl,hg,hd,hs,hK⟩
theorem crash_o {L : LL} {T : TT} {M : MD} {w : Own} {o : Nat} (ho : w.o = o) {n : Int} {X : V} (bs : List Int) {K : V → LL → TT → Prop} (hX : wreckX X bs) (hb : bs.length ≤ 9223372036854775807) (hd : dAt L T M w) (hs : Small M)
 (hK : ∀ L' T' w',w'.o = o → dAt L' T' (M.crash ⟨n,bs⟩) w' → Step w.S w.R L T w'.S w'.R L' T' → K (codeV 0) L' T') : crashP [.box o 0,.agg [.int .i64 n,X]] L T K := by
 subst ho
 exact ⟨M,w,n,X,bs,rfl,hX,hb,hd,hs,hK⟩
end Go.Proofs.YthlmfalfnpjndaaGreat.DiskL
namespace Go.Proofs.YthlmfalfnpjndaaGreat.DiskL
open Go Go.Proofs Aw Num DiskM DiskA DiskK DiskC Disk
set_option linter.unusedSimpArgs false
set_option linter.unusedVariables false
structure Sz (k : Nat) (M : MD) : Prop where
 chs : M.chs.length ≤ k
 nf : M.files.length ≤ k
 used : M.used ≤ 50 * k
 files : ∀ x ∈ M.files,x.1.length ≤ 50 * k
theorem Sz.mono {k k' : Nat} {M : MD} (h : Sz k M) (hk : k ≤ k') : Sz k' M := ⟨by have := h.chs; omega,by have := h.nf; omega,by have := h.used; omega,fun x hx => by have := h.files x hx; omega⟩
theorem Sz.small {k : Nat} {M : MD} (h : Sz k M) (hk : k ≤ 10000) : Small M := ⟨by have := h.chs; omega,by have := h.used; omega,fun x hx => by have := h.files x hx; omega,by have := h.nf; omega⟩
theorem Sz.same {k : Nat} {M M' : MD} (h : Sz k M) (hf : M'.files = M.files) (hk : M'.kept = M.kept) (hc : M'.chs = M.chs) : Sz k M' := ⟨by rw [hc]; exact h.chs,by rw [hf]; exact h.nf,by rw [used_eq hf hk hc]; exact h.used,by rw [hf]; exact h.files⟩
theorem Sz.begin {k : Nat} {M : MD} (h : Sz k M) : Sz k M.begin.1 := h.same (begin_files M) (begin_kept M) (begin_chs M)
theorem Sz.file {k : Nat} {M : MD} (h : Sz k M) (f : Nat) : (M.file f).1.length ≤ 50 * k := by
 unfold MD.file
 rw [List.getD_eq_getElem?_getD]
 cases hf : M.files[f]? with
 | none => simp
 | some x => simpa using h.files x (List.mem_of_getElem? hf)
theorem Sz.setFile {k : Nat} {M : MD} (h : Sz k M) {f : Nat} {x : List UInt8 × Nat} (hx : x.1.length ≤ 50 * k) (hu : (M.setFile f x).used ≤ 50 * k) : Sz k (M.setFile f x) :=
 ⟨h.chs,by show (M.files.set f x).length ≤ k; rw [List.length_set]; exact h.nf,hu,fun y hy => by
  rcases List.mem_or_eq_of_mem_set hy with hy | rfl
  · exact h.files y hy
  · exact hx⟩
theorem onFile_cases (M : MD) (n : Name) (X : MD → Nat → MD × Nat) : M.onFile n X = (M.begin.1,40) ∨ M.onFile n X = (M.begin.1,2) ∨ ∃ f,M.begin.2 = true ∧ nfind M.now n = some f ∧ M.onFile n X = X M.begin.1 f := by
 cases hb : M.begin.2 with
 | false => exact .inl (onFile_no hb)
 | true =>
  cases hf : nfind M.now n with
  | none => exact .inr (.inl (onFile_none hb hf))
  | some f => exact .inr (.inr ⟨f,rfl,rfl,onFile_some hb hf⟩)
structure Did (k : Nat) (M : MD) (r : MD × Nat) (b : Nat) : Prop where
 room : r.1.room = M.room
 used : r.1.used ≤ M.used ∨ (r.1.used : Int) ≤ M.room
 full : r.2 = 41 → r.1.used = M.used ∧ M.room < (M.used : Int) + b
 sz : Sz (k + 1) r.1
theorem did_begin {k : Nat} {M : MD} (h : Sz k M) {c : Nat} (hc : c ≠ 41) (b : Nat) : Did k M (M.begin.1,c) b := ⟨begin_room M,.inl (by rw [show (M.begin.1,c).1 = M.begin.1 from rfl,begin_used]; exact Nat.le_refl _),fun h => absurd h hc,h.begin.mono (Nat.le_succ _)⟩
theorem did_act {k : Nat} {M : MD} (h : Sz k M) (ok : M.Ok) {a : Act} (ha : a.small) (hk : a.kind.toNat % 13 ≠ 12) : Did k M (act M a) a.b.length := by
 have hb := ok.begin
 have onF : ∀ (n : Name) (X : MD → Nat → MD × Nat),(∀ f,nfind M.now n = some f → M.begin.2 = true → Did k M (X M.begin.1 f) a.b.length) → Did k M (M.onFile n X) a.b.length := fun n X hX => by
  rcases onFile_cases M n X with e | e | ⟨f,h1,h2,e⟩
  · rw [e]; exact did_begin h (by decide) _
  · rw [e]; exact did_begin h (by decide) _
  · rw [e]; exact hX f h2 h1
 have app : Did k M (M.append a.name a.b) a.b.length := onF _ _ fun f hf h1 => by
  split
  · rename_i hr
    rw [begin_room,begin_used] at hr
    refine ⟨begin_room M,.inl (by show M.begin.1.used ≤ _; rw [begin_used]; exact Nat.le_refl _),fun _ => ⟨begin_used M,by omega⟩,h.begin.mono (Nat.le_succ _)⟩
  · rename_i hr
    have hu := used_set hb (f := f) (by rw [begin_kept,begin_chs]; exact (now_lt ok hf).1) ((M.begin.1.file f).1 ++ a.b,(M.begin.1.file f).2)
    unfold MD.size at hu
    simp only [List.length_append] at hu
    have hus := begin_used M
    have hro := begin_room M
    have hsu := h.used
    have hfl := h.begin.file f
    have hab := ha.1
    refine ⟨hro,.inr ?_,fun h => (by cases h),(h.begin.mono (Nat.le_succ k)).setFile ?_ ?_⟩
    · show ((M.begin.1.setFile f _).used : Int) ≤ M.room
      omega
    · simp only [List.length_append]; omega
    · show (M.begin.1.setFile f _).used ≤ _
      omega
 have does0 : ∀ c : Chg,made c = none → Did k M (M.begin.1.does c,0) a.b.length := fun c hm => by
  refine ⟨begin_room M,.inl ?_,fun h => (by cases h),?_⟩
  · show (M.begin.1.does c).used ≤ _
    rw [does_used0 hm,begin_used]; exact Nat.le_refl _
  · refine ⟨?_,?_,?_,(h.begin.mono (Nat.le_succ k)).files⟩
    · show (M.begin.1.chs ++ [c]).length ≤ _
      have := h.begin.chs
      simp; omega
    · have := h.begin.nf
      show M.begin.1.files.length ≤ _
      omega
    · show (M.begin.1.does c).used ≤ _
      rw [does_used0 hm,begin_used]
      have := h.used; omega
 unfold act
 split
 · unfold MD.create
   split
   · exact did_begin h (by decide) _
   · split
     · exact did_begin h (by decide) _
     · split
       · exact did_begin h (by decide) _
       · rename_i h1 h2 h3
         have hn : nfind M.begin.1.now a.name = none := by rw [begin_now]; cases hx : nfind M.now a.name with
          | none => rfl
          | some x => rw [hx] at h3; simp at h3
         obtain ⟨c1,c2,c3⟩ := hb.create (n := a.name) (by simpa using h2) hn
         rw [begin_files] at c3
         have e : ({ M.begin.1 with files := M.files ++ [([],0)] } : MD).does ⟨[],a.name,M.files.length⟩ = M.begin.1.newFile.does ⟨[],a.name,M.files.length⟩ := by
          unfold MD.newFile; rw [begin_files]
         rw [e]
         have hus := begin_used M
         refine ⟨begin_room M,.inl (by show (M.begin.1.newFile.does _).used ≤ _; rw [c3,hus]; exact Nat.le_refl _),fun h => (by cases h),?_,?_,?_,fun x hx => ?_⟩
         · show (M.begin.1.chs ++ [_]).length ≤ _
           have := h.begin.chs
           simp; omega
         · show (M.begin.1.files ++ [_]).length ≤ _
           have := h.begin.nf
           simp; omega
         · show (M.begin.1.newFile.does _).used ≤ _
           rw [c3,hus]
           have := h.used; omega
         · have hx' : x ∈ M.begin.1.files ++ [([],0)] := hx
           rcases List.mem_append.1 hx' with hx' | hx'
           · have := h.begin.files x hx'; omega
           · simp at hx'; subst hx'; simp
 · exact onF _ _ fun f hf h1 => did_begin h (by decide) _
 · refine onF _ _ fun f hf h1 => ?_
   have hu := used_set hb (f := f) (by rw [begin_kept,begin_chs]; exact (now_lt ok hf).1) ((M.begin.1.file f).1,(M.begin.1.file f).1.length)
   unfold MD.size at hu
   simp only at hu
   have hus := begin_used M
   have hsu := h.used
   have hfl := h.begin.file f
   refine ⟨begin_room M,.inl ?_,fun h => (by cases h),(h.begin.mono (Nat.le_succ k)).setFile ?_ ?_⟩
   · show (M.begin.1.setFile f _).used ≤ _
     omega
   · simp only; omega
   · show (M.begin.1.setFile f _).used ≤ _
     omega
 · refine onF _ _ fun f hf h1 => ?_
   split
   · exact does0 _ (by simp [made,now_ne ok hf])
   · exact did_begin h (by decide) _
 · exact onF _ _ fun f hf h1 => does0 _ (by simp [made,now_ne ok hf])
 · unfold MD.syncNames
   split
   · exact did_begin h (by decide) _
   · have hk := used_kept hb
     rw [begin_now,begin_used] at hk
     have hsu := h.used
     have hk2 := Nat.le.intro hk
     refine ⟨begin_room M,.inl ?_,fun h => (by cases h),?_,?_,?_,(h.begin.mono (Nat.le_succ k)).files⟩
     · exact hk2
     · simp
     · have := h.begin.nf
       show M.begin.1.files.length ≤ _
       omega
     · exact Nat.le_trans hk2 (by omega)
 · unfold MD.names
   split
   · exact did_begin h (by decide) _
   · exact did_begin h (by decide) _
 · unfold MD.doom
   split
   · exact ⟨rfl,.inl (Nat.le_refl _),fun h => (by cases h),h.mono (Nat.le_succ _)⟩
   · exact ⟨rfl,.inl (Nat.le_of_eq (used_eq rfl rfl rfl)),fun h => (by cases h),(h.mono (Nat.le_succ k)).same rfl rfl rfl⟩
 · obtain ⟨a1,a2,a3,a4,a5⟩ := at_ok ok a.w
   have hcu := crash_used M a.w
   have hle := crs_sum_le ok a.w (M.at a.w) 0
   have hsu := h.used
   refine ⟨rfl,.inl ?_,fun h => (by cases h),?_,?_,?_,fun x hx => ?_⟩
   · show (M.crash a.w).used ≤ _
     omega
   · show ([] : List Chg).length ≤ _
     simp
   · show (M.crash a.w).files.length ≤ _
     rw [crash_eq]
     show (crs M a.w (M.at a.w) 0).length ≤ _
     rw [crs_len]
     have q1 := nodup_len (r := List.range M.files.length) a3 fun f hf => by
      obtain ⟨e,he,rfl⟩ := List.mem_map.1 hf
      exact List.mem_range.2 (a4 e he)
     rw [List.length_map,List.length_range] at q1
     have := h.nf; omega
   · show (M.crash a.w).used ≤ _
     omega
   · have hx' : x ∈ crs M a.w (M.at a.w) 0 := by
      have : x ∈ (M.crash a.w).files := hx
      rw [crash_eq] at this
      exact this
     have : ∀ (l : Names) (j : Nat),x ∈ crs M a.w l j → x.1.length ≤ 50 * k := by
      intro l
      induction l with
      | nil => intro j hj; cases hj
      | cons e r ih =>
       intro j hj
       rcases List.mem_cons.1 hj with rfl | hj
       · have q := (DiskC.crashF_ok (wr := a.w) (i := j) (file_cut ok e.2)).2
         have := h.file e.2
         omega
       · exact ih _ hj
     have := this _ _ hx'
     omega
 · rename_i hc; exact absurd hc hk
 · exact app
end Go.Proofs.YthlmfalfnpjndaaGreat.DiskL
namespace Go.Proofs.YthlmfalfnpjndaaGreat.DiskL
open Go Go.Proofs Aw Num DiskM DiskA DiskK DiskC Disk
set_option linter.unusedSimpArgs false
set_option linter.unusedVariables false
theorem act_sz {k : Nat} {M : MD} (h : Sz k M) (ok : M.Ok) {a : Act} (ha : a.small) : Sz (k + 1) (act M a).1 := by
 by_cases hk : a.kind.toNat % 13 = 12
 · have e : act M a = M.grow a.n := by simp only [act,hk]
   rw [e]
   unfold MD.grow
   split
   · exact h.mono (Nat.le_succ _)
   · exact (h.mono (Nat.le_succ _)).same rfl rfl rfl
 · exact (did_act h ok ha hk).sz
theorem small_crash {M : MD} (h : Small M) (ok : M.Ok) (w : Wreck) : Small (M.crash w) := by
 obtain ⟨a1,a2,a3,a4,a5⟩ := at_ok ok w
 have hcu := crash_used M w
 have hle := crs_sum_le ok w (M.at w) 0
 have hsu := h.used
 refine ⟨by show ([] : List Chg).length ≤ _; simp,by omega,fun x hx => ?_,?_⟩
 · have hx' : x ∈ crs M w (M.at w) 0 := by
    have : x ∈ (M.crash w).files := hx
    rw [crash_eq] at this
    exact this
   have : ∀ (l : Names) (j : Nat),x ∈ crs M w l j → x.1.length ≤ 1099511627776 := by
    intro l
    induction l with
    | nil => intro j hj; cases hj
    | cons e r ih =>
     intro j hj
     rcases List.mem_cons.1 hj with rfl | hj
     · have q := (DiskC.crashF_ok (wr := w) (i := j) (file_cut ok e.2)).2
       have := file_small h e.2
       omega
     · exact ih _ hj
   exact this _ _ hx'
 · rw [crash_eq]
   show (crs M w (M.at w) 0).length ≤ _
   rw [crs_len]
   have q1 := nodup_len (r := List.range M.files.length) a3 fun f hf => by
    obtain ⟨e,he,rfl⟩ := List.mem_map.1 hf
    exact List.mem_range.2 (a4 e he)
   rw [List.length_map,List.length_range] at q1
   have := h.nf; omega
theorem sz_new (room : Int) : Sz 0 (DiskM.new room) := ⟨by simp [DiskM.new],by simp [DiskM.new],Nat.le_refl 0,by simp [DiskM.new]⟩
end Go.Proofs.YthlmfalfnpjndaaGreat.DiskL
