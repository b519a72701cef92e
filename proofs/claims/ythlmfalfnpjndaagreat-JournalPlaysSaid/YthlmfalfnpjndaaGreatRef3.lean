import Derived.Test.YthlmfalfnpjndaaGreatAwX
import Derived.Test.YthlmfalfnpjndaaGreatRef2
namespace Go.Proofs.YthlmfalfnpjndaaGreat.Ref
open Go Go.Proofs Aw Num DiskM DiskA DiskC Disk
set_option linter.unusedSimpArgs false
set_option linter.unusedVariables false
theorem pre_can {M : MD} (ok : M.Ok) {pre cs : List Chg} (h : M.chs = pre ++ cs) : CanAll M.kept pre := by
 have := ok.can.take pre.length
 rw [h,List.take_left'] at this
 · exact this
 · rfl
theorem pre_reach {M : MD} {pre cs : List Chg} (h : M.chs = pre ++ cs) {f : Nat} (hf : f ∈ reach M.kept pre) : f ∈ reach M.kept M.chs := by
 unfold reach at hf ⊢
 rw [h,List.filterMap_append]
 rcases List.mem_append.1 hf with hf | hf
 · exact List.mem_append_left _ hf
 · exact List.mem_append_right _ (List.mem_append_left _ hf)
theorem play_reach {M : MD} (ok : M.Ok) {pre cs : List Chg} (h : M.chs = pre ++ cs) {f : Nat} (hf : f ∈ (play M.kept pre).map (·.2)) : f ∈ reach M.kept pre :=
 (reach_perm ok.rise (pre_can ok h)).subset (List.mem_append_left _ hf)
theorem pre_nodup {M : MD} (ok : M.Ok) {pre cs : List Chg} (h : M.chs = pre ++ cs) : (reach M.kept pre).Nodup := by
 have := ok.once
 unfold reach at this ⊢
 rw [h,List.filterMap_append,← List.append_assoc] at this
 exact (List.nodup_append.1 this).1
theorem play_len {M : MD} (ok : M.Ok) {pre cs : List Chg} (h : M.chs = pre ++ cs) : (play M.kept pre).length ≤ M.files.length := by
 have hp := reach_perm ok.rise (pre_can ok h)
 have hn := (List.nodup_append.1 (hp.nodup_iff.2 (pre_nodup ok h))).1
 have := nodup_len (r := List.range M.files.length) hn fun f hf => List.mem_range.2 (ok.lt f (pre_reach h (play_reach ok h hf)))
 simpa using this
def hasV (n : Nat) (l : List Nat) : List V := (List.range n).map fun f => .bool (decide (f ∈ l))
theorem hasV_len (n : Nat) (l : List Nat) : (hasV n l).length = n := by simp [hasV]
theorem hasV_set (n : Nat) (l : List Nat) (f : Nat) : (hasV n l).set f (.bool true) = hasV n (l ++ [f]) := by
 apply List.ext_getElem
 · simp [hasV]
 · intro i h1 h2
   simp only [hasV,List.length_set,List.length_map,List.length_range] at h1
   rw [List.getElem_set]
   simp only [hasV,List.getElem_map,List.getElem_range,List.mem_append,List.mem_singleton]
   by_cases e : f = i
   · subst e; simp
   · rw [if_neg e]
     congr 1
     exact decide_eq_decide.2 ⟨.inl,fun h => h.elim id (fun h => absurd h.symm e)⟩
theorem hasV_put {n : Nat} {l : List Nat} {f : Nat} (h : f < n) : List.take f (hasV n l) ++ [V.bool true] ++ List.drop (f + 1) (hasV n l) = hasV n (l ++ [f]) := by
 rw [← hasV_set,List.set_eq_take_append_cons_drop,if_pos (by rw [hasV_len]; exact h)]
 simp
theorem hasV_nil (n : Nat) : List.replicate n (V.bool false) = hasV n [] := by
 apply List.ext_getElem
 · simp [hasV]
 · intro i h1 h2
   simp [hasV]
theorem hasV_get {n : Nat} {l : List Nat} {i : Nat} (h : i < n) (x : V) : (hasV n l).getD i x = .bool (decide (i ∈ l)) := by
 rw [List.getD_eq_getElem?_getD,List.getElem?_eq_getElem (by rw [hasV_len]; exact h)]
 simp [hasV]
theorem fileCs_len (files : List (List UInt8 × Nat)) : (fileCs files).length = files.length * 2 := by
 induction files with
 | nil => rfl
 | cons x r ih =>
  have : fileCs (x :: r) = [.bytes x.1 none,.int .i64 (x.2 : Int)] ++ fileCs r := rfl
  rw [this,List.length_append,ih]; simp; omega
theorem fileCs_get : ∀ {files : List (List UInt8 × Nat)} {i : Nat} {x : List UInt8 × Nat},files[i]? = some x → (fileCs files)[i * 2]? = some (.bytes x.1 none) ∧ (fileCs files)[i * 2 + 1]? = some (.int .i64 (x.2 : Int))
 | [],i,x,h => by simp at h
 | y :: r,0,x,h => by
  simp only [List.getElem?_cons_zero,Option.some.injEq] at h
  subst h
  exact ⟨rfl,rfl⟩
 | y :: r,i + 1,x,h => by
  simp only [List.getElem?_cons_succ] at h
  have ih := fileCs_get h
  have e : fileCs (y :: r) = .bytes y.1 none :: .int .i64 (y.2 : Int) :: fileCs r := rfl
  rw [e]
  refine ⟨?_,?_⟩
  · rw [show (i + 1) * 2 = i * 2 + 1 + 1 by omega]
    simp only [List.getElem?_cons_succ]; exact ih.1
  · rw [show (i + 1) * 2 + 1 = (i * 2 + 1) + 1 + 1 by omega]
    simp only [List.getElem?_cons_succ]; exact ih.2
theorem row_get {L : LL} {M : MD} {o fo : Nat} (h : RefAt L M o fo) : ∃ cs,L[fo]? = some cs ∧ M.files.length * 2 ≤ cs.length ∧ ∀ i < M.files.length,∀ d,cs.getD (i * 2) d = .bytes (M.file i).1 none ∧ cs.getD (i * 2 + 1) d = .int .i64 ((M.file i).2 : Int) := by
 obtain ⟨cs,h1,_,h3⟩ := h.row
 have hl : M.files.length * 2 ≤ cs.length := by
  have := congrArg List.length h3
  rw [List.length_take,fileCs_len] at this
  omega
 refine ⟨cs,h1,hl,fun i hi d => ?_⟩
 have hf : M.files[i]? = some (M.file i) := by
  unfold MD.file
  rw [List.getD_eq_getElem?_getD,List.getElem?_eq_getElem hi]; rfl
 obtain ⟨g1,g2⟩ := fileCs_get hf
 rw [← h3] at g1 g2
 rw [List.getElem?_take_of_lt (by omega)] at g1 g2
 rw [List.getD_eq_getElem?_getD,List.getD_eq_getElem?_getD,g1,g2]
 exact ⟨rfl,rfl⟩
theorem sum_mem (g : Nat → Nat) : ∀ (n : Nat) (l : List Nat),l.Nodup → (∀ f ∈ l,f < n) → (((List.range n).map fun f => if f ∈ l then g f else 0).sum = (l.map g).sum)
 | n,[],_,_ => by
  simp only [List.not_mem_nil,if_false,List.map_nil,List.sum_nil]
  induction n with
  | zero => rfl
  | succ n ih => rw [List.range_succ,List.map_append,List.sum_append,ih (fun f hf => by cases hf)]; rfl
 | n,x :: l,hn,hl => by
  simp only [List.nodup_cons] at hn
  have ih := sum_mem g n l hn.2 fun f hf => hl f (List.mem_cons_of_mem _ hf)
  rw [List.map_cons,List.sum_cons,← ih]
  have hx := hl x (by simp)
  have key : ∀ m,((List.range m).map fun f => if f ∈ x :: l then g f else 0).sum = (if x < m then g x else 0) + ((List.range m).map fun f => if f ∈ l then g f else 0).sum := by
   intro m
   induction m with
   | zero => rfl
   | succ m im =>
    rw [List.range_succ,List.map_append,List.map_append,List.sum_append,List.sum_append,im]
    simp only [List.map_cons,List.map_nil,List.sum_cons,List.sum_nil,Nat.add_zero,List.mem_cons]
    by_cases e : m = x
    · subst e
      have h1 : ¬ m < m := by omega
      simp [hn.1,h1]
      omega
    · by_cases e2 : x < m
      · have e3 : x < m + 1 := by omega
        simp [e,e2,e3]
        omega
      · have e3 : ¬ x < m + 1 := by omega
        simp [e,e2,e3]
  rw [key n,if_pos hx]
def usedTo (M : MD) (i : Nat) : Nat := ((List.range i).map fun f => if f ∈ reach M.kept M.chs then M.size f else 0).sum
theorem usedTo_succ (M : MD) (i : Nat) : usedTo M (i + 1) = usedTo M i + if i ∈ reach M.kept M.chs then M.size i else 0 := by
 unfold usedTo
 rw [List.range_succ,List.map_append,List.sum_append]
 simp
theorem usedTo_all {M : MD} (ok : M.Ok) : usedTo M M.files.length = M.used := sum_mem M.size _ _ ok.once fun f hf => ok.lt f hf
theorem usedTo_le {M : MD} (ok : M.Ok) : ∀ k i,i + k = M.files.length → usedTo M i ≤ M.used
 | 0,i,h => by rw [← usedTo_all ok,← h]; exact Nat.le_refl _
 | k + 1,i,h => by
  have := usedTo_le ok k (i + 1) (by omega)
  rw [usedTo_succ] at this
  omega
def usedRP : PM := fun args L T K => ∃ M o fo,args = [.box o 0] ∧ RefAt L M o fo ∧ Small M ∧ ∀ L' T',Step noS noS L T noS noS L' T' → K (.int .i64 (M.used : Int)) L' T'
def R6 : Fns := { fn := fun f => R5.fn f,mu := fun d => bif d == 15 then .row else .no,hp := fun f => if f = 29 then some changeRP else if f = 38 then some findP else R5.hp f,ord := fun i => none,it := fun f => R5.it f }
theorem R6_fn (f : FuncId) : R6.fn f = (R5.fn f) := rfl
theorem R6_mu (d : Tmp) : R6.mu d = (bif d == 15 then .row else .no) := rfl
theorem R6_hp (f : FuncId) : R6.hp f = (if f = 29 then some changeRP else if f = 38 then some findP else R5.hp f) := rfl
theorem R6_ord (i : Nat) : R6.ord i = (none) := rfl
theorem R6_it (f : FuncId) : R6.it f = (R5.it f) := rfl
theorem R6_hy (b : Nat) : R6.hy b = none := rfl
theorem R6ok : FnsOk Tryz.prog R6 := FnsOk.same (FnsOk.consP (FnsOk.consP R5ok _ _ find_ok Tryz.func38 (by decide) (fun h => by cases h)) _ _ changeR_ok Tryz.func29 (by decide) (fun h => by cases h)) rfl rfl
attribute [bitvec_to_nat] R6_fn R6_mu R6_hp R6_ord R6_it R6_hy
set_option maxHeartbeats 2000000 in
theorem usedR_ok : PSound Tryz.prog 41 usedRP := by
 refine psound tysOk R6ok mix Tryz.func41 rfl ?_
 intro args L T K hm
 obtain ⟨M,o,fo,rfl,hd,hsm,hK⟩ := hm
 have hd' := hd
 obtain ⟨ok,⟨lf,h1,h2⟩,hrow,hne⟩ := hd'
 have hlt := lt_at h1
 have hnf := hsm.nf
 obtain ⟨n,hn⟩ : ∃ n,M.files.length = n := ⟨_,rfl⟩
 rw [hn] at h1 hnf
 have hcs : List.flatMap V.cells (List.replicate n (V.bool false)) = hasV n [] := by
  rw [← hasV_nil]
  induction n with
  | zero => rfl
  | succ n ih => rw [List.replicate_succ,List.flatMap_cons]; exact congrArg _ (by
   clear h1 hnf hn
   clear ih
   induction n with
   | zero => rfl
   | succ n ih => rw [List.replicate_succ,List.flatMap_cons]; exact congrArg _ ih)
 simp (maxSteps:=2000000) only[bitvec_to_nat,seval,↓tcd,Tryz.f41,h1,hlt,Int.toNat_natCast]
 rw [hcs]
 refine ⟨⟨by omega,by omega,by omega,by omega⟩,?_⟩
 have hkl : M.kept.length ≤ n := by rw [← hn]; exact play_len ok (pre := []) (cs := M.chs) rfl
 refine awpLoop_intro (α := {q : Nat × List Nat // q.1 ≤ M.kept.length ∧ ∀ f,f ∈ q.2 ↔ f ∈ (M.kept.take q.1).map (·.2)}) (fun q => ⟨[.box o 0,.any,.any,.mrow 4 L.length 0 n,.list 2 (M.kept.map nameV) none,.int .i64 (q.1.1 : Int),.any,.any,.any,.any,.any,.any,.any,.any,.any,.any,.any,.any,.any,.any,.any,.any,.any,.any,.any,.any,.any,.any,.any,.any,.any,.any,.any,.any,.any,.any,.any,.any,.any,.any,.any,.any,.any,.any,.any,.any,.any,.any,.any,.any,.any,.any,.any,.any,.any,.any,.any,.any,.any,.any,.any,.any,.any,.any,.any,.any,.any,.any,.any,.any,.any,.any,.any,.any,.any,.any,.any,.any,.any,.any,.any,.any,.any,.any,.any,.any,.any,.any],L ++ [hasV n q.1.2],T⟩) (fun q => M.kept.length - q.1.1)
  ⟨(0,[]),Nat.zero_le _,fun f => by simp⟩ ?_ ?_ (fun q => ⟨by simp,Nat.le_refl _⟩)
 · simp (maxSteps:=2000000) only[bitvec_to_nat,seval,↓tcd,leLL_self]
   all_goals simp
 · rintro ⟨⟨i,l⟩,hi,hl⟩
   simp only at hi hl
   have hatL : (L ++ [hasV n l])[L.length]? = some (hasV n l) := at_new rfl _
   have hltL : L.length < (L ++ [hasV n l]).length := by simp
   by_cases him : i < M.kept.length
   · have hdc : decide ((i : Int) < (M.kept.length : Int)) = true := decide_eq_true (by omega)
     obtain ⟨e,he⟩ : ∃ e,M.kept[i]? = some e := ⟨_,List.getElem?_eq_getElem him⟩
     obtain ⟨hil,hie⟩ := List.getElem?_eq_some_iff.1 he
     have hgd := name_get he
     have hi1 : IntKind.i64.wrap ((i : Int) + 1) = ((i + 1 : Nat) : Int) := by rw [i64w (by omega) (by omega)]; omega
     have hen : e.2 < n := by
      rw [← hn]
      exact ok.lt e.2 (List.mem_append_left _ (List.mem_map.2 ⟨e,List.mem_of_getElem? he,rfl⟩))
     have hset := hasV_put (l := l) hen
     simp (maxSteps:=2000000) only[bitvec_to_nat,seval,↓tcd,hdc,hgd,Int.toNat_natCast,List.length_map,hi1,hatL,hltL,hasV_len,hset]
     refine ⟨⟨by omega,by omega⟩,⟨by omega,by omega⟩,by omega,⟨(i + 1,l ++ [e.2]),him,fun f => ?_⟩,?_,by simp only; omega⟩
     · rw [List.take_succ_eq_append_getElem hil,hie,List.map_append,List.mem_append,List.mem_append,hl]
       simp
     · simp (maxSteps:=2000000) only[bitvec_to_nat,seval,↓tcd,leLL_self]
   · have hdc : decide ((i : Int) < (M.kept.length : Int)) = false := decide_eq_false (by omega)
     have hie : i = M.kept.length := by omega
     subst hie
     rw [List.take_length] at hl
     simp (maxSteps:=2000000) only[bitvec_to_nat,seval,↓tcd,hdc,List.length_map]
     have hl0 : ∀ f,f ∈ l ↔ f ∈ reach M.kept [] := fun f => by rw [hl]; simp [reach]
     refine awpLoop_intro (α := {q : List Chg × List Chg × List Nat × LL × TT // M.chs = q.1 ++ q.2.1 ∧ (∀ f,f ∈ q.2.2.1 ↔ f ∈ reach M.kept q.1) ∧ Step noS noS L T noS noS q.2.2.2.1 q.2.2.2.2 ∧ q.2.2.2.1[L.length]? = some (hasV n q.2.2.1)})
      (fun q => ⟨[.box o 0,.any,.any,.mrow 4 L.length 0 n,.list 2 ((play M.kept q.1.1).map nameV) none,.any,.int .i64 (q.1.1.length : Int),.any,.any,.any,.any,.any,.any,.any,.any,.any,.any,.any,.any,.any,.any,.any,.any,.any,.any,.any,.any,.any,.any,.any,.any,.any,.any,.any,.any,.any,.any,.any,.any,.any,.any,.any,.any,.any,.any,.any,.any,.any,.any,.any,.any,.any,.any,.any,.any,.any,.any,.any,.any,.any,.any,.any,.any,.any,.any,.any,.any,.any,.any,.any,.any,.any,.any,.any,.any,.any,.any,.any,.any,.any,.any,.any,.any,.any,.any,.any,.any,.any],q.1.2.2.2.1,q.1.2.2.2.2⟩) (fun q => q.1.2.1.length)
      ⟨([],M.chs,l,L ++ [hasV n l],T),rfl,hl0,(Step.refl _ _ _ _).app _,at_new rfl _⟩ ?_ ?_ (fun q => ⟨q.2.2.2.1.len,q.2.2.2.1.tlen⟩)
     · simp (maxSteps:=2000000) only[bitvec_to_nat,Nat.reduceAdd,Nat.reduceSub,Nat.reduceMul,Nat.reduceLT,Nat.reduceLeDiff,Nat.reduceEqDiff,Nat.reduceBEq,Nat.reduceBNe,Int.reduceToNat,Int.reduceLE,Int.reduceLT,Int.reduceEq,Int.reduceNe,Int.reduceNeg,Nat.reducePow,Int.reducePow,reduceIte,reduceCtorEq,↓tcd,leLL_self]
       exact ⟨rfl,rfl⟩
     · rintro ⟨⟨pre,cs,l2,L2,T2⟩,hpre,hl2,hs2,hat2⟩
       simp only at hpre hl2 hs2 hat2
       have k1 : L2[o]? = some [.vrow 76 2 fo n,.list 2 (M.now.map nameV) none,.list 2 (M.kept.map nameV) none,.list 3 (M.chs.map Ref.chgV) none,.int .i64 M.room,.bool M.down,.bool M.doomed,.int .i64 lf] := by
        rw [hs2.keep o hlt (fun h => h)]; exact h1
       have kl1 := lt_at k1
       have kl2 := lt_at hat2
       cases cs with
       | nil =>
        rw [List.append_nil] at hpre
        subst hpre
        have hdc : decide ((M.chs.length : Int) < (M.chs.length : Int)) = false := decide_eq_false (by omega)
        have hd2 : RefAt L2 M o fo := hd.frame hs2 (fun _ _ h => h)
        obtain ⟨cs,r1,r2,r3⟩ := row_get hd2
        have hcl := lt_at r1
        simp (maxSteps:=2000000) only[bitvec_to_nat,seval,↓tcd,hdc,k1,kl1,List.length_map]
        refine awpLoop_intro (α := {i : Nat // i ≤ n}) (fun q => ⟨[.box o 0,.any,.any,.mrow 4 L.length 0 n,.any,.any,.any,.any,.int .i64 (usedTo M q.1 : Int),.int .i64 (q.1 : Int),.any,.any,.any,.any,.any,.any,.any,.any,.any,.any,.any,.any,.any,.any,.any,.any,.any,.any,.any,.any,.any,.any,.any,.any,.any,.any,.any,.any,.any,.any,.any,.any,.any,.any,.any,.any,.any,.any,.any,.any,.any,.any,.any,.any,.any,.any,.any,.any,.any,.any,.any,.any,.any,.any,.any,.any,.any,.any,.any,.any,.any,.any,.any,.any,.any,.any,.any,.any,.any,.any,.any,.any,.any,.any,.any,.any,.any,.any],L2,T2⟩) (fun q => n - q.1) ⟨0,Nat.zero_le _⟩ ?_ ?_ (fun q => ⟨hs2.len,hs2.tlen⟩)
        · simp (maxSteps:=2000000) only[bitvec_to_nat,Nat.reduceAdd,Nat.reduceSub,Nat.reduceMul,Nat.reduceLT,Nat.reduceLeDiff,Nat.reduceEqDiff,Nat.reduceBEq,Nat.reduceBNe,Int.reduceToNat,Int.reduceLE,Int.reduceLT,Int.reduceEq,Int.reduceNe,Int.reduceNeg,Nat.reducePow,Int.reducePow,reduceIte,reduceCtorEq,↓tcd,leLL_self]
          exact ⟨rfl,rfl⟩
        · rintro ⟨i,hi⟩
          by_cases him : i < n
          · have hdc : decide ((i : Int) < (n : Int)) = true := decide_eq_true (by omega)
            have hi1 : IntKind.i64.wrap ((i : Int) + 1) = ((i + 1 : Nat) : Int) := by rw [i64w (by omega) (by omega)]; omega
            have hg := hasV_get (l := l2) him (V.bool false)
            have hsz := usedTo_succ M i
            have hul := usedTo_le ok (n - (i + 1)) (i + 1) (by rw [hn]; omega)
            have hus := hsm.used
            have hgf := (r3 i (by rw [hn]; exact him) .nils).1
            have hsi : M.size i = (M.file i).1.length := rfl
            have hlr := hl2 i
            rw [hn] at r2
            have hw : i ∈ reach M.kept M.chs → IntKind.i64.wrap ((usedTo M i : Int) + ((M.file i).1.length : Int)) = (usedTo M (i + 1) : Int) := fun h => by
             rw [if_pos h,hsi] at hsz
             rw [i64w (by omega) (by omega),hsz]; omega
            simp (maxSteps:=2000000) only[bitvec_to_nat,seval,↓tcd,hdc,hi1,k1,kl1,hat2,kl2,hg,r1,hcl,hgf,Int.toNat_natCast,hasV_len]
            refine ⟨⟨by omega,by omega⟩,him,awpIf_intro (fun h => ?_) (fun h => ?_)⟩ <;> simp only [decide_eq_true_eq,decide_eq_false_iff_not] at h
            · refine ⟨⟨by omega,by omega⟩,by omega,⟨i + 1,him⟩,⟨⟨hw (hlr.1 h),rfl⟩,leLL_self L2 ▸ trivial⟩,by simp only; omega⟩
            · rw [if_neg (fun h' => h (hlr.2 h'))] at hsz
              refine ⟨⟨i + 1,him⟩,⟨⟨by simp only; rw [hsz,Nat.add_zero],rfl⟩,leLL_self L2 ▸ trivial⟩,by simp only; omega⟩
          · have hdc : decide ((i : Int) < (n : Int)) = false := decide_eq_false (by omega)
            have hie : i = M.files.length := by omega
            have hu : usedTo M i = M.used := by rw [hie]; exact usedTo_all ok
            simp (maxSteps:=2000000) only[bitvec_to_nat,seval,↓tcd,hdc,hat2,kl2]
            rw [hu]
            exact ret_of hs2 (hK _ _ hs2)
       | cons c cs =>
        have hdc : decide ((pre.length : Int) < (M.chs.length : Int)) = true := decide_eq_true (by rw [hpre]; simp; omega)
        have hgd : (List.map Ref.chgV M.chs).getD pre.length .any = .agg [.str c.frm,.str c.to,.int .i64 (c.file : Int)] := by
         rw [hpre,List.map_append,List.getD_eq_getElem?_getD,List.getElem?_append_right (by simp),List.length_map]
         simp [Ref.chgV]
        have hpl : pre.length ≤ 1099511627776 := by
         have : pre.length ≤ M.chs.length := by rw [hpre]; simp
         have := hsm.chs
         omega
        have hi : IntKind.i64.wrap ((pre.length : Int) + 1) = ((pre ++ [c]).length : Int) := by
         rw [i64w (by omega) (by omega)]; simp
        have hcan : CanAll (play M.kept pre) (c :: cs) := canAll_app (hpre ▸ ok.can)
        have hpc : M.chs = (pre ++ [c]) ++ cs := by rw [hpre]; simp
        have hpp : play M.kept (pre ++ [c]) = chg (play M.kept pre) c := play_snoc _ _ _
        have hll := play_len ok hpre
        have hll2 := play_len ok hpc
        rw [hpp] at hll2
        simp (maxSteps:=2000000) only[bitvec_to_nat,seval,↓tcd,hdc,hgd,k1,kl1,Int.toNat_natCast,List.length_map]
        refine ⟨⟨by omega,of_decide_eq_true hdc⟩,play M.kept pre,c,rfl,hcan.1,by rw [hn] at hll; omega,fun L3 T3 hst3 => ?_⟩
        have hs3 := hs2.trans hst3
        have k3 : L3[o]? = some [.vrow 76 2 fo n,.list 2 (M.now.map nameV) none,.list 2 (M.kept.map nameV) none,.list 3 (M.chs.map Ref.chgV) none,.int .i64 M.room,.bool M.down,.bool M.doomed,.int .i64 lf] := by
         rw [hs3.keep o hlt (fun h => h)]; exact h1
        have hat3 : L3[L.length]? = some (hasV n l2) := by rw [hst3.keep _ kl2 (fun h => h)]; exact hat2
        have kl3 := lt_at k3
        have kl4 := lt_at hat3
        simp (maxSteps:=2000000) only[bitvec_to_nat,seval,↓tcd,hgd,k3,kl3,Int.toNat_natCast,List.length_map]
        refine ⟨⟨by omega,of_decide_eq_true hdc⟩,chg (play M.kept pre) c,c.to,rfl,by rw [hn] at hll2; omega,?_⟩
        by_cases hto : c.to = []
        · have hfn : fnd (chg (play M.kept pre) c) c.to = -1 := by
           unfold fnd
           have : nfind (chg (play M.kept pre) c) c.to = none := by
            rw [← hpp,hto]
            cases hf : nfind (play M.kept (pre ++ [c])) [] with
            | none => rfl
            | some f => exact absurd rfl (play_right ok.right (pre_can ok hpc) _ (nfind_mem hf)).1
           rw [this]
          rw [hfn]
          simp (maxSteps:=2000000) only[bitvec_to_nat,seval,↓tcd]
          refine ⟨⟨(pre ++ [c],cs,l2,L3,T3),hpc,fun f => ?_,hs3,hat3⟩,?_,by simp⟩
          · rw [hl2,reach_snoc]
            have hm : made c = none := by
             rcases hcan.1 with ⟨_,hr,_⟩ | ⟨h1,_⟩
             · exact absurd hto hr.1
             · simp [made,h1]
            rw [hm]; simp
          · simp (maxSteps:=2000000) only[bitvec_to_nat,seval,↓tcd,leLL_self,hpp,hi]
        · have hfn : nfind (chg (play M.kept pre) c) c.to = some (cfile (play M.kept pre) c) := by
           unfold chg
           rw [if_neg hto,nfind_with,if_pos rfl]
          obtain ⟨f,hf⟩ : ∃ f,cfile (play M.kept pre) c = f := ⟨_,rfl⟩
          rw [hf] at hfn
          have hfe : fnd (chg (play M.kept pre) c) c.to = (f : Int) := by unfold fnd; rw [hfn]
          have hfr : f ∈ reach M.kept (pre ++ [c]) := play_reach ok hpc (List.mem_map.2 ⟨_,by rw [hpp]; exact nfind_mem hfn,rfl⟩)
          have hflt : f < n := by rw [← hn]; exact ok.lt f (pre_reach hpc hfr)
          have hset := hasV_put (l := l2) hflt
          have hge : decide ((f : Int) < 0) = false := decide_eq_false (by omega)
          have hge2 : decide ((0 : Int) ≤ (f : Int)) = true := decide_eq_true (by omega)
          rw [hfe]
          simp (maxSteps:=2000000) only[bitvec_to_nat,seval,↓tcd,hge,hge2,hat3,kl4,Int.toNat_natCast,hasV_len,hset]
          refine ⟨⟨by omega,by omega⟩,by omega,⟨(pre ++ [c],cs,l2 ++ [f],List.set L3 L.length (hasV n (l2 ++ [f])),T3),hpc,fun g => ?_,hs3.set (.inr (Nat.le_refl _)) _,at_set kl4 _⟩,?_,by simp⟩
          · rw [List.mem_append,List.mem_singleton,hl2,reach_snoc]
            rcases hcan.1 with ⟨h1',hr,_⟩ | ⟨h1',h2',_⟩
            · have hm : made c = some c.file := by simp [made,h1']
              have hfc : f = c.file := by rw [← hf]; simp [cfile,h1']
              rw [hm,hfc]; simp
            · have hm : made c = none := by simp [made,h1']
              rw [hm]
              have hfr2 : f ∈ reach M.kept pre := by
               rw [reach_snoc,hm] at hfr
               simpa using hfr
              simp only [Option.toList_none,List.append_nil]
              exact ⟨fun h => h.elim id (fun h => h ▸ hfr2),.inl⟩
          · simp (maxSteps:=2000000) only[bitvec_to_nat,seval,↓tcd,leLL_self,hpp,hi]
end Go.Proofs.YthlmfalfnpjndaaGreat.Ref
