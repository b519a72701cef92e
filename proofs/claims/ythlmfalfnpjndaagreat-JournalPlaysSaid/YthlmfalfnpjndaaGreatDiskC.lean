import Derived.Test.YthlmfalfnpjndaaGreatDiskA
namespace Go.Proofs.YthlmfalfnpjndaaGreat.DiskC
open Go Aw DiskM DiskA
set_option linter.unusedVariables false
set_option linter.unusedSimpArgs false
def num : Names → Nat → Names
 | [],_ => []
 | e :: r,k => (e.1,k) :: num r (k + 1)
def crs (M : MD) (wr : Wreck) : Names → Nat → List (List UInt8 × Nat)
 | [],_ => []
 | e :: r,k => crashF wr k (M.file e.2) :: crs M wr r (k + 1)
theorem num_eq (l : Names) (k : Nat) : (l.zipIdx k).map (fun e => (e.1.1,e.2)) = num l k := by
 induction l generalizing k with
 | nil => rfl
 | cons e r ih => simp [num,List.zipIdx_cons,ih]
theorem crs_eq (M : MD) (wr : Wreck) (l : Names) (k : Nat) : (l.zipIdx k).map (fun e => crashF wr e.2 (M.file e.1.2)) = crs M wr l k := by
 induction l generalizing k with
 | nil => rfl
 | cons e r ih => simp [crs,List.zipIdx_cons,ih]
theorem num_names (l : Names) (k : Nat) : (num l k).map (·.1) = l.map (·.1) := by
 induction l generalizing k with
 | nil => rfl
 | cons e r ih => simp [num,ih]
theorem num_files (l : Names) (k : Nat) : (num l k).map (·.2) = List.range' k l.length := by
 induction l generalizing k with
 | nil => rfl
 | cons e r ih => simp [num,ih,List.range'_succ]
theorem num_app (l r : Names) (k : Nat) : num (l ++ r) k = num l k ++ num r (k + l.length) := by
 induction l generalizing k with
 | nil => simp [num]
 | cons e l ih => simp [num,ih]; congr 1; omega
theorem crs_app (M : MD) (wr : Wreck) (l r : Names) (k : Nat) : crs M wr (l ++ r) k = crs M wr l k ++ crs M wr r (k + l.length) := by
 induction l generalizing k with
 | nil => simp [crs]
 | cons e l ih => simp [crs,ih]; congr 1; omega
theorem crs_len (M : MD) (wr : Wreck) (l : Names) (k : Nat) : (crs M wr l k).length = l.length := by
 induction l generalizing k with
 | nil => rfl
 | cons e r ih => simp [crs,ih]
theorem wleft_le (wr : Wreck) (i m : Nat) : wleft wr i m ≤ m := by
 unfold wleft
 split
 · omega
 · exact Nat.min_le_right _ _
theorem crashF_ok {wr : Wreck} {i : Nat} {x : List UInt8 × Nat} (h : x.2 ≤ x.1.length) : (crashF wr i x).2 ≤ (crashF wr i x).1.length ∧ (crashF wr i x).1.length ≤ x.1.length := by
 have := wleft_le wr i (x.1.length - x.2)
 unfold crashF
 simp only [List.length_take]
 omega
theorem crs_cut {M : MD} {wr : Wreck} (h : ∀ f,(M.file f).2 ≤ (M.file f).1.length) : ∀ (l : Names) (k : Nat),∀ x ∈ crs M wr l k,x.2 ≤ x.1.length := by
 intro l
 induction l with
 | nil => intro k x hx; cases hx
 | cons e r ih =>
  intro k x hx
  rcases List.mem_cons.1 hx with rfl | hx
  · exact (crashF_ok (h _)).1
  · exact ih _ x hx
theorem file_cut {M : MD} (h : M.Ok) (f : Nat) : (M.file f).2 ≤ (M.file f).1.length := by
 unfold MD.file
 rw [List.getD_eq_getElem?_getD]
 cases hf : M.files[f]? with
 | none => simp
 | some x => simpa using h.cut x (List.mem_of_getElem? hf)
def mid (M : MD) (l : Names) (fl : List (List UInt8 × Nat)) : MD := { files := fl,kept := num l 0,chs := [],room := M.room,down := M.down,doomed := M.doomed,left := M.left }
theorem mid_ok {M : MD} (h : M.Ok) {l : Names} {fl : List (List UInt8 × Nat)} (hr : Rise l) (hrt : ∀ e ∈ l,right e.1) (hl : fl.length = l.length) (hc : ∀ x ∈ fl,x.2 ≤ x.1.length) : (mid M l fl).Ok := by
 have hre : reach (num l 0) [] = List.range' 0 l.length := by unfold reach; simp [num_files]
 refine ⟨?_,trivial,?_,?_,?_,hc,h.room,h.leftB⟩
 · show ((num l 0).map (·.1)).Pairwise (· < ·)
   rw [num_names]; exact hr
 · show (reach (num l 0) []).Nodup
   rw [hre]; exact List.nodup_range'
 · intro f hf
   have : f ∈ reach (num l 0) [] := hf
   rw [hre,List.mem_range'] at this
   obtain ⟨i,hi,rfl⟩ := this
   show 0 + 1 * i < fl.length
   omega
 · intro e he
   have : e.1 ∈ (num l 0).map (·.1) := List.mem_map.2 ⟨e,he,rfl⟩
   rw [num_names] at this
   obtain ⟨x,hx,hxe⟩ := List.mem_map.1 this
   rw [← hxe]; exact hrt x hx
theorem sum_range (g : Nat → Nat) (fl : List (List UInt8 × Nat)) (k : Nat) (h : ∀ i x,fl[i]? = some x → g (k + i) = x.1.length) : ((List.range' k fl.length).map g).sum = (fl.map fun x => x.1.length).sum := by
 induction fl generalizing k with
 | nil => rfl
 | cons x r ih =>
  simp only [List.length_cons,List.range'_succ,List.map_cons,List.sum_cons]
  rw [ih (k + 1) fun i y hy => by rw [← h (i + 1) y (by simpa using hy)]; congr 1; omega]
  rw [← h 0 x rfl]
  simp
theorem mid_used {M : MD} {l : Names} {fl : List (List UInt8 × Nat)} (hl : fl.length = l.length) : (mid M l fl).used = (fl.map fun x => x.1.length).sum := by
 unfold MD.used
 have : reach (mid M l fl).kept (mid M l fl).chs = List.range' 0 fl.length := by
  show reach (num l 0) [] = _
  unfold reach; simp [num_files,hl]
 rw [this]
 refine sum_range _ fl 0 fun i x hx => ?_
 unfold MD.size MD.file
 show (fl.getD (0 + i) ([],0)).1.length = _
 rw [Nat.zero_add,List.getD_eq_getElem?_getD,hx]
 rfl
theorem crash_eq (M : MD) (wr : Wreck) : M.crash wr = { mid M (M.at wr) (crs M wr (M.at wr) 0) with down := false,doomed := false,left := 0 } := by
 unfold MD.crash mid
 rw [num_eq,crs_eq]
theorem crash_used (M : MD) (wr : Wreck) : (M.crash wr).used = ((crs M wr (M.at wr) 0).map fun x => x.1.length).sum := by
 rw [crash_eq]
 exact (used_eq (M := mid M (M.at wr) (crs M wr (M.at wr) 0)) rfl rfl rfl).trans (mid_used (crs_len _ _ _ _))
theorem at_ok {M : MD} (h : M.Ok) (wr : Wreck) : Rise (M.at wr) ∧ (∀ e ∈ M.at wr,right e.1) ∧ ((M.at wr).map (·.2)).Nodup ∧ (∀ e ∈ M.at wr,e.2 < M.files.length) ∧ ((M.at wr).map fun e => M.size e.2).sum ≤ M.used := by
 have hcan := h.can.take (within wr.names M.chs.length)
 have hp := reach_perm h.rise hcan
 have hsub : (reach M.kept (M.chs.take (within wr.names M.chs.length))).Sublist (reach M.kept M.chs) := by
  unfold reach
  exact List.Sublist.append (List.Sublist.refl _) ((List.take_sublist _ _).filterMap _)
 have hnd := (hp.nodup_iff).2 (hsub.nodup h.once)
 refine ⟨play_rise h.rise _,play_right h.right hcan,(List.nodup_append.1 hnd).1,fun e he => ?_,?_⟩
 · exact h.lt _ (hsub.subset (hp.subset (List.mem_append_left _ (List.mem_map.2 ⟨e,he,rfl⟩))))
 · have h1 := (hp.map M.size).sum_nat
   have h2 : ((reach M.kept (M.chs.take (within wr.names M.chs.length))).map M.size).sum ≤ M.used := by
    have hs := hsub.map M.size
    have : ∀ {x y : List Nat},x.Sublist y → x.sum ≤ y.sum := by
     intro x y hxy
     induction hxy with
     | slnil => simp
     | cons a _ ih => simp only [List.sum_cons]; omega
     | cons_cons a _ ih => simp only [List.sum_cons]; omega
    exact this hs
   rw [List.map_append,List.sum_append] at h1
   have e : (M.at wr).map (fun e => M.size e.2) = ((play M.kept (M.chs.take (within wr.names M.chs.length))).map (·.2)).map M.size := by rw [List.map_map]; rfl
   rw [e]
   omega
theorem crash_ok {M : MD} (h : M.Ok) (wr : Wreck) : (M.crash wr).Ok := by
 obtain ⟨h1,h2,_⟩ := at_ok h wr
 have := mid_ok h (l := M.at wr) (fl := crs M wr (M.at wr) 0) h1 h2 (crs_len _ _ _ _) (crs_cut (file_cut h) _ _)
 rw [crash_eq]
 exact ⟨this.rise,this.can,this.once,this.lt,this.right,this.cut,this.room,by simp⟩
theorem cells_apart : ∀ (l : List Fl),(l.flatMap cellsOf).Nodup → ∀ (p q : Nat) (u v : Fl),l[p]? = some u → l[q]? = some v → p ≠ q → ∀ i,i ∈ cellsOf u → i ∉ cellsOf v := by
 intro l
 induction l with
 | nil => intro _ p q u v hp; cases hp
 | cons z r ih =>
  intro hnn p q u v hp hq hpq i hiu hiv
  rw [List.flatMap_cons] at hnn
  obtain ⟨m1,m2,m3⟩ := List.nodup_append.1 hnn
  cases p with
  | zero =>
   cases q with
   | zero => exact hpq rfl
   | succ q =>
    simp only [List.getElem?_cons_zero,Option.some.injEq] at hp
    subst hp
    simp only [List.getElem?_cons_succ] at hq
    exact m3 i hiu i (List.mem_flatMap.2 ⟨v,List.mem_of_getElem? hq,hiv⟩) rfl
  | succ p =>
   cases q with
   | zero =>
    simp only [List.getElem?_cons_zero,Option.some.injEq] at hq
    subst hq
    simp only [List.getElem?_cons_succ] at hp
    exact m3 i hiv i (List.mem_flatMap.2 ⟨u,List.mem_of_getElem? hp,hiu⟩) rfl
   | succ q =>
    simp only [List.getElem?_cons_succ] at hp hq
    exact ih m2 p q u v hp hq (fun e => hpq (by rw [e])) i hiu hiv
theorem cells_nodup : ∀ (l : List Fl),(l.flatMap cellsOf).Nodup → ∀ x ∈ l,(cellsOf x).Nodup := by
 intro l hn x hx
 obtain ⟨l1,l2,e⟩ := List.append_of_mem hx
 rw [e,List.flatMap_append,List.flatMap_cons] at hn
 exact (List.nodup_append.1 (List.nodup_append.1 hn).2.1).1
def pick (fs : List Fl) (l : Names) : List Fl := l.map fun e => fs.getD e.2 (0,none)
theorem pick_some {fs : List Fl} {l : Names} (hlt : ∀ e ∈ l,e.2 < fs.length) {i : Nat} {x : Fl} (h : (pick fs l)[i]? = some x) : ∃ e,l[i]? = some e ∧ fs[e.2]? = some x := by
 unfold pick at h
 rw [List.getElem?_map] at h
 cases he : l[i]? with
 | none => rw [he] at h; cases h
 | some e =>
  rw [he] at h
  simp only [Option.map_some,Option.some.injEq] at h
  have := hlt e (List.mem_of_getElem? he)
  refine ⟨e,rfl,?_⟩
  rw [List.getElem?_eq_getElem this,← h,List.getD_eq_getElem?_getD,List.getElem?_eq_getElem this]
  rfl
theorem pick_cells {fs : List Fl} (hn : (fs.flatMap cellsOf).Nodup) : ∀ {l : Names},(l.map (·.2)).Nodup → (∀ e ∈ l,e.2 < fs.length) → ((pick fs l).flatMap cellsOf).Nodup ∧ ∀ i ∈ (pick fs l).flatMap cellsOf,i ∈ fs.flatMap cellsOf
 | [],_,_ => by simp [pick]
 | e :: r,hd,hlt => by
  simp only [List.map_cons,List.nodup_cons] at hd
  obtain ⟨g1,g2⟩ := pick_cells hn hd.2 fun x hx => hlt x (List.mem_cons_of_mem _ hx)
  have hel := hlt e (by simp)
  have hge : fs[e.2]? = some (fs.getD e.2 (0,none)) := by rw [List.getD_eq_getElem?_getD,List.getElem?_eq_getElem hel]; rfl
  have e1 : pick fs (e :: r) = fs.getD e.2 (0,none) :: pick fs r := rfl
  rw [e1,List.flatMap_cons]
  refine ⟨List.nodup_append.2 ⟨cells_nodup fs hn _ (List.mem_of_getElem? hge),g1,fun a ha b hb hab => ?_⟩,fun i hi => ?_⟩
  · subst hab
    obtain ⟨y,hy,hay⟩ := List.mem_flatMap.1 hb
    obtain ⟨j,hj⟩ := List.mem_iff_getElem?.1 hy
    obtain ⟨x,hx,hxf⟩ := pick_some (fun x hx => hlt x (List.mem_cons_of_mem _ hx)) hj
    have hne : e.2 ≠ x.2 := fun h => hd.1 (by rw [h]; exact List.mem_map.2 ⟨x,List.mem_of_getElem? hx,rfl⟩)
    exact cells_apart fs hn _ _ _ _ hge hxf hne a ha hay
  · rcases List.mem_append.1 hi with hi | hi
    · exact List.mem_flatMap.2 ⟨_,List.mem_of_getElem? hge,hi⟩
    · exact g2 i hi
theorem nfind_num {l : Names} (hn : (l.map (·.1)).Nodup) {i : Nat} {e : Name × Nat} (h : l[i]? = some e) : nfind (num l 0) e.1 = some i := by
 apply nfind_some (by rw [num_names]; exact hn)
 have : ∀ (l : Names) (k i : Nat),l[i]? = some e → (e.1,k + i) ∈ num l k := by
  intro l
  induction l with
  | nil => intro k i h; cases h
  | cons x r ih =>
   intro k i h
   cases i with
   | zero => simp only [List.getElem?_cons_zero,Option.some.injEq] at h; subst h; simp [num]
   | succ i =>
    simp only [List.getElem?_cons_succ] at h
    have := ih (k + 1) i h
    rw [show k + 1 + i = k + (i + 1) by omega] at this
    exact List.mem_cons_of_mem _ this
 simpa using this l 0 i h
theorem NMap.num {fs : List Fl} {l : List (MKey × Nat × V)} {m : Names} (h : NMap fs l m) (hm : (m.map (·.1)).Nodup) (hlt : ∀ e ∈ m,e.2 < fs.length) : NMap (pick fs m) l (num m 0) := by
 refine ⟨h.1,h.2.1,fun n => ?_⟩
 rw [h.2.2 n]
 cases hf : nfind m n with
 | none =>
  have : nfind (DiskC.num m 0) n = none := nfind_none.2 (by rw [num_names]; exact nfind_none.1 hf)
  rw [this]; rfl
 | some f =>
  have hmem := nfind_mem hf
  obtain ⟨i,hi⟩ := List.mem_iff_getElem?.1 hmem
  have := nfind_num hm hi
  simp only at this
  rw [this]
  simp only [Option.map_some]
  congr 1
  unfold locV pick
  congr 1
  rw [List.getD_eq_getElem?_getD (l := List.map _ _),List.getElem?_map,hi]
  rfl
variable {u8 tc : TypeId} {M : MD} {w : Own} {L L' : LL} {T T' : TT}
theorem DiskAt.renum (h : DiskAt u8 tc L T M w) {l : Names} (hr : Rise l) (hrt : ∀ e ∈ l,right e.1) (hnd : (l.map (·.2)).Nodup) (hlt : ∀ e ∈ l,e.2 < M.files.length) {ms' : Option (Nat × Nat)} {lf : Int}
 (h1 : L'[w.o]? = some (headV { o := w.o,ms := ms',fs := pick w.fs l,tk := none } (mid M l (l.map fun e => M.file e.2)) lf)) (h2 : M.doomed = true → M.down = false → lf = M.left)
 (hm : MapsAt L' { o := w.o,ms := ms',fs := pick w.fs l,tk := none } (mid M l (l.map fun e => M.file e.2)))
 (hms : ∀ a b,ms' = some (a,b) → L.length ≤ a ∧ ∃ a0,w.ms = some (a0,b))
 (hk : ∀ i,i < L.length → i ≠ w.o → (∀ a b,w.ms = some (a,b) → i ≠ a ∧ i ≠ b) → L'[i]? = L[i]?) :
 DiskAt u8 tc L' T' (mid M l (l.map fun e => M.file e.2)) { o := w.o,ms := ms',fs := pick w.fs l,tk := none } := by
 have hall := h.lt
 have hone := h.o_ne
 have hmsne := @DiskAt.ms_ne _ _ _ _ _ _ h
 obtain ⟨ok,⟨lf0,g1,g2⟩,hm0,hch,hn,hfl,hnd0⟩ := h
 have hlt' : ∀ e ∈ l,e.2 < w.fs.length := fun e he => by rw [hn]; exact hlt e he
 rw [mine_eq] at hnd0
 obtain ⟨d1,d2⟩ := List.nodup_cons.1 hnd0
 obtain ⟨d3,d4,d5⟩ := List.nodup_append.1 d2
 obtain ⟨p1,p2⟩ := pick_cells d4 hnd hlt'
 refine ⟨mid_ok ok hr hrt (by simp) ?_,⟨lf,h1,h2⟩,hm,rfl,by simp [pick,mid],fun i x y hx hy => ?_,?_⟩
 · intro x hx
   obtain ⟨e,he,rfl⟩ := List.mem_map.1 hx
   exact file_cut ok _
 · obtain ⟨e,he,hxf⟩ := pick_some hlt' hx
   have hy' : y = M.file e.2 := by
    have : (l.map fun e => M.file e.2)[i]? = some y := hy
    rw [List.getElem?_map,he] at this
    exact (Option.some.inj this).symm
   subst hy'
   have hyf : M.files[e.2]? = some (M.file e.2) := by
    have := hlt e (List.mem_of_getElem? he)
    rw [List.getElem?_eq_getElem this]; unfold MD.file; simp [List.getD_eq_getElem?_getD,this]
   obtain ⟨k1,k2⟩ := hfl e.2 x _ hxf hyf
   obtain ⟨q1,q2⟩ := hone.2 e.2 x hxf
   refine ⟨by rw [hk _ (lt_at k1) (Ne.symm q1) fun a b hab => ⟨Ne.symm (hmsne hab hxf).1,Ne.symm (hmsne hab hxf).2.1⟩]; exact k1,?_⟩
   unfold RowAt at k2 ⊢
   split
   · rename_i ho; rw [ho] at k2; exact k2
   · rename_i r ho
     rw [ho] at k2
     obtain ⟨cs,v1,v2⟩ := k2
     exact ⟨cs,by rw [hk _ (lt_at v1) (Ne.symm (q2 r ho)) fun a b hab => ⟨Ne.symm ((hmsne hab hxf).2.2 r ho).1,Ne.symm ((hmsne hab hxf).2.2 r ho).2⟩]; exact v1,v2⟩
 · rw [mine_eq]
   have hlt0 : ∀ i ∈ w.fs.flatMap cellsOf,i < L.length := fun i hi => hall i (by unfold Own.S; rw [mine_eq]; exact List.mem_cons_of_mem _ (List.mem_append_right _ hi))
   have ho_lt : w.o < L.length := hall _ (mem_o w)
   refine List.nodup_cons.2 ⟨fun hi => ?_,List.nodup_append.2 ⟨?_,p1,fun i hi j hj e => ?_⟩⟩
   · rcases List.mem_append.1 hi with hi | hi
     · cases hms' : ms' with
       | none => rw [hms'] at hi; cases hi
       | some ab =>
        obtain ⟨a,b⟩ := ab
        rw [hms'] at hi
        obtain ⟨q1,a0,q2⟩ := hms a b hms'
        simp only [List.mem_cons,List.not_mem_nil,or_false] at hi
        rcases hi with hi | hi
        · omega
        · exact (hone.1 a0 b q2).2.1 hi
     · exact d1 (List.mem_append_right _ (p2 _ hi))
   · cases hms' : ms' with
     | none => simp
     | some ab =>
      obtain ⟨a,b⟩ := ab
      obtain ⟨q1,a0,q2⟩ := hms a b hms'
      have := hall b (mem_ms q2).2
      simp only [List.nodup_cons,List.mem_cons,List.not_mem_nil,or_false,not_false_eq_true,List.nodup_nil,and_true]
      omega
   · subst e
     cases hms' : ms' with
     | none => rw [hms'] at hi; cases hi
     | some ab =>
      obtain ⟨a,b⟩ := ab
      rw [hms'] at hi
      obtain ⟨q1,a0,q2⟩ := hms a b hms'
      have hj2 := p2 _ hj
      have := hlt0 _ hj2
      simp only [List.mem_cons,List.not_mem_nil,or_false] at hi
      rcases hi with hi | hi
      · omega
      · subst hi
        rw [q2] at d5
        exact d5 _ (by simp) _ hj2 rfl
end Go.Proofs.YthlmfalfnpjndaaGreat.DiskC
