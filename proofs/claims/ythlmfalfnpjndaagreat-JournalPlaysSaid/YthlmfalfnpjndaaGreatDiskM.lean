import Derived.Sort.Walk0
namespace Go.Proofs.YthlmfalfnpjndaaGreat.DiskM
set_option linter.unusedVariables false
set_option linter.unusedSimpArgs false
abbrev Name := List UInt8
abbrev Names := List (Name × Nat)
def nfind : Names → Name → Option Nat
 | [],_ => none
 | e :: r,n => if e.1 = n then some e.2 else nfind r n
def nwithout (l : Names) (n : Name) : Names := l.filter fun e => decide (e.1 ≠ n)
def nins : Names → Name → Nat → Names
 | [],n,f => [(n,f)]
 | e :: r,n,f => if n < e.1 then (n,f) :: e :: r else e :: nins r n f
def nwith (l : Names) (n : Name) (f : Nat) : Names := nins (nwithout l n) n f
structure Chg where
 frm : Name
 to : Name
 file : Nat
 deriving Inhabited
def cfile (l : Names) (c : Chg) : Nat := if c.frm = [] then c.file else (nfind l c.frm).getD 0
def cleft (l : Names) (c : Chg) : Names := if c.frm = [] then l else nwithout l c.frm
def chg (l : Names) (c : Chg) : Names := if c.to = [] then cleft l c else nwith (cleft l c) c.to (cfile l c)
def gone (l : Names) (c : Chg) : Option Nat := if c.to = [] then some (cfile l c) else nfind (cleft l c) c.to
def made (c : Chg) : Option Nat := if c.frm = [] then some c.file else none
structure MD where
 files : List (List UInt8 × Nat)
 kept : Names
 chs : List Chg
 room : Int
 down : Bool
 doomed : Bool
 left : Nat
 deriving Inhabited
def play (l : Names) (cs : List Chg) : Names := cs.foldl chg l
def MD.now (M : MD) : Names := play M.kept M.chs
def MD.file (M : MD) (f : Nat) : List UInt8 × Nat := M.files.getD f ([],0)
def MD.size (M : MD) (f : Nat) : Nat := (M.file f).1.length
def reach (l : Names) (cs : List Chg) : List Nat := l.map (·.2) ++ cs.filterMap made
def MD.used (M : MD) : Nat := ((reach M.kept M.chs).map M.size).sum
def new (room : Int) : MD := ⟨[],[],[],if room < 0 then 0 else room,false,false,0⟩
def MD.begin (M : MD) : MD × Bool :=
 if M.down = true ∨ (M.doomed = true ∧ M.left = 0) then ({ M with down := true },false) else if M.doomed = true then ({ M with left := M.left - 1 },true) else (M,true)
def right (n : Name) : Prop := n ≠ [] ∧ n.length ≤ 32
instance (n : Name) : Decidable (right n) := by unfold right; exact inferInstance
def MD.does (M : MD) (c : Chg) : MD := { M with chs := M.chs ++ [c] }
def MD.create (M : MD) (n : Name) : MD × Nat :=
 if M.begin.2 = false then (M.begin.1,40) else if ¬ right n then (M.begin.1,1) else if (nfind M.now n).isSome then (M.begin.1,4)
 else ({ M.begin.1 with files := M.files ++ [([],0)] }.does ⟨[],n,M.files.length⟩,0)
def MD.onFile (M : MD) (n : Name) (X : MD → Nat → MD × Nat) : MD × Nat :=
 if M.begin.2 = false then (M.begin.1,40) else match nfind M.now n with
  | none => (M.begin.1,2)
  | some f => X M.begin.1 f
def MD.setFile (M : MD) (f : Nat) (x : List UInt8 × Nat) : MD := { M with files := M.files.set f x }
def MD.append (M : MD) (n : Name) (b : List UInt8) : MD × Nat :=
 M.onFile n fun M f => if M.room < (M.used : Int) + b.length then (M,41) else (M.setFile f ((M.file f).1 ++ b,(M.file f).2),0)
def MD.readB (M : MD) (n : Name) : List UInt8 := if M.begin.2 = false then [] else match nfind M.now n with
 | none => []
 | some f => (M.file f).1
def MD.read (M : MD) (n : Name) : MD × Nat := M.onFile n fun M f => (M,0)
def MD.sync (M : MD) (n : Name) : MD × Nat := M.onFile n fun M f => (M.setFile f ((M.file f).1,(M.file f).1.length),0)
def MD.rename (M : MD) (n t : Name) : MD × Nat := M.onFile n fun M f => if right t then (M.does ⟨n,t,0⟩,0) else (M,1)
def MD.remove (M : MD) (n : Name) : MD × Nat := M.onFile n fun M f => (M.does ⟨n,[],0⟩,0)
def MD.syncNames (M : MD) : MD × Nat := if M.begin.2 = false then (M.begin.1,40) else ({ M.begin.1 with kept := M.now,chs := [] },0)
def MD.names (M : MD) : MD × Nat := if M.begin.2 = false then (M.begin.1,40) else (M.begin.1,0)
def MD.doom (M : MD) (n : Int) : MD × Nat := if n < 0 then (M,1) else ({ M with doomed := true,left := n.toNat },0)
def MD.grow (M : MD) (n : Int) : MD × Nat := if n < 0 then (M,1) else ({ M with room := n },0)
structure Wreck where
 names : Int
 bytes : List Int
 deriving Inhabited
def within (n : Int) (most : Nat) : Nat := min n.toNat most
def wleft (w : Wreck) (i most : Nat) : Nat := if w.bytes = [] then 0 else within (w.bytes.getD (i % w.bytes.length) 0) most
def crashF (w : Wreck) (i : Nat) (x : List UInt8 × Nat) : List UInt8 × Nat :=
 (x.1.take (x.2 + wleft w i (x.1.length - x.2)),x.2 + wleft w i (x.1.length - x.2))
def MD.at (M : MD) (w : Wreck) : Names := play M.kept (M.chs.take (within w.names M.chs.length))
def MD.crash (M : MD) (w : Wreck) : MD :=
 { files := (M.at w).zipIdx.map fun e => crashF w e.2 (M.file e.1.2),kept := (M.at w).zipIdx.map fun e => (e.1.1,e.2),chs := [],room := M.room,down := false,doomed := false,left := 0 }
theorem nfind_mem {l : Names} {n : Name} {f : Nat} (h : nfind l n = some f) : (n,f) ∈ l := by
 induction l with
 | nil => cases h
 | cons e r ih =>
  unfold nfind at h
  split at h
  · rename_i he
    cases h
    rw [← he]; simp
  · exact List.mem_cons_of_mem _ (ih h)
theorem nfind_none {l : Names} {n : Name} : nfind l n = none ↔ n ∉ l.map (·.1) := by
 induction l with
 | nil => simp [nfind]
 | cons e r ih =>
  unfold nfind
  split
  · rename_i he; simp [he]
  · rename_i he
    rw [ih]
    simp only [List.map_cons,List.mem_cons,not_or]
    exact ⟨fun h => ⟨fun e' => he e'.symm,h⟩,fun h => h.2⟩
theorem nfind_some {l : Names} (hn : (l.map (·.1)).Nodup) {n : Name} {f : Nat} (h : (n,f) ∈ l) : nfind l n = some f := by
 induction l with
 | nil => cases h
 | cons e r ih =>
  simp only [List.map_cons,List.nodup_cons] at hn
  unfold nfind
  rcases List.mem_cons.1 h with rfl | h
  · simp
  · split
    · rename_i he
      exact absurd (List.mem_map.2 ⟨_,h,rfl⟩) (by rw [← he]; exact hn.1)
    · exact ih hn.2 h
theorem nwithout_sub (l : Names) (n : Name) : (nwithout l n).Sublist l := List.filter_sublist
theorem nwithout_mem {l : Names} {n : Name} {e : Name × Nat} : e ∈ nwithout l n ↔ e ∈ l ∧ e.1 ≠ n := by simp [nwithout]
theorem nfind_without (l : Names) (n m : Name) : nfind (nwithout l n) m = if m = n then none else nfind l m := by
 induction l with
 | nil => simp [nwithout,nfind]
 | cons e r ih =>
  unfold nwithout at ih ⊢
  rw [List.filter_cons]
  by_cases he : e.1 = n
  · simp only [he,ne_eq,not_true_eq_false,decide_false,Bool.false_eq_true,if_false]
    rw [ih]
    split
    · rfl
    · rename_i hm
      simp only [nfind,he]
      rw [if_neg (fun h => hm h.symm)]
  · simp only [ne_eq,he,not_false_eq_true,decide_true,if_true]
    simp only [nfind]
    rw [ih]
    by_cases hm : e.1 = m
    · simp only [hm,if_true]
      rw [if_neg (by rw [← hm]; exact he)]
    · simp only [hm,if_false]
theorem nins_mem {l : Names} {n : Name} {f : Nat} {e : Name × Nat} : e ∈ nins l n f ↔ e = (n,f) ∨ e ∈ l := by
 induction l with
 | nil => simp [nins]
 | cons x r ih =>
  unfold nins
  split
  · simp
  · simp only [List.mem_cons,ih]
    exact ⟨fun h => h.elim (fun h => .inr (.inl h)) fun h => h.elim .inl fun h => .inr (.inr h),fun h => h.elim (fun h => .inr (.inl h)) fun h => h.elim .inl fun h => .inr (.inr h)⟩
theorem nins_perm (l : Names) (n : Name) (f : Nat) : (nins l n f).Perm ((n,f) :: l) := by
 induction l with
 | nil => exact List.Perm.refl _
 | cons x r ih =>
  unfold nins
  split
  · exact List.Perm.refl _
  · exact (ih.cons x).trans (List.Perm.swap _ _ _)
def Rise (l : Names) : Prop := (l.map (·.1)).Pairwise (· < ·)
theorem lt_irrefl' (a : Name) : ¬ a < a := List.lt_irrefl a
theorem Rise.nodup {l : Names} (h : Rise l) : (l.map (·.1)).Nodup := List.Pairwise.imp (fun hab e => by subst e; exact lt_irrefl' _ hab) h
theorem Rise.without {l : Names} (h : Rise l) (n : Name) : Rise (nwithout l n) := List.Pairwise.sublist ((nwithout_sub l n).map _) h
theorem lt_or {a b : Name} (h : a ≠ b) (h' : ¬ a < b) : b < a := by
 have h1 : b ≤ a := List.not_lt.1 h'
 rcases Classical.em (b < a) with h2 | h2
 · exact h2
 · exact absurd (List.le_antisymm (List.not_lt.1 h2) h1) h
theorem Rise.ins {l : Names} (h : Rise l) {n : Name} {f : Nat} (hn : n ∉ l.map (·.1)) : Rise (nins l n f) := by
 unfold Rise at *
 induction l with
 | nil => simp [nins]
 | cons x r ih =>
  simp only [List.map_cons,List.pairwise_cons] at h
  simp only [List.map_cons,List.mem_cons,not_or] at hn
  unfold nins
  split
  · rename_i hlt
    simp only [List.map_cons,List.pairwise_cons,List.mem_cons]
    refine ⟨fun b hb => ?_,h⟩
    rcases hb with rfl | hb
    · exact hlt
    · exact List.lt_trans hlt (h.1 b hb)
  · rename_i hlt
    simp only [List.map_cons,List.pairwise_cons]
    refine ⟨fun b hb => ?_,ih h.2 hn.2⟩
    obtain ⟨e,he,rfl⟩ := List.mem_map.1 hb
    rcases nins_mem.1 he with rfl | he
    · exact lt_or hn.1 hlt
    · exact h.1 _ (List.mem_map.2 ⟨e,he,rfl⟩)
theorem without_not (l : Names) (n : Name) : n ∉ (nwithout l n).map (·.1) := by
 intro h
 obtain ⟨e,he,h1⟩ := List.mem_map.1 h
 exact (nwithout_mem.1 he).2 h1
theorem Rise.with {l : Names} (h : Rise l) (n : Name) (f : Nat) : Rise (nwith l n f) := (h.without n).ins (without_not l n)
theorem nfind_ins {l : Names} {n : Name} {f : Nat} (hn : n ∉ l.map (·.1)) (m : Name) : nfind (nins l n f) m = if m = n then some f else nfind l m := by
 induction l with
 | nil => simp [nins,nfind,eq_comm]
 | cons x r ih =>
  simp only [List.map_cons,List.mem_cons,not_or] at hn
  unfold nins
  split
  · simp only [nfind,eq_comm]
  · simp only [nfind]
    rw [ih hn.2]
    by_cases hx : x.1 = m
    · simp only [hx,if_true]
      rw [if_neg (fun e => hn.1 (by rw [hx,e]))]
    · simp only [hx,if_false]
theorem nfind_with (l : Names) (n : Name) (f : Nat) (m : Name) : nfind (nwith l n f) m = if m = n then some f else nfind l m := by
 unfold nwith
 rw [nfind_ins (without_not l n),nfind_without]
 by_cases h : m = n <;> simp [h]
theorem cleft_rise {l : Names} (h : Rise l) (c : Chg) : Rise (cleft l c) := by
 unfold cleft
 split
 · exact h
 · exact h.without _
theorem chg_rise {l : Names} (h : Rise l) (c : Chg) : Rise (chg l c) := by
 unfold chg
 split
 · exact cleft_rise h c
 · exact (cleft_rise h c).with _ _
theorem play_rise {l : Names} (h : Rise l) : ∀ cs : List Chg,Rise (play l cs) := by
 intro cs
 induction cs generalizing l with
 | nil => exact h
 | cons c cs ih => exact ih (chg_rise h c)
def CanDo (l : Names) (c : Chg) : Prop := (c.frm = [] ∧ right c.to ∧ nfind l c.to = none) ∨ (c.frm ≠ [] ∧ (nfind l c.frm).isSome = true ∧ (c.to = [] ∨ right c.to))
def CanAll : Names → List Chg → Prop
 | _,[] => True
 | l,c :: cs => CanDo l c ∧ CanAll (chg l c) cs
theorem CanAll.snoc {l : Names} {cs : List Chg} {c : Chg} (h : CanAll l cs) (hc : CanDo (play l cs) c) : CanAll l (cs ++ [c]) := by
 induction cs generalizing l with
 | nil => exact ⟨hc,trivial⟩
 | cons x cs ih => exact ⟨h.1,ih h.2 hc⟩
theorem CanAll.take {l : Names} {cs : List Chg} (h : CanAll l cs) : ∀ n,CanAll l (cs.take n) := by
 induction cs generalizing l with
 | nil => intro n; simp [CanAll]
 | cons x cs ih =>
  intro n
  cases n with
  | zero => trivial
  | succ n => exact ⟨h.1,ih h.2 n⟩
theorem play_snoc (l : Names) (cs : List Chg) (c : Chg) : play l (cs ++ [c]) = chg (play l cs) c := by simp [play]
theorem perm_without {l : Names} {n : Name} {f : Nat} (hn : (l.map (·.1)).Nodup) (h : nfind l n = some f) : (l.map (·.2)).Perm (f :: (nwithout l n).map (·.2)) := by
 induction l with
 | nil => cases h
 | cons e r ih =>
  simp only [List.map_cons,List.nodup_cons] at hn
  unfold nfind at h
  unfold nwithout at ih ⊢
  rw [List.filter_cons]
  split at h
  · rename_i he
    cases h
    have hr : r.filter (fun e => decide (e.1 ≠ n)) = r := by
     rw [List.filter_eq_self]
     intro x hx
     have : x.1 ≠ n := fun e1 => hn.1 (by rw [he,← e1]; exact List.mem_map.2 ⟨x,hx,rfl⟩)
     simpa using this
    simp only [he,ne_eq,not_true_eq_false,decide_false,Bool.false_eq_true,if_false]
    rw [show r.filter (fun e => decide (¬ e.1 = n)) = r from hr]
    exact List.Perm.refl _
  · rename_i he
    simp only [ne_eq,he,not_false_eq_true,decide_true,if_true,List.map_cons]
    exact ((ih hn.2 h).cons _).trans (List.Perm.swap _ _ _)
theorem without_eq {l : Names} {n : Name} (h : nfind l n = none) : nwithout l n = l := by
 unfold nwithout
 rw [List.filter_eq_self]
 intro x hx
 have : x.1 ≠ n := fun e => nfind_none.1 h (by rw [← e]; exact List.mem_map.2 ⟨x,hx,rfl⟩)
 simpa using this
theorem chg_perm {l : Names} (hr : Rise l) {c : Chg} (h : CanDo l c) : ((chg l c).map (·.2) ++ (gone l c).toList).Perm (l.map (·.2) ++ (made c).toList) := by
 have with_perm : ∀ (m : Names) (n : Name) (f : Nat),Rise m → ((nwith m n f).map (·.2) ++ (nfind m n).toList).Perm (f :: m.map (·.2)) := by
  intro m n f hm
  have h1 : ((nwith m n f).map (·.2)).Perm (f :: (nwithout m n).map (·.2)) := by
   exact (nins_perm (nwithout m n) n f).map (·.2)
  cases hf : nfind m n with
  | none =>
   rw [without_eq hf] at h1
   simpa using h1
  | some g =>
   have h2 := perm_without hm.nodup hf
   refine (h1.append_right _).trans ?_
   simp only [Option.toList_some,List.cons_append]
   refine List.Perm.cons f ?_
   exact (List.perm_append_singleton _ _).trans h2.symm
 rcases h with ⟨h1,h2,h3⟩ | ⟨h1,h2,h3⟩
 · have e1 : cleft l c = l := by simp [cleft,h1]
   have e2 : cfile l c = c.file := by simp [cfile,h1]
   have e3 : made c = some c.file := by simp [made,h1]
   have hto : c.to ≠ [] := h2.1
   have := with_perm l c.to c.file hr
   simp only [chg,gone,hto,if_false,e1,e2,e3]
   refine this.trans ?_
   simp only [Option.toList_some]
   exact (List.perm_append_singleton _ _).symm
 · obtain ⟨f,hf⟩ := Option.isSome_iff_exists.1 h2
   have e1 : cleft l c = nwithout l c.frm := by simp [cleft,h1]
   have e2 : cfile l c = f := by simp [cfile,h1,hf]
   have e3 : made c = none := by simp [made,h1]
   have hp := perm_without hr.nodup hf
   by_cases hto : c.to = []
   · simp only [chg,gone,hto,if_true,e1,e2,e3,Option.toList_some,Option.toList_none,List.append_nil]
     exact (List.perm_append_singleton _ _).trans hp.symm
   · have := with_perm (nwithout l c.frm) c.to f (hr.without _)
     simp only [chg,gone,hto,if_false,e1,e2,e3,Option.toList_none,List.append_nil]
     exact this.trans hp.symm
def gones : Names → List Chg → List Nat
 | _,[] => []
 | l,c :: cs => (gone l c).toList ++ gones (chg l c) cs
theorem reach_cons (l : Names) (c : Chg) (cs : List Chg) : reach l (c :: cs) = l.map (·.2) ++ ((made c).toList ++ cs.filterMap made) := by
 unfold reach
 rw [List.filterMap_cons]
 cases made c <;> rfl
theorem reach_perm {l : Names} (hr : Rise l) : ∀ {cs : List Chg},CanAll l cs → ((play l cs).map (·.2) ++ gones l cs).Perm (reach l cs)
 | [],_ => by simp [play,gones,reach]
 | c :: cs,h => by
  have h1 := reach_perm (chg_rise hr c) h.2
  have h2 := chg_perm hr h.1
  rw [reach_cons]
  show ((play (chg l c) cs).map (·.2) ++ ((gone l c).toList ++ gones (chg l c) cs)).Perm _
  have h3 : ((play (chg l c) cs).map (·.2) ++ ((gone l c).toList ++ gones (chg l c) cs)).Perm ((gone l c).toList ++ ((play (chg l c) cs).map (·.2) ++ gones (chg l c) cs)) := by
   rw [← List.append_assoc,← List.append_assoc]
   exact List.Perm.append_right _ List.perm_append_comm
  refine h3.trans ((h1.append_left _).trans ?_)
  unfold reach
  rw [← List.append_assoc,← List.append_assoc]
  refine List.Perm.append_right _ ?_
  exact List.perm_append_comm.trans h2
structure MD.Ok (M : MD) : Prop where
 rise : Rise M.kept
 can : CanAll M.kept M.chs
 once : (reach M.kept M.chs).Nodup
 lt : ∀ f ∈ reach M.kept M.chs,f < M.files.length
 right : ∀ e ∈ M.kept,DiskM.right e.1
 cut : ∀ x ∈ M.files,x.2 ≤ x.1.length
 room : 0 ≤ M.room
 leftB : (M.left : Int) ≤ 9223372036854775807
theorem reach_snoc (l : Names) (cs : List Chg) (c : Chg) : reach l (cs ++ [c]) = reach l cs ++ (made c).toList := by
 unfold reach
 rw [List.filterMap_append,← List.append_assoc]
 have e : [c].filterMap made = (made c).toList := by
  rw [List.filterMap_cons]
  cases made c <;> rfl
 rw [e]
theorem now_reach {M : MD} (h : M.Ok) {f : Nat} (hf : f ∈ M.now.map (·.2)) : f ∈ reach M.kept M.chs := (reach_perm h.rise h.can).subset (List.mem_append_left _ hf)
theorem now_lt {M : MD} (h : M.Ok) {n : Name} {f : Nat} (hf : nfind M.now n = some f) : f ∈ reach M.kept M.chs ∧ f < M.files.length := by
 have := now_reach h (List.mem_map.2 ⟨_,nfind_mem hf,rfl⟩)
 exact ⟨this,h.lt f this⟩
theorem kept_lt {M : MD} (h : M.Ok) {n : Name} {f : Nat} (hf : nfind M.kept n = some f) : f < M.files.length := h.lt f (List.mem_append_left _ (List.mem_map.2 ⟨_,nfind_mem hf,rfl⟩))
theorem now_rise {M : MD} (h : M.Ok) : Rise M.now := play_rise h.rise _
theorem chg_right {l : Names} (h : ∀ e ∈ l,right e.1) {c : Chg} (hc : CanDo l c) : ∀ e ∈ chg l c,right e.1 := by
 have hl : ∀ e ∈ cleft l c,right e.1 := fun e he => by
  unfold cleft at he
  split at he
  · exact h e he
  · exact h e (nwithout_mem.1 he).1
 intro e he
 unfold chg at he
 split at he
 · exact hl e he
 · rename_i hto
   rcases nins_mem.1 he with rfl | he
   · rcases hc with ⟨_,h2,_⟩ | ⟨_,_,h3 | h3⟩
     · exact h2
     · exact absurd h3 hto
     · exact h3
   · exact hl e (nwithout_mem.1 he).1
theorem play_right {l : Names} (h : ∀ e ∈ l,right e.1) : ∀ {cs : List Chg},CanAll l cs → ∀ e ∈ play l cs,right e.1 := by
 intro cs
 induction cs generalizing l with
 | nil => intro _; exact h
 | cons c cs ih => intro hc; exact ih (chg_right h hc.1) hc.2
theorem now_right {M : MD} (h : M.Ok) : ∀ e ∈ M.now,right e.1 := play_right h.right h.can
theorem MD.Ok.begin {M : MD} (h : M.Ok) : M.begin.1.Ok := by
 unfold MD.begin
 split
 · exact ⟨h.rise,h.can,h.once,h.lt,h.right,h.cut,h.room,h.leftB⟩
 · split
   · exact ⟨h.rise,h.can,h.once,h.lt,h.right,h.cut,h.room,by show ((M.left - 1 : Nat) : Int) ≤ _; have := h.leftB; omega⟩
   · exact h
theorem begin_files (M : MD) : M.begin.1.files = M.files := by unfold MD.begin; split; rfl; split <;> rfl
theorem begin_kept (M : MD) : M.begin.1.kept = M.kept := by unfold MD.begin; split; rfl; split <;> rfl
theorem begin_chs (M : MD) : M.begin.1.chs = M.chs := by unfold MD.begin; split; rfl; split <;> rfl
theorem begin_room (M : MD) : M.begin.1.room = M.room := by unfold MD.begin; split; rfl; split <;> rfl
theorem used_eq {M M' : MD} (hf : M'.files = M.files) (hk : M'.kept = M.kept) (hc : M'.chs = M.chs) : M'.used = M.used := by
 unfold MD.used
 rw [hk,hc]
 congr 1
 exact List.map_congr_left fun f _ => by unfold MD.size MD.file; rw [hf]
theorem begin_used (M : MD) : M.begin.1.used = M.used := used_eq (begin_files M) (begin_kept M) (begin_chs M)
theorem file_app (M : MD) (x : List UInt8 × Nat) {f : Nat} (h : f < M.files.length) : ({ M with files := M.files ++ [x] } : MD).file f = M.file f := by
 unfold MD.file
 simp only [List.getD_eq_getElem?_getD,List.getElem?_append_left h]
def MD.newFile (M : MD) : MD := { M with files := M.files ++ [([],0)] }
theorem MD.Ok.newFile {M : MD} (h : M.Ok) : M.newFile.Ok := ⟨h.rise,h.can,h.once,fun f hf => by have := h.lt f hf; simp [MD.newFile]; omega,h.right,fun x hx => by
 rcases List.mem_append.1 hx with hx | hx
 · exact h.cut x hx
 · simp at hx; subst hx; simp,h.room,h.leftB⟩
theorem used_newFile {M : MD} (h : M.Ok) : M.newFile.used = M.used := by
 unfold MD.used
 congr 1
 exact List.map_congr_left fun f hf => by
  unfold MD.size
  rw [show M.newFile.file f = M.file f from file_app M _ (h.lt f hf)]
theorem used_does (M : MD) (c : Chg) : (M.does c).used = M.used + ((made c).toList.map M.size).sum := by
 unfold MD.used MD.does
 simp only
 rw [reach_snoc,List.map_append,List.sum_append]
 rfl
theorem MD.Ok.does {M : MD} (h : M.Ok) {c : Chg} (hc : CanDo M.now c) (hm : ∀ f,made c = some f → f ∉ reach M.kept M.chs ∧ f < M.files.length) : (M.does c).Ok := by
 refine ⟨h.rise,h.can.snoc hc,?_,?_,h.right,h.cut,h.room,h.leftB⟩
 · show (reach M.kept (M.chs ++ [c])).Nodup
   rw [reach_snoc]
   cases hmd : made c with
   | none => simpa using h.once
   | some f =>
    refine List.nodup_append.2 ⟨h.once,by simp,fun a ha b hb e => ?_⟩
    simp only [Option.toList_some,List.mem_singleton] at hb
    subst hb e
    exact (hm a hmd).1 ha
 · intro f hf
   have hf' : f ∈ reach M.kept (M.chs ++ [c]) := hf
   rw [reach_snoc] at hf'
   rcases List.mem_append.1 hf' with hf' | hf'
   · exact h.lt f hf'
   · cases hmd : made c with
     | none => rw [hmd] at hf'; cases hf'
     | some g =>
      rw [hmd] at hf'
      simp only [Option.toList_some,List.mem_singleton] at hf'
      subst hf'
      exact (hm f hmd).2
theorem MD.Ok.create {M : MD} (h : M.Ok) {n : Name} (hr : DiskM.right n) (hn : nfind M.now n = none) : CanDo M.newFile.now ⟨[],n,M.files.length⟩ ∧ (M.newFile.does ⟨[],n,M.files.length⟩).Ok ∧ (M.newFile.does ⟨[],n,M.files.length⟩).used = M.used := by
 have hc : CanDo M.newFile.now ⟨[],n,M.files.length⟩ := .inl ⟨rfl,hr,hn⟩
 refine ⟨hc,h.newFile.does hc fun f hf => ?_,?_⟩
 · have : f = M.files.length := by simpa [made] using hf.symm
   subst this
   exact ⟨fun hm => by have := h.lt _ hm; omega,by simp [MD.newFile]⟩
 · rw [used_does,used_newFile h]
   simp [made,MD.size,MD.file,MD.newFile]
theorem MD.Ok.setFile {M : MD} (h : M.Ok) {f : Nat} {x : List UInt8 × Nat} (hx : x.2 ≤ x.1.length) : (M.setFile f x).Ok :=
 ⟨h.rise,h.can,h.once,fun g hg => by show g < (M.files.set f x).length; rw [List.length_set]; exact h.lt g hg,h.right,fun y hy => by
  rcases List.mem_or_eq_of_mem_set hy with hy | rfl
  · exact h.cut y hy
  · exact hx,h.room,h.leftB⟩
theorem file_set (M : MD) {f : Nat} (hf : f < M.files.length) (x : List UInt8 × Nat) (g : Nat) : (M.setFile f x).file g = if g = f then x else M.file g := by
 unfold MD.setFile MD.file
 simp only [List.getD_eq_getElem?_getD]
 by_cases e : f = g
 · subst e
   rw [List.getElem?_set_self hf]
   simp
 · rw [List.getElem?_set_ne e,if_neg (fun h => e h.symm)]
theorem sum_set {l : List Nat} (hn : l.Nodup) {f : Nat} (hf : f ∈ l) (s s' : Nat → Nat) (hs : ∀ g,g ≠ f → s' g = s g) : (l.map s').sum + s f = (l.map s).sum + s' f := by
 induction l with
 | nil => cases hf
 | cons a l ih =>
  simp only [List.nodup_cons] at hn
  simp only [List.map_cons,List.sum_cons]
  rcases List.mem_cons.1 hf with rfl | hf
  · have : l.map s' = l.map s := List.map_congr_left fun g hg => hs g fun e => hn.1 (e ▸ hg)
    rw [this]; omega
  · have := ih hn.2 hf
    rw [hs a (fun e => hn.1 (e ▸ hf))]
    omega
theorem used_set {M : MD} (h : M.Ok) {f : Nat} (hf : f ∈ reach M.kept M.chs) (x : List UInt8 × Nat) : (M.setFile f x).used + M.size f = M.used + x.1.length := by
 have hl := h.lt f hf
 have := sum_set h.once hf M.size (M.setFile f x).size (fun g hg => by unfold MD.size; rw [file_set M hl,if_neg hg])
 have e : (M.setFile f x).size f = x.1.length := by unfold MD.size; rw [file_set M hl,if_pos rfl]
 rw [e] at this
 exact this
theorem MD.Ok.keptNow {M : MD} (h : M.Ok) : ({ M with kept := M.now,chs := [] } : MD).Ok := by
 have hp := reach_perm h.rise h.can
 have hsub : ∀ f,f ∈ reach M.now [] → f ∈ reach M.kept M.chs := fun f hf => now_reach h (by simpa [reach] using hf)
 refine ⟨now_rise h,trivial,?_,fun f hf => h.lt f (hsub f hf),now_right h,h.cut,h.room,h.leftB⟩
 show (reach M.now []).Nodup
 have h1 := (hp.nodup_iff).2 h.once
 have h2 := (List.nodup_append.1 h1).1
 simp only [reach,List.filterMap_nil,List.append_nil]
 exact h2
theorem used_kept {M : MD} (h : M.Ok) : ({ M with kept := M.now,chs := [] } : MD).used + ((gones M.kept M.chs).map M.size).sum = M.used := by
 have hp := (reach_perm h.rise h.can).map M.size
 have := hp.sum_nat
 rw [List.map_append,List.sum_append] at this
 have e : ({ M with kept := M.now,chs := [] } : MD).used = ((M.now.map (·.2)).map M.size).sum := by
  unfold MD.used
  simp only [reach,List.filterMap_nil,List.append_nil]
  rfl
 rw [e]
 exact this
end Go.Proofs.YthlmfalfnpjndaaGreat.DiskM
