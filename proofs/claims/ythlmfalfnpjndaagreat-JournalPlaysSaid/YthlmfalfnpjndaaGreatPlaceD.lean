import Derived.Test.YthlmfalfnpjndaaGreatAwX
import Derived.Test.YthlmfalfnpjndaaGreatPlaceC
import Derived.Test.YthlmfalfnpjndaaGreatPlaceG
namespace Go.Proofs.YthlmfalfnpjndaaGreat.Place
open Go Go.Proofs Aw Num DiskM DiskA DiskK DiskC Disk DiskL
set_option linter.unusedSimpArgs false
set_option linter.unusedVariables false
end Go.Proofs.YthlmfalfnpjndaaGreat.Place
namespace Go.Proofs.YthlmfalfnpjndaaGreat.Place
open Go Go.Proofs Aw Num DiskM DiskA DiskK DiskC Disk DiskL
set_option linter.unusedSimpArgs false
set_option linter.unusedVariables false
def V1 : Fns := { fn := fun f => P0.fn f,mu := fun d => .no,hp := fun f => P0.hp f,ord := fun i => none,it := fun f => P0.it f }
theorem V1_fn (f : FuncId) : V1.fn f = (P0.fn f) := rfl
theorem V1_mu (d : Tmp) : V1.mu d = (.no) := rfl
theorem V1_hp (f : FuncId) : V1.hp f = (P0.hp f) := rfl
theorem V1_ord (i : Nat) : V1.ord i = (none) := rfl
theorem V1_it (f : FuncId) : V1.it f = (P0.it f) := rfl
theorem V1_hy (b : Nat) : V1.hy b = none := rfl
attribute [bitvec_to_nat] V1_fn V1_mu V1_hp V1_ord V1_it V1_hy
abbrev vto1P : PM := up (to1P V1.hp)
def V2 : Fns := { fn := fun f => V1.fn f,mu := fun d => .no,hp := fun f => if f = 83 then some vto1P else V1.hp f,ord := fun i => none,it := fun f => V1.it f }
theorem V2_fn (f : FuncId) : V2.fn f = (V1.fn f) := rfl
theorem V2_mu (d : Tmp) : V2.mu d = (.no) := rfl
theorem V2_hp (f : FuncId) : V2.hp f = (if f = 83 then some vto1P else V1.hp f) := rfl
theorem V2_ord (i : Nat) : V2.ord i = (none) := rfl
theorem V2_it (f : FuncId) : V2.it f = (V1.it f) := rfl
theorem V2_hy (b : Nat) : V2.hy b = none := rfl
attribute [bitvec_to_nat] V2_fn V2_mu V2_hp V2_ord V2_it V2_hy
abbrev vbut1P : PM := up (but1P V2.hp)
def V3 : Fns := { fn := fun f => V2.fn f,mu := fun d => .no,hp := fun f => if f = 82 then some vbut1P else V2.hp f,ord := fun i => none,it := fun f => V2.it f }
theorem V3_fn (f : FuncId) : V3.fn f = (V2.fn f) := rfl
theorem V3_mu (d : Tmp) : V3.mu d = (.no) := rfl
theorem V3_hp (f : FuncId) : V3.hp f = (if f = 82 then some vbut1P else V2.hp f) := rfl
theorem V3_ord (i : Nat) : V3.ord i = (none) := rfl
theorem V3_it (f : FuncId) : V3.it f = (V2.it f) := rfl
theorem V3_hy (b : Nat) : V3.hy b = none := rfl
attribute [bitvec_to_nat] V3_fn V3_mu V3_hp V3_ord V3_it V3_hy
abbrev inOrder4P : PM := inOrderP V3.hp
def P4 : Fns := { fn := fun f => P0.fn f,mu := fun d => bif d == 7 then .nil 117 else .no,hp := fun f => if f = 53 then some toP else if f = 52 then some butP else if f = 51 then some inOrder4P else if f = 61 then some syncNamesP else P0.hp f,ord := fun i => none,it := fun f => P0.it f }
theorem P4_fn (f : FuncId) : P4.fn f = (P0.fn f) := rfl
theorem P4_mu (d : Tmp) : P4.mu d = (bif d == 7 then .nil 117 else .no) := rfl
theorem P4_hp (f : FuncId) : P4.hp f = (if f = 53 then some toP else if f = 52 then some butP else if f = 51 then some inOrder4P else if f = 61 then some syncNamesP else P0.hp f) := rfl
theorem P4_ord (i : Nat) : P4.ord i = (none) := rfl
theorem P4_it (f : FuncId) : P4.it f = (P0.it f) := rfl
theorem P4_hy (b : Nat) : P4.hy b = none := rfl
attribute [bitvec_to_nat] P4_fn P4_mu P4_hp P4_ord P4_it P4_hy
end Go.Proofs.YthlmfalfnpjndaaGreat.Place
namespace Go.Proofs.YthlmfalfnpjndaaGreat.Place
open Go Go.Proofs Aw Num DiskM DiskA DiskK DiskC Disk DiskL
set_option linter.unusedSimpArgs false
set_option linter.unusedVariables false
theorem ok_onFile {M : MD} (ok : M.Ok) (n : Name) (X : MD → Nat → MD × Nat) (hX : ∀ f,nfind M.now n = some f → (X M.begin.1 f).1.Ok) : (M.onFile n X).1.Ok := by
 rcases onFile_cases M n X with e | e | ⟨f,_,hf,e⟩ <;> rw [e]
 · exact ok.begin
 · exact ok.begin
 · exact hX f hf
theorem sz_onFile {k j : Nat} {M : MD} (h : Sz k M) (n : Name) (X : MD → Nat → MD × Nat) (hX : ∀ f,nfind M.now n = some f → Sz (k + j) (X M.begin.1 f).1) : Sz (k + j) (M.onFile n X).1 := by
 rcases onFile_cases M n X with e | e | ⟨f,_,hf,e⟩ <;> rw [e]
 · exact h.begin.mono (Nat.le_add_right _ _)
 · exact h.begin.mono (Nat.le_add_right _ _)
 · exact hX f hf
theorem ok_does0 {M : MD} (ok : M.Ok) {c : Chg} (hc : CanDo M.now c) (hm : made c = none) : (M.begin.1.does c).Ok := ok.begin.does (by rw [begin_now]; exact hc) (fun f h => by rw [hm] at h; cases h)
theorem sz_does0 {k : Nat} {M : MD} (h : Sz k M) {c : Chg} (hm : made c = none) : Sz (k + 1) (M.begin.1.does c) := by
 refine ⟨?_,?_,?_,(h.begin.mono (Nat.le_succ k)).files⟩
 · show (M.begin.1.chs ++ [c]).length ≤ _
   have := h.begin.chs
   simp; omega
 · have := h.begin.nf
   show M.begin.1.files.length ≤ _
   omega
 · show (M.begin.1.does c).used ≤ _
   rw [does_used0 hm,begin_used]
   have := h.used; omega
theorem can_from {M : MD} (ok : M.Ok) {n : Name} {f : Nat} (hf : nfind M.now n = some f) (t : Name) (ht : t = [] ∨ right t) : CanDo M.now ⟨n,t,0⟩ ∧ made ⟨n,t,0⟩ = none :=
 ⟨.inr ⟨now_ne ok hf,by show (nfind M.now n).isSome = true; rw [hf]; rfl,ht⟩,by simp [made,now_ne ok hf]⟩
def Makes (j : Nat) (g : Do) : Prop := ∀ k M,M.Ok → Sz k M → k + j ≤ 10000 → g.pre M ∧ (g.f M).1.Ok ∧ Sz (k + j) (g.f M).1
theorem makes_append (n : Name) {b : List UInt8} {j : Nat} (hb : b.length ≤ 50 * j) : Makes j (appendD n b) := by
 intro k M ok h hk
 refine ⟨h.small (by omega),ok_onFile ok _ _ fun f hf => ?_,sz_onFile h _ _ fun f hf => ?_⟩
 · split
   · exact ok.begin
   · exact ok.begin.setFile (by have := file_cut ok.begin f; simp only [List.length_append]; omega)
 · split
   · exact h.begin.mono (Nat.le_add_right _ _)
   · have hu := used_set ok.begin (f := f) (by rw [begin_kept,begin_chs]; exact (now_lt ok hf).1) ((M.begin.1.file f).1 ++ b,(M.begin.1.file f).2)
     unfold MD.size at hu
     simp only [List.length_append] at hu
     have hus := begin_used M
     have hsu := h.used
     have hfl := h.begin.file f
     refine (h.begin.mono (Nat.le_add_right k j)).setFile ?_ ?_
     · simp only [List.length_append]; omega
     · show (M.begin.1.setFile f _).used ≤ _
       omega
theorem makes_sync (n : Name) : Makes 1 (syncD n) := by
 intro k M ok h hk
 refine ⟨h.small (by omega),ok_onFile ok _ _ fun f hf => ok.begin.setFile (Nat.le_refl _),sz_onFile h _ _ fun f hf => ?_⟩
 have hu := used_set ok.begin (f := f) (by rw [begin_kept,begin_chs]; exact (now_lt ok hf).1) ((M.begin.1.file f).1,(M.begin.1.file f).1.length)
 unfold MD.size at hu
 simp only at hu
 have hus := begin_used M
 have hsu := h.used
 have hfl := h.begin.file f
 refine (h.begin.mono (Nat.le_succ k)).setFile ?_ ?_
 · simp only; omega
 · show (M.begin.1.setFile f _).used ≤ _
   omega
theorem makes_rename (n t : Name) : Makes 1 (renameD n t) := by
 intro k M ok h hk
 refine ⟨h.small (by omega),ok_onFile ok _ _ fun f hf => ?_,sz_onFile h _ _ fun f hf => ?_⟩
 · split
   · rename_i hr
     obtain ⟨h1,h2⟩ := can_from ok hf t (.inr hr)
     exact ok_does0 ok h1 h2
   · exact ok.begin
 · split
   · rename_i hr
     exact sz_does0 h (can_from ok hf t (.inr hr)).2
   · exact h.begin.mono (Nat.le_succ _)
theorem makes_remove (n : Name) : Makes 1 (removeD n) := by
 intro k M ok h hk
 refine ⟨h.small (by omega),ok_onFile ok _ _ fun f hf => ?_,sz_onFile h _ _ fun f hf => ?_⟩
 · obtain ⟨h1,h2⟩ := can_from ok hf [] (.inl rfl)
   exact ok_does0 ok h1 h2
 · exact sz_does0 h (can_from ok hf [] (.inl rfl)).2
theorem makes_syncNames : Makes 1 syncNamesD := by
 intro k M ok h hk
 refine ⟨h.small (by omega),?_,?_⟩
 · show (M.syncNames).1.Ok
   unfold MD.syncNames
   split
   · exact ok.begin
   · have := ok.begin.keptNow
     rw [begin_now] at this
     exact this
 · show Sz (k + 1) M.syncNames.1
   unfold MD.syncNames
   split
   · exact h.begin.mono (Nat.le_succ _)
   · have hk := used_kept ok.begin
     rw [begin_now,begin_used] at hk
     have hsu := h.used
     have hk2 := Nat.le.intro hk
     refine ⟨by simp,?_,?_,(h.begin.mono (Nat.le_succ k)).files⟩
     · have := h.begin.nf
       show M.begin.1.files.length ≤ _
       omega
     · exact Nat.le_trans hk2 (by omega)
theorem makes_create (n : Name) : Makes 1 (createD n) := by
 intro k M ok h hk
 have key : (M.create n).1.Ok ∧ Sz (k + 1) (M.create n).1 := by
  unfold MD.create
  split
  · exact ⟨ok.begin,h.begin.mono (Nat.le_succ _)⟩
  · split
    · exact ⟨ok.begin,h.begin.mono (Nat.le_succ _)⟩
    · split
      · exact ⟨ok.begin,h.begin.mono (Nat.le_succ _)⟩
      · rename_i h1 h2 h3
        have hn : nfind M.begin.1.now n = none := by rw [begin_now]; cases hx : nfind M.now n with
         | none => rfl
         | some x => rw [hx] at h3; simp at h3
        obtain ⟨c1,c2,c3⟩ := ok.begin.create (n := n) (by simpa using h2) hn
        rw [begin_files] at c1 c2 c3
        have e : ({ M.begin.1 with files := M.files ++ [([],0)] } : MD).does ⟨[],n,M.files.length⟩ = M.begin.1.newFile.does ⟨[],n,M.files.length⟩ := by
         unfold MD.newFile; rw [begin_files]
        rw [e]
        have hus := begin_used M
        refine ⟨c2,?_,?_,?_,fun x hx => ?_⟩
        · show (M.begin.1.chs ++ [_]).length ≤ _
          have := h.begin.chs
          simp; omega
        · show (M.begin.1.files ++ [_]).length ≤ _
          have := h.begin.nf
          simp; omega
        · show (M.begin.1.newFile.does _).used ≤ _
          rw [c3,hus]
          have := h.used; omega
        · have hx' : x ∈ M.begin.1.files ++ [([],0)] := hx
          rcases List.mem_append.1 hx' with hx' | hx'
          · have := h.begin.files x hx'; omega
          · simp at hx'; subst hx'; simp
 exact ⟨h.small (by omega),key⟩
theorem Makes.but {j c : Nat} {g : Do} (h : Makes j g) : Makes j (butD c g) := fun k M ok hs hk => h k M ok hs hk
theorem Makes.mono {j j' : Nat} {g : Do} (h : Makes j g) (hj : j ≤ j') : Makes j' g := fun k M ok hs hk => by
 obtain ⟨a,b,c⟩ := h k M ok hs (by omega)
 exact ⟨a,b,c.mono (by omega)⟩
theorem Makes.nil : Makes 0 (runD []) := fun k M ok hs hk => ⟨trivial,ok,hs⟩
theorem Makes.cons {i j : Nat} {g : Do} {l : List Do} (h : Makes i g) (hl : Makes j (runD l)) : Makes (i + j) (runD (g :: l)) := by
 intro k M ok hs hk
 obtain ⟨a,b,c⟩ := h k M ok hs (by omega)
 have hj := fun (_ : (g.f M).2 = 0) => hl (k + i) (g.f M).1 b c (by omega)
 refine ⟨⟨a,fun h0 => (hj h0).1⟩,?_⟩
 show (runF (g :: l) M).1.Ok ∧ Sz (k + (i + j)) (runF (g :: l) M).1
 rw [runF_cons]
 unfold runFrom
 by_cases h0 : (g.f M).2 = 0
 · rw [if_pos h0]
   obtain ⟨_,a2,a3⟩ := hj h0
   exact ⟨a2,a3.mono (by omega)⟩
 · rw [if_neg h0]
   exact ⟨b,c.mono (by omega)⟩
theorem makes_list (n : Name) : ∀ (l : List (List UInt8)),(∀ c ∈ l,c.length ≤ 100) → Makes (2 * l.length) (runD (l.map (appendD n)))
 | [],_ => Makes.nil
 | c :: l,h => ((makes_append n (j := 2) (h c (by simp))).cons (makes_list n l fun c hc => h c (List.mem_cons_of_mem _ hc))).mono (by simp; omega)
theorem makes_parts (n : Name) {b : List UInt8} (hb : b.length ≤ 300) : Makes 10 (runD (partsOf n b)) := by
 refine (makes_list n (chunks b) fun c hc => ?_).mono ?_
 · obtain ⟨i,hi,rfl⟩ := List.mem_map.1 hc
   rw [List.length_take]; omega
 · rw [chunks_len]; omega
theorem makes_put (n : Name) {b : List UInt8} (hb : b.length ≤ 300) : Makes 16 (putAll n b) := by
 intro k M ok hs hk
 have h : Makes (1 + (1 + (10 + (1 + (1 + (1 + 0)))))) (putD n b) :=
  (makes_remove _).but.cons ((makes_create _).cons (Makes.cons (makes_parts _ hb) ((makes_sync _).cons ((makes_rename _ _).cons (makes_syncNames.cons Makes.nil)))))
 obtain ⟨a,c,d⟩ := h k M ok hs (by omega)
 refine ⟨fun _ => a,?_⟩
 show (if growsOk n then (putD n b).f M else (M,1)).1.Ok ∧ Sz (k + 16) (if growsOk n then (putD n b).f M else (M,1)).1
 split
 · exact ⟨c,d.mono (by omega)⟩
 · exact ⟨ok,hs.mono (by omega)⟩
theorem makes_grow (n : Name) {b : List UInt8} (hb : b.length ≤ 300) : Makes 16 (growAll n b) := by
 intro k M ok hs hk
 have h : Makes ((1 + (1 + 0)) + (6 + (1 + 0))) (growD n b) :=
  Makes.cons (Makes.but ((makes_create n).cons (makes_syncNames.cons Makes.nil))) ((makes_append n (j := 6) (by omega)).cons ((makes_sync n).cons Makes.nil))
 obtain ⟨a,c,d⟩ := h k M ok hs (by omega)
 refine ⟨fun _ => a,?_⟩
 show (if growsOk n then (growD n b).f M else (M,1)).1.Ok ∧ Sz (k + 16) (if growsOk n then (growD n b).f M else (M,1)).1
 split
 · exact ⟨c,d.mono (by omega)⟩
 · exact ⟨ok,hs.mono (by omega)⟩
end Go.Proofs.YthlmfalfnpjndaaGreat.Place
