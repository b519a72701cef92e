import Derived.Test.YthlmfalfnpjndaaGreatAw15
import Derived.Test.YthlmfalfnpjndaaGreatDiskM
namespace Go.Proofs.YthlmfalfnpjndaaGreat.DiskA
open Go Aw DiskM
set_option linter.unusedVariables false
set_option linter.unusedSimpArgs false
abbrev Fl := Nat × Option Nat
structure Own where
 o : Nat
 ms : Option (Nat × Nat)
 fs : List Fl
 tk : Option Nat
def Own.mine (w : Own) : List Nat := w.o :: ((match w.ms with | none => [] | some (a,b) => [a,b]) ++ w.fs.flatMap fun x => x.1 :: x.2.toList)
def Own.S (w : Own) (i : Nat) : Prop := i ∈ w.mine
def Own.R (w : Own) (k : Nat) : Prop := w.tk = some k
def bytesV (u8 : TypeId) (x : Option Nat) (b : List UInt8) : V := match x with
 | none => .nils
 | some ob => .vrow u8 1 ob b.length
theorem bytesV_one (u8 : TypeId) (x : Option Nat) (b : List UInt8) : (bytesV u8 x b).isAgg = false := by cases x <;> rfl
def RowAt (L : LL) (x : Option Nat) (b : List UInt8) : Prop := match x with
 | none => b = []
 | some ob => ∃ cs,L[ob]? = some cs ∧ cs ≠ [] ∧ cs.take b.length = b.map byteV
def FileAt (u8 : TypeId) (L : LL) (x : Fl) (f : List UInt8 × Nat) : Prop := L[x.1]? = some [bytesV u8 x.2 f.1,.int .i64 (f.2 : Int)] ∧ RowAt L x.2 f.1
def locV (fs : List Fl) (f : Nat) : V := .box (fs.getD f (0,none)).1 0
def NMap (fs : List Fl) (l : List (MKey × Nat × V)) (m : Names) : Prop := (l.map (·.1)).Nodup ∧ (∀ k ∈ l.map (·.1),∃ n,k = .str n) ∧ ∀ n,mfind l (.str n) = (nfind m n).map (locV fs)
def nilP : V := .raw (.pointer none)
def nilM : V := .raw (.map none)
def madeV (fs : List Fl) (c : Chg) : V := if c.frm = [] then locV fs c.file else nilP
def chgV (fs : List Fl) (c : Chg) : V := .agg [.str c.frm,.str c.to,madeV fs c]
def mapV (x : Option (Nat × Nat)) (snd : Bool) : V := match x,snd with
 | none,_ => nilM
 | some (a,_),false => .mref a
 | some (_,b),true => .mref b
def chsV (fs : List Fl) (t : Option Nat) (cs : List Chg) : V := match t with
 | none => .nils
 | some k => .list 3 (cs.map (chgV fs)) (some k)
def MapsAt (L : LL) (w : Own) (M : MD) : Prop := match w.ms with
 | none => M.kept = [] ∧ M.chs = []
 | some (a,b) => (∃ ck l,L[a]? = some [.mapc none ck l] ∧ NMap w.fs l M.now) ∧ ∃ ck l,L[b]? = some [.mapc none ck l] ∧ NMap w.fs l M.kept
def ChsAt (tc : TypeId) (T : TT) (w : Own) (M : MD) : Prop := match w.tk with
 | none => M.chs = []
 | some k => T[k]? = some (M.chs.length,tc)
def headV (w : Own) (M : MD) (lf : Int) : List V := [.int .i64 M.room,.int .i64 (M.used : Int),mapV w.ms false,mapV w.ms true,chsV w.fs w.tk M.chs,.bool M.down,.bool M.doomed,.int .i64 lf]
structure DiskAt (u8 tc : TypeId) (L : LL) (T : TT) (M : MD) (w : Own) : Prop where
 ok : M.Ok
 head : ∃ lf : Int,L[w.o]? = some (headV w M lf) ∧ (M.doomed = true → M.down = false → lf = M.left)
 maps : MapsAt L w M
 chs : ChsAt tc T w M
 nfs : w.fs.length = M.files.length
 files : ∀ (f : Nat) (x : Fl) (y : List UInt8 × Nat),w.fs[f]? = some x → M.files[f]? = some y → FileAt u8 L x y
 nodup : w.mine.Nodup
variable {u8 tc : TypeId} {M : MD} {w : Own} {L L' : LL} {T T' : TT}
theorem mem_ms {w : Own} {a b : Nat} (h : w.ms = some (a,b)) : w.S a ∧ w.S b := by simp [Own.S,Own.mine,h]
theorem mem_fs {w : Own} {f : Nat} {x : Fl} (h : w.fs[f]? = some x) : w.S x.1 ∧ ∀ ob,x.2 = some ob → w.S ob := by
 have hm := List.mem_of_getElem? h
 refine ⟨?_,fun ob ho => ?_⟩
 · simp only [Own.S,Own.mine,List.mem_cons,List.mem_append,List.mem_flatMap]
   exact .inr (.inr ⟨x,hm,by simp⟩)
 · simp only [Own.S,Own.mine,List.mem_cons,List.mem_append,List.mem_flatMap]
   exact .inr (.inr ⟨x,hm,by simp [ho]⟩)
theorem mem_o (w : Own) : w.S w.o := by simp [Own.S,Own.mine]
theorem DiskAt.same (h : DiskAt u8 tc L T M w) (hL : ∀ i,w.S i → L'[i]? = L[i]?) (hT : ∀ k,w.R k → T'[k]? = T[k]?) : DiskAt u8 tc L' T' M w := by
 obtain ⟨ok,⟨lf,h1,h2⟩,hm,hc,hn,hf,hnd⟩ := h
 refine ⟨ok,⟨lf,by rw [hL _ (mem_o w)]; exact h1,h2⟩,?_,?_,hn,fun f x y hx hy => ?_,hnd⟩
 · unfold MapsAt at hm ⊢
   split
   · rename_i hms; rw [hms] at hm; exact hm
   · rename_i a b hms
     rw [hms] at hm
     obtain ⟨ha,hb⟩ := mem_ms hms
     rw [hL a ha,hL b hb]
     exact hm
 · unfold ChsAt at hc ⊢
   split
   · rename_i htk; rw [htk] at hc; exact hc
   · rename_i k htk
     rw [htk] at hc
     rw [hT k htk]
     exact hc
 · obtain ⟨g1,g2⟩ := hf f x y hx hy
   obtain ⟨m1,m2⟩ := mem_fs hx
   refine ⟨by rw [hL _ m1]; exact g1,?_⟩
   unfold RowAt at g2 ⊢
   split
   · rename_i ho; rw [ho] at g2; exact g2
   · rename_i ob ho
     rw [ho] at g2
     rw [hL ob (m2 ob ho)]
     exact g2
theorem DiskAt.lt (h : DiskAt u8 tc L T M w) : ∀ i,w.S i → i < L.length := by
 obtain ⟨ok,⟨lf,h1,h2⟩,hm,hc,hn,hf,hnd⟩ := h
 intro i hi
 simp only [Own.S,Own.mine,List.mem_cons,List.mem_append,List.mem_flatMap] at hi
 rcases hi with rfl | hi | ⟨x,hx,hi⟩
 · exact lt_at h1
 · unfold MapsAt at hm
   split at hm
   · rename_i hms; simp [hms] at hi
   · rename_i a b hms
     obtain ⟨⟨c1,l1,e1,_⟩,c2,l2,e2,_⟩ := hm
     simp only [hms,List.mem_cons,List.not_mem_nil,or_false] at hi
     rcases hi with rfl | rfl
     · exact lt_at e1
     · exact lt_at e2
 · obtain ⟨f,hfl,rfl⟩ := List.mem_iff_getElem.1 hx
   have hy : M.files[f]? = some (M.files[f]'(by omega)) := List.getElem?_eq_getElem _
   obtain ⟨g1,g2⟩ := hf f _ _ (List.getElem?_eq_getElem hfl) hy
   rcases hi with rfl | hi
   · exact lt_at g1
   · unfold RowAt at g2
     split at g2
     · rename_i ho; simp [ho] at hi
     · rename_i ob ho
       obtain ⟨cs,h1,_⟩ := g2
       simp only [ho,Option.toList_some,List.mem_singleton] at hi
       subst hi
       exact lt_at h1
theorem DiskAt.tlt (h : DiskAt u8 tc L T M w) : ∀ k,w.R k → k < T.length := by
 intro k hk
 have hc := h.chs
 unfold ChsAt at hc
 unfold Own.R at hk
 rw [hk] at hc
 exact tlt_at hc
theorem DiskAt.frame (h : DiskAt u8 tc L T M w) {S R S' R' : Nat → Prop} (g : Step S R L T S' R' L' T') (hS : ∀ i,w.S i → ¬ S i) (hR : ∀ k,w.R k → ¬ R k) : DiskAt u8 tc L' T' M w :=
 h.same (fun i hi => g.keep i (h.lt i hi) (hS i hi)) fun k hk => g.tkeep k (h.tlt k hk) (hR k hk)
theorem mine_cons (w : Own) : w.mine = w.o :: ((match w.ms with | none => [] | some (a,b) => [a,b]) ++ w.fs.flatMap fun x => x.1 :: x.2.toList) := rfl
theorem DiskAt.o_ne (h : DiskAt u8 tc L T M w) : (∀ a b,w.ms = some (a,b) → w.o ≠ a ∧ w.o ≠ b ∧ a ≠ b) ∧ ∀ (f : Nat) (x : Fl),w.fs[f]? = some x → w.o ≠ x.1 ∧ ∀ ob,x.2 = some ob → w.o ≠ ob := by
 have hn := h.nodup
 rw [mine_cons,List.nodup_cons] at hn
 refine ⟨fun a b hms => ?_,fun f x hx => ?_⟩
 · rw [hms] at hn
   refine ⟨fun e => hn.1 (by rw [e]; simp),fun e => hn.1 (by rw [e]; simp),fun e => ?_⟩
   have := hn.2
   rw [e] at this
   simp at this
 · have hm := List.mem_of_getElem? hx
   refine ⟨fun e => hn.1 (List.mem_append_right _ (List.mem_flatMap.2 ⟨x,hm,by rw [e]; simp⟩)),fun ob ho e => hn.1 (List.mem_append_right _ (List.mem_flatMap.2 ⟨x,hm,by rw [e]; simp [ho]⟩))⟩
theorem DiskAt.ms_ne (h : DiskAt u8 tc L T M w) {a b : Nat} (hms : w.ms = some (a,b)) {f : Nat} {x : Fl} (hx : w.fs[f]? = some x) : a ≠ x.1 ∧ b ≠ x.1 ∧ ∀ ob,x.2 = some ob → a ≠ ob ∧ b ≠ ob := by
 have hn := h.nodup
 rw [mine_cons,hms,List.nodup_cons] at hn
 have hn2 := hn.2
 simp only [List.cons_append,List.nil_append,List.nodup_cons,List.mem_cons,not_or] at hn2
 obtain ⟨⟨_,h1⟩,h2,_⟩ := hn2
 have hm := List.mem_of_getElem? hx
 have m1 : x.1 ∈ w.fs.flatMap fun x => x.1 :: x.2.toList := List.mem_flatMap.2 ⟨x,hm,by simp⟩
 refine ⟨fun e => h1 (e ▸ m1),fun e => h2 (e ▸ m1),fun ob ho => ?_⟩
 have m2 : ob ∈ w.fs.flatMap fun x => x.1 :: x.2.toList := List.mem_flatMap.2 ⟨x,hm,by simp [ho]⟩
 exact ⟨fun e => h1 (e ▸ m2),fun e => h2 (e ▸ m2)⟩
theorem DiskAt.turn (h : DiskAt u8 tc L T M w) {a b : Nat} (hms : w.ms = some (a,b)) {M' : MD} {tk' : Option Nat} {lf : Int} (hf : M'.files = M.files) (ok : M'.Ok) (h1 : L'[w.o]? = some (headV { w with tk := tk' } M' lf)) (h2 : M'.doomed = true → M'.down = false → lf = M'.left)
 (ha : ∃ ck l,L'[a]? = some [.mapc none ck l] ∧ NMap w.fs l M'.now) (hb : ∃ ck l,L'[b]? = some [.mapc none ck l] ∧ NMap w.fs l M'.kept) (hc : ChsAt tc T' { w with tk := tk' } M')
 (hk : ∀ i,i < L.length → i ≠ w.o → i ≠ a → i ≠ b → L'[i]? = L[i]?) : DiskAt u8 tc L' T' M' { w with tk := tk' } := by
 refine ⟨ok,⟨lf,h1,h2⟩,?_,hc,by rw [hf]; exact h.nfs,fun f x y hx hy => ?_,h.nodup⟩
 · unfold MapsAt
   simp only [hms]
   exact ⟨ha,hb⟩
 · rw [hf] at hy
   obtain ⟨e1,e2⟩ := h.o_ne.2 f x hx
   obtain ⟨e3,e4,e5⟩ := h.ms_ne hms hx
   obtain ⟨m1,m2⟩ := mem_fs (w := w) hx
   obtain ⟨g1,g2⟩ := h.files f x y hx hy
   refine ⟨by rw [hk _ (h.lt _ m1) (Ne.symm e1) (Ne.symm e3) (Ne.symm e4)]; exact g1,?_⟩
   unfold RowAt at g2 ⊢
   split
   · rename_i ho; rw [ho] at g2; exact g2
   · rename_i ob ho
     rw [ho] at g2
     rw [hk _ (h.lt _ (m2 ob ho)) (Ne.symm (e2 ob ho)) (Ne.symm (e5 ob ho).1) (Ne.symm (e5 ob ho).2)]
     exact g2
theorem DiskAt.setHead (h : DiskAt u8 tc L T M w) {M' : MD} (hf : M'.files = M.files) (hk : M'.kept = M.kept) (hc : M'.chs = M.chs) (hr : 0 ≤ M'.room) (hlb : (M'.left : Int) ≤ 9223372036854775807) {lf : Int} (hl : M'.doomed = true → M'.down = false → lf = M'.left) :
 DiskAt u8 tc (L.set w.o (headV w M' lf)) T M' w := by
 have hlt := h.lt _ (mem_o w)
 obtain ⟨n1,n2⟩ := h.o_ne
 obtain ⟨ok,⟨lf0,h1,h2⟩,hm,hch,hn,hfs,hnd⟩ := h
 have hnow : M'.now = M.now := by unfold MD.now; rw [hk,hc]
 refine ⟨⟨by rw [hk]; exact ok.rise,by rw [hk,hc]; exact ok.can,by rw [hk,hc]; exact ok.once,by rw [hk,hc,hf]; exact ok.lt,by rw [hk]; exact ok.right,by rw [hf]; exact ok.cut,hr,hlb⟩,
  ⟨lf,at_set hlt _,hl⟩,?_,?_,by rw [hf]; exact hn,fun f x y hx hy => ?_,hnd⟩
 · unfold MapsAt at hm ⊢
   split
   · rename_i hms; rw [hms] at hm; rw [hk,hc]; exact hm
   · rename_i a b hms
     rw [hms] at hm
     obtain ⟨e1,e2,_⟩ := n1 a b hms
     rw [at_other e1,at_other e2,hnow,hk]
     exact hm
 · unfold ChsAt at hch ⊢
   rw [hc]
   exact hch
 · rw [hf] at hy
   obtain ⟨e1,e2⟩ := n2 f x hx
   obtain ⟨g1,g2⟩ := hfs f x y hx hy
   refine ⟨by rw [at_other e1]; exact g1,?_⟩
   unfold RowAt at g2 ⊢
   split
   · rename_i ho; rw [ho] at g2; exact g2
   · rename_i ob ho
     rw [ho] at g2
     rw [at_other (e2 ob ho)]
     exact g2
theorem NMap.del {fs : List Fl} {l : List (MKey × Nat × V)} {m : Names} (h : NMap fs l m) (n : Name) : NMap fs (mdel l (.str n)) (nwithout m n) := by
 obtain ⟨h1,h2,h3⟩ := h
 have hsub : ((mdel l (.str n)).map (·.1)).Sublist (l.map (·.1)) := mdel_sub.map _
 refine ⟨hsub.nodup h1,fun k hk => h2 k (hsub.subset hk),fun n' => ?_⟩
 rw [mfind_del h1,nfind_without,h3]
 by_cases e : n' = n
 · simp [e]
 · rw [if_neg (fun e' => e (by cases e'; rfl)),if_neg e]
theorem NMap.put {fs : List Fl} {l : List (MKey × Nat × V)} {m : Names} (h : NMap fs l m) (ck : Nat) (n : Name) (f : Nat) : NMap fs (mput ck l (.str n) (locV fs f)) (nwith m n f) := by
 obtain ⟨h1,h2,h3⟩ := h
 refine ⟨mput_nodup h1,fun k hk => ?_,fun n' => ?_⟩
 · rcases mput_keys hk with rfl | hk
   · exact ⟨n,rfl⟩
   · exact h2 k hk
 · rw [mfind_put,nfind_with,h3]
   by_cases e : n' = n
   · simp [e]
   · rw [if_neg (fun e' => e (by cases e'; rfl)),if_neg e]
def optV (fs : List Fl) : Option Nat → V
 | none => nilP
 | some f => locV fs f
theorem opt_getD (fs : List Fl) (x : Option Nat) : (x.map (locV fs)).getD nilP = optV fs x := by cases x <;> rfl
theorem nmap_nil (fs : List Fl) : NMap fs [] [] := ⟨by simp,by simp,fun n => rfl⟩
theorem DiskAt.setMaps (h : DiskAt u8 tc L T M w) (hms : w.ms = none) {M' : MD} (hf : M'.files = M.files) (hk : M'.kept = M.kept) (hc : M'.chs = M.chs) (hr : 0 ≤ M'.room) (hlb : (M'.left : Int) ≤ 9223372036854775807) {lf : Int} (hl : M'.doomed = true → M'.down = false → lf = M'.left) :
 DiskAt u8 tc (L.set w.o (headV { w with ms := some (L.length,L.length + 1) } M' lf) ++ [[.mapc none 0 []]] ++ [[.mapc none 0 []]]) T M' { w with ms := some (L.length,L.length + 1) } ∧
 Step w.S w.R L T { w with ms := some (L.length,L.length + 1) : Own }.S w.R (L.set w.o (headV { w with ms := some (L.length,L.length + 1) } M' lf) ++ [[.mapc none 0 []]] ++ [[.mapc none 0 []]]) T := by
 have hlt := h.lt _ (mem_o w)
 have hall := h.lt
 obtain ⟨n1,n2⟩ := h.o_ne
 obtain ⟨ok,⟨lf0,h1,h2⟩,hm,hch,hn,hfs,hnd⟩ := h
 have hnow : M'.now = M.now := by unfold MD.now; rw [hk,hc]
 have hm' : M.kept = [] ∧ M.chs = [] := by unfold MapsAt at hm; rw [hms] at hm; exact hm
 have old : ∀ i,i < L.length → w.o ≠ i → ∀ x,(L.set w.o x ++ [[V.mapc none 0 []]] ++ [[V.mapc none 0 []]])[i]? = L[i]? := fun i hi hne x => by
  rw [at_app (by simp; omega),at_app (by simp; omega),at_other hne]
 have hmine : ∀ i,({ w with ms := some (L.length,L.length + 1) } : Own).S i ↔ i = L.length ∨ i = L.length + 1 ∨ w.S i := fun i => by
  simp only [Own.S,Own.mine,hms,List.mem_cons,List.mem_append,List.not_mem_nil,or_false,List.nil_append]
  constructor
  · rintro (h | (h | h) | h) <;> simp [h]
  · rintro (h | h | h | h) <;> simp [h]
 refine ⟨⟨⟨by rw [hk]; exact ok.rise,by rw [hk,hc]; exact ok.can,by rw [hk,hc]; exact ok.once,by rw [hk,hc,hf]; exact ok.lt,by rw [hk]; exact ok.right,by rw [hf]; exact ok.cut,hr,hlb⟩,
  ⟨lf,?_,hl⟩,?_,?_,by rw [hf]; exact hn,fun f x y hx hy => ?_,?_⟩,?_⟩
 · show (_ : LL)[w.o]? = _
   rw [at_app (by simp; omega),at_app (by simp; omega),at_set hlt]
 · unfold MapsAt
   have e0 : M'.now = [] := by rw [hnow]; unfold MD.now; rw [hm'.1,hm'.2]; rfl
   have e1 : M'.kept = [] := by rw [hk,hm'.1]
   simp only [e0,e1]
   refine ⟨⟨0,[],?_,nmap_nil _⟩,0,[],?_,nmap_nil _⟩
   · rw [at_app (by simp),at_new (by simp)]
   · rw [at_new (by simp)]
 · unfold ChsAt at hch ⊢
   rw [hc]
   exact hch
 · rw [hf] at hy
   obtain ⟨e1,e2⟩ := n2 f x hx
   obtain ⟨m1,m2⟩ := mem_fs (w := w) hx
   obtain ⟨g1,g2⟩ := hfs f x y hx hy
   refine ⟨by rw [old _ (hall _ m1) e1]; exact g1,?_⟩
   unfold RowAt at g2 ⊢
   split
   · rename_i ho; rw [ho] at g2; exact g2
   · rename_i ob ho
     rw [ho] at g2
     rw [old _ (hall _ (m2 ob ho)) (e2 ob ho)]
     exact g2
 · have hnd' := hnd
   rw [mine_cons,hms] at hnd'
   simp only [List.nil_append,List.nodup_cons] at hnd'
   rw [mine_cons]
   have hin : ∀ i ∈ w.fs.flatMap (fun x => x.1 :: x.2.toList),i < L.length := fun i hi => hall i (by simp only [Own.S,Own.mine,hms]; simp; right; simpa using hi)
   simp only [List.cons_append,List.nil_append,List.nodup_cons,List.mem_cons,not_or]
   refine ⟨⟨by omega,by omega,hnd'.1⟩,⟨by omega,fun hi => by have := hin _ hi; omega⟩,fun hi => by have := hin _ hi; omega,hnd'.2⟩
 · refine (((Step.refl w.S w.R L T).set (.inl (mem_o w)) _).app _ |>.app _).less (fun i hi => ?_) fun k hk => .inl hk
   rcases (hmine i).1 hi with rfl | rfl | h
   · exact .inr (Nat.le_refl _)
   · exact .inr (by omega)
   · exact .inl h
def cellsOf (x : Fl) : List Nat := x.1 :: x.2.toList
theorem mine_eq (w : Own) : w.mine = w.o :: ((match w.ms with | none => [] | some (a,b) => [a,b]) ++ w.fs.flatMap cellsOf) := rfl
theorem getD_app {fs : List Fl} {x : Fl} {f : Nat} (h : f < fs.length) : (fs ++ [x]).getD f (0,none) = fs.getD f (0,none) := by
 simp only [List.getD_eq_getElem?_getD,List.getElem?_append_left h]
theorem locV_app {fs : List Fl} {x : Fl} {f : Nat} (h : f < fs.length) : locV (fs ++ [x]) f = locV fs f := by unfold locV; rw [getD_app h]
theorem locV_new {fs : List Fl} {x : Fl} {n : Nat} (h : n = fs.length) : locV (fs ++ [x]) n = .box x.1 0 := by subst h; simp [locV]
theorem chgV_app {fs : List Fl} {x : Fl} {c : Chg} (h : ∀ f,made c = some f → f < fs.length) : chgV (fs ++ [x]) c = chgV fs c := by
 unfold chgV madeV
 by_cases hc : c.frm = []
 · rw [if_pos hc,if_pos hc,locV_app (h _ (by simp [made,hc]))]
 · rw [if_neg hc,if_neg hc]
theorem chsV_congr {fs fs' : List Fl} {tk : Option Nat} {cs : List Chg} (h : ∀ c ∈ cs,chgV fs' c = chgV fs c) : chsV fs' tk cs = chsV fs tk cs := by
 unfold chsV
 split
 · rfl
 · rw [List.map_congr_left h]
theorem NMap.congr {fs fs' : List Fl} {l : List (MKey × Nat × V)} {m : Names} (h : NMap fs l m) (hl : ∀ n f,nfind m n = some f → locV fs' f = locV fs f) : NMap fs' l m := by
 refine ⟨h.1,h.2.1,fun n => ?_⟩
 rw [h.2.2 n]
 cases hf : nfind m n with
 | none => rfl
 | some f => simp [hl n f hf]
theorem made_lt {M : MD} (h : M.Ok) {c : Chg} (hc : c ∈ M.chs) {f : Nat} (hf : made c = some f) : f < M.files.length :=
 h.lt f (List.mem_append_right _ (List.mem_filterMap.2 ⟨c,hc,hf⟩))
theorem DiskAt.addFile (h : DiskAt u8 tc L T M w) : DiskAt u8 tc (L ++ [[.nils,.int .i64 0]]) T M.newFile { w with fs := w.fs ++ [(L.length,none)] } ∧
 Step w.S w.R L T { w with fs := w.fs ++ [(L.length,none)] : Own }.S w.R (L ++ [[.nils,.int .i64 0]]) T := by
 have hall := h.lt
 obtain ⟨ok,⟨lf,h1,h2⟩,hm,hch,hn,hfs,hnd⟩ := h
 have hlt := lt_at h1
 have hS : ∀ i,({ w with fs := w.fs ++ [(L.length,none)] } : Own).S i ↔ w.S i ∨ i = L.length := fun i => by
  simp only [Own.S,Own.mine,List.flatMap_append,List.mem_cons,List.mem_append,List.flatMap_cons,List.flatMap_nil,List.append_nil,Option.toList_none,List.mem_singleton]
  constructor
  · rintro (h | h | h | h)
    · exact .inl (.inl h)
    · exact .inl (.inr (.inl h))
    · exact .inl (.inr (.inr h))
    · rcases h with h | h
      · exact .inr h
      · cases h
  · rintro ((h | h | h) | h)
    · exact .inl h
    · exact .inr (.inl h)
    · exact .inr (.inr (.inl h))
    · exact .inr (.inr (.inr (.inl h)))
 have hE : headV { w with fs := w.fs ++ [(L.length,none)] } M.newFile lf = headV w M lf := by
  unfold headV
  rw [used_newFile ok]
  rw [chsV_congr (fs := w.fs) (fs' := w.fs ++ [(L.length,none)]) (cs := M.newFile.chs) fun c hc => chgV_app fun f hf => by rw [hn]; exact made_lt ok hc hf]
  rfl
 have hloc : ∀ f,f < M.files.length → locV (w.fs ++ [(L.length,none)]) f = locV w.fs f := fun f hf => locV_app (by omega)
 refine ⟨⟨ok.newFile,⟨lf,by rw [hE,at_app hlt]; exact h1,h2⟩,?_,hch,by simp [MD.newFile,hn],fun f x y hx hy => ?_,?_⟩,?_⟩
 · unfold MapsAt at hm ⊢
   split
   · rename_i hms
     simp only at hms
     rw [hms] at hm
     exact hm
   · rename_i a b hms
     simp only at hms
     rw [hms] at hm
     obtain ⟨⟨c1,l1,e1,n1⟩,c2,l2,e2,n2⟩ := hm
     exact ⟨⟨c1,l1,by rw [at_app (lt_at e1)]; exact e1,n1.congr fun n f hf => hloc f (now_lt ok hf).2⟩,c2,l2,by rw [at_app (lt_at e2)]; exact e2,n2.congr fun n f hf => hloc f (kept_lt ok hf)⟩
 · by_cases hlf : f < w.fs.length
   · simp only [List.getElem?_append_left hlf] at hx
     have hy' : M.files[f]? = some y := by
      have : (M.files ++ [([],0)])[f]? = some y := hy
      rwa [List.getElem?_append_left (by omega)] at this
     obtain ⟨g1,g2⟩ := hfs f x y hx hy'
     refine ⟨by rw [at_app (lt_at g1)]; exact g1,?_⟩
     unfold RowAt at g2 ⊢
     split
     · rename_i ho; rw [ho] at g2; exact g2
     · rename_i ob ho
       rw [ho] at g2
       obtain ⟨cs,k1,k2⟩ := g2
       exact ⟨cs,by rw [at_app (lt_at k1)]; exact k1,k2⟩
   · have hfe : f = w.fs.length := by
      have := (List.getElem?_eq_some_iff.1 hx).1
      simp at this
      omega
     subst hfe
     have hx' : x = (L.length,none) := by simpa using hx.symm
     have hy' : y = ([],0) := by
      have : (M.files ++ [([],0)])[w.fs.length]? = some y := hy
      rw [hn] at this
      simpa using this.symm
     subst hx' hy'
     exact ⟨by rw [at_new rfl]; rfl,rfl⟩
 · rw [mine_eq] at hnd ⊢
   simp only [List.flatMap_append,List.flatMap_cons,List.flatMap_nil,List.append_nil]
   have hfresh : L.length ∉ w.mine := fun hm => by have := hall _ hm; omega
   rw [mine_eq] at hfresh
   rw [← List.append_assoc,← List.cons_append]
   refine List.nodup_append.2 ⟨hnd,by simp [cellsOf],fun a ha b hb e => ?_⟩
   have : b = L.length := by simpa [cellsOf] using hb
   subst e this
   exact hfresh ha
 · refine ((Step.refl w.S w.R L T).app _).less (fun i hi => ?_) fun k hk => .inl hk
   rcases (hS i).1 hi with h | h
   · exact .inl h
   · exact .inr (by omega)
theorem flat_set {fs : List Fl} (hn : (fs.flatMap cellsOf).Nodup) : ∀ {f : Nat} {x y : Fl},fs[f]? = some x → (cellsOf y).Nodup → (∀ i ∈ cellsOf y,i ∈ cellsOf x ∨ i ∉ fs.flatMap cellsOf) → ((fs.set f y).flatMap cellsOf).Nodup ∧ ∀ i ∈ (fs.set f y).flatMap cellsOf,i ∈ cellsOf y ∨ i ∈ fs.flatMap cellsOf := by
 induction fs with
 | nil => intro f x y h; cases h
 | cons z r ih =>
  intro f x y hx hy hi
  rw [List.flatMap_cons] at hn
  obtain ⟨n1,n2,n3⟩ := List.nodup_append.1 hn
  cases f with
  | zero =>
   simp only [List.getElem?_cons_zero,Option.some.injEq] at hx
   subst hx
   simp only [List.set_cons_zero,List.flatMap_cons]
   refine ⟨List.nodup_append.2 ⟨hy,n2,fun a ha b hb e => ?_⟩,fun i hi => (List.mem_append.1 hi).imp id fun h => List.mem_append_right _ h⟩
   subst e
   rcases hi a ha with h | h
   · exact n3 a h a hb rfl
   · exact h (by rw [List.flatMap_cons]; exact List.mem_append_right _ hb)
  | succ f =>
   simp only [List.getElem?_cons_succ] at hx
   simp only [List.set_cons_succ,List.flatMap_cons]
   obtain ⟨g1,g2⟩ := ih n2 hx hy fun i h => (hi i h).imp id fun h hm => h (by rw [List.flatMap_cons]; exact List.mem_append_right _ hm)
   have hxr : ∀ i ∈ cellsOf x,i ∈ r.flatMap cellsOf := fun i h => List.mem_flatMap.2 ⟨x,List.mem_of_getElem? hx,h⟩
   refine ⟨List.nodup_append.2 ⟨n1,g1,fun a ha b hb e => ?_⟩,fun i hi => ?_⟩
   · subst e
     rcases g2 a hb with h | h
     · rcases hi a h with h | h
       · exact n3 a ha a (hxr a h) rfl
       · exact h (by rw [List.flatMap_cons]; exact List.mem_append_left _ ha)
     · exact n3 a ha a h rfl
   · rcases List.mem_append.1 hi with h | h
     · exact .inr (List.mem_append_left _ h)
     · exact (g2 i h).imp id fun h => List.mem_append_right _ h
theorem locV_set {fs : List Fl} {f a : Nat} {ob ob' : Option Nat} (h : fs[f]? = some (a,ob)) (g : Nat) : locV (fs.set f (a,ob')) g = locV fs g := by
 unfold locV
 simp only [List.getD_eq_getElem?_getD]
 by_cases e : f = g
 · subst e
   rw [List.getElem?_set_self (List.getElem?_eq_some_iff.1 h).1,h]
   rfl
 · rw [List.getElem?_set_ne e]
theorem chgV_set {fs : List Fl} {f a : Nat} {ob ob' : Option Nat} (h : fs[f]? = some (a,ob)) (c : Chg) : chgV (fs.set f (a,ob')) c = chgV fs c := by
 unfold chgV madeV
 rw [locV_set h]
theorem DiskAt.turnFile (h : DiskAt u8 tc L T M w) {f a : Nat} {ob ob' : Option Nat} (hfs : w.fs[f]? = some (a,ob)) {x : List UInt8 × Nat} (hx : x.2 ≤ x.1.length) (hob : ob' = ob ∨ ∃ r,ob' = some r ∧ L.length ≤ r) {lf : Int}
 (h1 : L'[w.o]? = some [.int .i64 M.room,.int .i64 ((M.setFile f x).used : Int),mapV w.ms false,mapV w.ms true,chsV w.fs w.tk M.chs,.bool M.down,.bool M.doomed,.int .i64 lf]) (h2 : M.doomed = true → M.down = false → lf = M.left)
 (ha : L'[a]? = some [bytesV u8 ob' x.1,.int .i64 (x.2 : Int)]) (hr : RowAt L' ob' x.1) (hk : ∀ i,i < L.length → i ≠ w.o → i ≠ a → some i ≠ ob → L'[i]? = L[i]?) :
 DiskAt u8 tc L' T (M.setFile f x) { w with fs := w.fs.set f (a,ob') } ∧ ∀ i,({ w with fs := w.fs.set f (a,ob') } : Own).S i → w.S i ∨ L.length ≤ i := by
 have hall := h.lt
 have hone := h.o_ne
 have hmsne := @DiskAt.ms_ne _ _ _ _ _ _ h
 obtain ⟨ok,⟨lf0,g1,g2⟩,hm,hch,hn,hfl,hnd⟩ := h
 have hflt : f < w.fs.length := (List.getElem?_eq_some_iff.1 hfs).1
 have hin : ∀ i ∈ cellsOf (a,ob'),i ∈ cellsOf (a,ob) ∨ L.length ≤ i := fun i hi => by
  rcases hob with rfl | ⟨r,rfl,hrl⟩
  · exact .inl hi
  · simp only [cellsOf,Option.toList_some,List.mem_cons,List.not_mem_nil,or_false] at hi
    rcases hi with rfl | rfl
    · exact .inl (by simp [cellsOf])
    · exact .inr hrl
 have hmem : ∀ i ∈ w.fs.flatMap cellsOf,i < L.length := fun i hi => hall i (by unfold Own.S; rw [mine_eq]; exact List.mem_cons_of_mem _ (List.mem_append_right _ hi))
 rw [mine_eq] at hnd
 obtain ⟨d1,d2⟩ := List.nodup_cons.1 hnd
 obtain ⟨d3,d4,d5⟩ := List.nodup_append.1 d2
 have halt : a < L.length := hmem a (List.mem_flatMap.2 ⟨_,List.mem_of_getElem? hfs,by simp [cellsOf]⟩)
 have hcx : (cellsOf (a,ob)).Nodup := by
  have := d4
  obtain ⟨l1,l2,e⟩ := List.append_of_mem (List.mem_of_getElem? hfs)
  rw [e,List.flatMap_append,List.flatMap_cons] at this
  exact (List.nodup_append.1 (List.nodup_append.1 this).2.1).1
 have hcy : (cellsOf (a,ob')).Nodup := by
  rcases hob with rfl | ⟨r,rfl,hr⟩
  · exact hcx
  · simp [cellsOf]; omega
 obtain ⟨s1,s2⟩ := flat_set d4 hfs hcy fun i hi => (hin i hi).imp id fun hl hm => by have := hmem i hm; omega
 have hS2 : ∀ i ∈ (w.fs.set f (a,ob')).flatMap cellsOf,i ∈ w.fs.flatMap cellsOf ∨ L.length ≤ i := fun i hi => by
  rcases s2 i hi with h | h
  · rcases hin i h with h | h
    · exact .inl (List.mem_flatMap.2 ⟨_,List.mem_of_getElem? hfs,h⟩)
    · exact .inr h
  · exact .inl h
 have hms_lt : ∀ i ∈ (match w.ms with | none => ([] : List Nat) | some (a,b) => [a,b]),i < L.length := fun i hi => hall i (by unfold Own.S; rw [mine_eq]; exact List.mem_cons_of_mem _ (List.mem_append_left _ hi))
 have ho_lt : w.o < L.length := hall _ (mem_o w)
 refine ⟨⟨ok.setFile hx,⟨lf,?_,h2⟩,?_,hch,by simp [MD.setFile,hn],fun g y z hy hz => ?_,?_⟩,fun i hi => ?_⟩
 · rw [h1]
   unfold headV
   rw [chsV_congr (fs := w.fs) (fs' := w.fs.set f (a,ob')) (cs := (M.setFile f x).chs) fun c _ => chgV_set hfs c]
   rfl
 · unfold MapsAt at hm ⊢
   split
   · rename_i hms
     simp only at hms
     rw [hms] at hm
     exact hm
   · rename_i a1 b1 hms
     simp only at hms
     rw [hms] at hm
     obtain ⟨⟨c1,l1,e1,n1⟩,c2,l2,e2,n2⟩ := hm
     obtain ⟨o1,o2,o3⟩ := hone.1 a1 b1 hms
     obtain ⟨p1,p2,p3⟩ := hmsne hms hfs
     have ha1 : some a1 ≠ ob := fun e => (p3 a1 e.symm).1 rfl
     have hb1 : some b1 ≠ ob := fun e => (p3 b1 e.symm).2 rfl
     exact ⟨⟨c1,l1,by rw [hk a1 (lt_at e1) (Ne.symm o1) p1 ha1]; exact e1,n1.congr fun n g _ => locV_set hfs g⟩,c2,l2,by rw [hk b1 (lt_at e2) (Ne.symm o2) p2 hb1]; exact e2,n2.congr fun n g _ => locV_set hfs g⟩
 · by_cases e : f = g
   · subst e
     simp only [List.getElem?_set_self hflt,Option.some.injEq] at hy
     subst hy
     have hz' : z = x := by
      have : (M.files.set f x)[f]? = some z := hz
      rw [List.getElem?_set_self (by omega)] at this
      exact (Option.some.inj this).symm
     subst hz'
     exact ⟨ha,hr⟩
   · simp only [List.getElem?_set_ne e] at hy
     have hz' : M.files[g]? = some z := by
      have : (M.files.set f x)[g]? = some z := hz
      rwa [List.getElem?_set_ne e] at this
     obtain ⟨k1,k2⟩ := hfl g y z hy hz'
     obtain ⟨q1,q2⟩ := hone.2 g y hy
     have hsep : ∀ i ∈ cellsOf y,i ∉ cellsOf (a,ob) := fun i hi hi2 => by
      have hgl : g < w.fs.length := (List.getElem?_eq_some_iff.1 hy).1
      have key : ∀ (l : List Fl),(l.flatMap cellsOf).Nodup → ∀ (p q : Nat) (u v : Fl),l[p]? = some u → l[q]? = some v → p ≠ q → i ∈ cellsOf u → i ∉ cellsOf v := by
       intro l
       induction l with
       | nil => intro _ p q u v hp; cases hp
       | cons z r ih =>
        intro hnn p q u v hp hq hpq hiu hiv
        rw [List.flatMap_cons] at hnn
        obtain ⟨m1,m2,m3⟩ := List.nodup_append.1 hnn
        cases p with
        | zero =>
         cases q with
         | zero => exact hpq rfl
         | succ q =>
          simp only [List.getElem?_cons_zero,Option.some.injEq] at hp
          subst hp
          simp only [List.getElem?_cons_succ] at hq
          exact m3 i hiu i (List.mem_flatMap.2 ⟨v,List.mem_of_getElem? hq,hiv⟩) rfl
        | succ p =>
         cases q with
         | zero =>
          simp only [List.getElem?_cons_zero,Option.some.injEq] at hq
          subst hq
          simp only [List.getElem?_cons_succ] at hp
          exact m3 i hiv i (List.mem_flatMap.2 ⟨u,List.mem_of_getElem? hp,hiu⟩) rfl
         | succ q =>
          simp only [List.getElem?_cons_succ] at hp hq
          exact ih m2 p q u v hp hq (fun e => hpq (by rw [e])) hiu hiv
      exact key w.fs d4 g f y (a,ob) hy hfs (Ne.symm e) hi hi2
     have hy1 : y.1 ∉ cellsOf (a,ob) := hsep _ (by simp [cellsOf])
     have hne : ∀ i,i ∉ cellsOf (a,ob) → i ≠ a ∧ some i ≠ ob := fun i hi => ⟨fun e => hi (by simp [cellsOf,e]),fun e => hi (by simp [cellsOf,← e])⟩
     obtain ⟨t1,t2⟩ := hne _ hy1
     refine ⟨by rw [hk _ (lt_at k1) (Ne.symm q1) t1 t2]; exact k1,?_⟩
     unfold RowAt at k2 ⊢
     split
     · rename_i ho; rw [ho] at k2; exact k2
     · rename_i r ho
       rw [ho] at k2
       obtain ⟨cs,v1,v2⟩ := k2
       obtain ⟨t3,t4⟩ := hne r (hsep r (by simp [cellsOf,ho]))
       exact ⟨cs,by rw [hk _ (lt_at v1) (Ne.symm (q2 r ho)) t3 t4]; exact v1,v2⟩
 · rw [mine_eq]
   refine List.nodup_cons.2 ⟨fun hm => ?_,List.nodup_append.2 ⟨d3,s1,fun i hi j hj e => ?_⟩⟩
   · rcases List.mem_append.1 hm with hm | hm
     · exact d1 (List.mem_append_left _ hm)
     · rcases hS2 _ hm with hm | hm
       · exact d1 (List.mem_append_right _ hm)
       · simp only at hm; omega
   · subst e
     rcases hS2 i hj with hj | hj
     · exact d5 i hi i hj rfl
     · have := hms_lt i hi; omega
 · unfold Own.S at hi ⊢
   rw [mine_eq] at hi ⊢
   rcases List.mem_cons.1 hi with rfl | hi
   · exact .inl (by simp)
   · rcases List.mem_append.1 hi with hi | hi
     · exact .inl (List.mem_cons_of_mem _ (List.mem_append_left _ hi))
     · exact (hS2 i hi).imp (fun h => List.mem_cons_of_mem _ (List.mem_append_right _ h)) id
end Go.Proofs.YthlmfalfnpjndaaGreat.DiskA
