import Derived.Test.YthlmfalfnpjndaaGreatAwX
import Derived.Test.YthlmfalfnpjndaaGreatJourQ
namespace Go.Proofs.YthlmfalfnpjndaaGreat.JourX
open Go Go.Proofs Aw Num DiskM DiskA DiskK DiskC Disk FrameM
open DiskL (Sz sz_new small_crash)
open Place
set_option linter.unusedSimpArgs false
set_option linter.unusedVariables false
def Bd (m : Nat) (M : MD) : Prop := ∀ x ∈ M.files,x.1.length ≤ m
theorem Bd.mono {m m' : Nat} {M : MD} (h : Bd m M) (hm : m ≤ m') : Bd m' M := fun x hx => Nat.le_trans (h x hx) hm
theorem Bd.begin {m : Nat} {M : MD} (h : Bd m M) : Bd m M.begin.1 := by unfold Bd; rw [begin_files]; exact h
theorem Bd.file {m : Nat} {M : MD} (h : Bd m M) (f : Nat) : (M.file f).1.length ≤ m := by
 unfold MD.file
 rw [List.getD_eq_getElem?_getD]
 cases hx : M.files[f]? with
 | none => exact Nat.zero_le _
 | some x => exact h x (List.mem_of_getElem? hx)
theorem Bd.setFile {m : Nat} {M : MD} (h : Bd m M) {f : Nat} {x : List UInt8 × Nat} (hx : x.1.length ≤ m) : Bd m (M.setFile f x) := fun y hy => by
 rcases List.mem_or_eq_of_mem_set hy with hy | rfl
 · exact h y hy
 · exact hx
theorem Bd.onFile {m : Nat} {M : MD} (h : Bd m M) (n : Name) {X : MD → Nat → MD × Nat} (hX : ∀ f,nfind M.now n = some f → Bd m (X M.begin.1 f).1) : Bd m (M.onFile n X).1 := by
 unfold MD.onFile
 split
 · exact h.begin
 · split
   · exact h.begin
   · rename_i f hf
     exact hX f hf
theorem bd_new (room : Int) : Bd 0 (DiskM.new room) := fun x hx => by cases hx
def MK (j m m' : Nat) (g : Do) : Prop := Makes j g ∧ ∀ k M,M.Ok → Sz k M → k + j ≤ 10000 → Bd m M → Bd m' (g.f M).1
theorem MK.mono {j j' m m' m2 : Nat} {g : Do} (h : MK j m m' g) (hj : j ≤ j') (hm : m' ≤ m2) : MK j' m m2 g := ⟨h.1.mono hj,fun k M ok hs hk hb => (h.2 k M ok hs (by omega) hb).mono hm⟩
theorem mk_sync (m : Nat) (n : Name) : MK 1 m m (syncD n) := ⟨makes_sync n,fun k M ok hs hk h => h.onFile n fun f hf => h.begin.setFile (h.begin.file f)⟩
theorem mk_rename (m : Nat) (n t : Name) : MK 1 m m (renameD n t) := ⟨makes_rename n t,fun k M ok hs hk h => h.onFile n fun f hf => by split <;> exact h.begin⟩
theorem mk_remove (m : Nat) (n : Name) : MK 1 m m (removeD n) := ⟨makes_remove n,fun k M ok hs hk h => h.onFile n fun f hf => h.begin⟩
theorem mk_syncNames (m : Nat) : MK 1 m m syncNamesD := ⟨makes_syncNames,fun k M ok hs hk h => by
 show Bd m M.syncNames.1
 unfold MD.syncNames
 split <;> exact h.begin⟩
theorem bd_create {m : Nat} {M : MD} (h : Bd m M) (n : Name) : Bd m (M.create n).1 := by
 unfold MD.create
 split
 · exact h.begin
 · split
   · exact h.begin
   · split
     · exact h.begin
     · intro x hx
       have hx' : x ∈ M.files ++ [([],0)] := hx
       rcases List.mem_append.1 hx' with hx' | hx'
       · exact h x hx'
       · simp at hx'; subst hx'; exact Nat.zero_le _
theorem mk_create (m : Nat) (n : Name) : MK 1 m m (createD n) := ⟨makes_create n,fun k M ok hs hk h => bd_create h n⟩
theorem mk_append (m j : Nat) (n : Name) {b : List UInt8} (hb : b.length ≤ 50 * j) : MK j m (m + b.length) (appendD n b) := ⟨makes_append n hb,fun k M ok hs hk h => (h.mono (Nat.le_add_right _ _)).onFile n fun f hf => by
 split
 · exact (h.mono (Nat.le_add_right _ _)).begin
 · refine (h.mono (Nat.le_add_right _ _)).begin.setFile ?_
   have := h.begin.file f
   simp only [List.length_append]; omega⟩
theorem MK.but {j m m' c : Nat} {g : Do} (h : MK j m m' g) : MK j m m' (butD c g) := ⟨h.1.but,h.2⟩
theorem MK.nil (m : Nat) : MK 0 m m (runD []) := ⟨Makes.nil,fun k M ok hs hk h => h⟩
theorem MK.cons {i j m m1 m2 : Nat} {g : Do} {l : List Do} (h : MK i m m1 g) (hl : MK j m1 m2 (runD l)) (hm : m1 ≤ m2) : MK (i + j) m m2 (runD (g :: l)) := ⟨h.1.cons hl.1,fun k M ok hs hk hb => by
 obtain ⟨a,b,c⟩ := h.1 k M ok hs (by omega)
 have hb1 := h.2 k M ok hs (by omega) hb
 show Bd m2 (runF (g :: l) M).1
 rw [runF_cons]
 unfold runFrom
 split
 · exact hl.2 (k + i) _ b c (by omega) hb1
 · exact hb1.mono hm⟩
def At (n : Name) (s : Nat) (M : MD) : Prop := ∀ f,nfind M.now n = some f → (M.file f).1.length ≤ s
theorem at_create {n : Name} {M : MD} (hc : (M.create n).2 = 0) : At n 0 (M.create n).1 := by
 unfold MD.create at hc ⊢
 split at hc
 · cases hc
 · split at hc
   · cases hc
   · split at hc
     · cases hc
     · rename_i h1 h2 h3
       rw [if_neg h1,if_neg h2,if_neg h3]
       intro f hf
       have e : (({ M.begin.1 with files := M.files ++ [([],0)] } : MD).does ⟨[],n,M.files.length⟩).now = chg M.now ⟨[],n,M.files.length⟩ := by
        show play M.begin.1.kept (M.begin.1.chs ++ [_]) = _
        rw [play_snoc,begin_kept,begin_chs]; rfl
       rw [e] at hf
       have hn : n ≠ [] := fun hn => h2 (fun hr => hr.1 hn)
       have e2 : chg M.now ⟨[],n,M.files.length⟩ = nwith M.now n M.files.length := by
        unfold chg cleft cfile
        simp only [if_neg hn,if_pos]
       rw [e2,nfind_with,if_pos rfl] at hf
       cases hf
       show ((M.files ++ [(([] : List UInt8),0)]).getD M.files.length ([],0)).1.length ≤ 0
       simp [List.getD_eq_getElem?_getD]
theorem at_append {n : Name} {s m : Nat} {M : MD} {b : List UInt8} (ok : M.Ok) (hb : Bd m M) (h : At n s M) (hm : s + b.length ≤ m) : Bd m (M.append n b).1 ∧ At n (s + b.length) (M.append n b).1 := by
 have hbeg : At n (s + b.length) M.begin.1 := fun f hf => by
  rw [begin_now] at hf
  have := h f hf
  unfold MD.file at this ⊢
  rw [begin_files]; omega
 unfold MD.append MD.onFile
 split
 · exact ⟨hb.begin,hbeg⟩
 · split
   · exact ⟨hb.begin,hbeg⟩
   · rename_i f hf
     simp only
     split
     · exact ⟨hb.begin,hbeg⟩
     · have hfl := h f hf
       have e : M.begin.1.file f = M.file f := by unfold MD.file; rw [begin_files]
       have hl : ((M.begin.1.file f).1 ++ b).length ≤ s + b.length := by rw [e,List.length_append]; omega
       refine ⟨hb.begin.setFile (by simp only; omega),fun g hg => ?_⟩
       have hg' : nfind M.begin.1.now n = some g := hg
       rw [begin_now,hf] at hg'
       cases hg'
       show ((M.begin.1.setFile f _).file f).1.length ≤ _
       rw [file_set _ (by rw [begin_files]; exact (now_lt ok hf).2),if_pos rfl]
       exact hl
theorem bd_parts (n : Name) (m : Nat) : ∀ (l : List (List UInt8)) (s k : Nat) (M : MD),(∀ c ∈ l,c.length ≤ 100) → k + 2 * l.length ≤ 10000 → Sz k M → M.Ok → Bd m M → At n s M → s + (l.map List.length).sum ≤ m → Bd m (runF (l.map (appendD n)) M).1
 | [],_,_,M,_,_,_,ok,hb,_,_ => hb
 | c :: l,s,k,M,hc,hk,hs,ok,hb,h,hm => by
  simp only [List.map_cons,List.sum_cons,List.length_cons] at hm hk
  obtain ⟨h1,h2⟩ := at_append (b := c) ok hb h (by omega)
  obtain ⟨_,ok1,hs1⟩ := makes_append n (b := c) (j := 2) (hc c (by simp)) k M ok hs (by omega)
  show Bd m (runF (appendD n c :: l.map (appendD n)) M).1
  rw [runF_cons]
  unfold runFrom
  split
  · exact bd_parts n m l (s + c.length) (k + 2) _ (fun c hc' => hc c (List.mem_cons_of_mem _ hc')) (by omega) hs1 ok1 h1 h2 (by omega)
  · exact h1
theorem chunks_sum (b : List UInt8) : ((chunks b).map List.length).sum = b.length := by
 have h : ∀ n,((((List.range n).map fun i => (b.drop (64 * i)).take 64)).map List.length).sum = min (64 * n) b.length := by
  intro n
  induction n with
  | zero => simp
  | succ n ih =>
   rw [List.range_succ,List.map_append,List.map_append,List.sum_append,ih]
   simp only [List.map_cons,List.map_nil,List.sum_cons,List.sum_nil,List.length_take,List.length_drop]
   omega
 unfold chunks
 rw [h]
 omega
theorem chunks_le {b c : List UInt8} (h : c ∈ chunks b) : c.length ≤ 100 := by
 obtain ⟨i,hi,rfl⟩ := List.mem_map.1 h
 rw [List.length_take]; omega
theorem mk_made {m j : Nat} {b : List UInt8} {r : List Do} (hb : b.length ≤ m) (hr : MK j m m (runD r)) : MK (1 + (2 * (chunks b).length + j)) m m (runD (createD onTheWay :: partsD b :: r)) :=
 ⟨(makes_create _).cons (Makes.cons (makes_list onTheWay (chunks b) fun c hc => chunks_le hc) hr.1), fun k M ok hs hk h => by
   obtain ⟨_,ok1,hs1⟩ := makes_create onTheWay k M ok hs (by omega)
   have h1 := bd_create h onTheWay
   show Bd m (runF (createD onTheWay :: partsD b :: r) M).1
   rw [runF_cons]
   unfold runFrom
   split
   · rename_i hc
     have h2 := at_create hc
     rw [runF_cons]
     obtain ⟨_,ok3,hs3⟩ := makes_list onTheWay (chunks b) (fun c hc => chunks_le hc) (k + 1) _ ok1 hs1 (by omega)
     have h3 := bd_parts onTheWay m (chunks b) 0 (k + 1) _ (fun c hc => chunks_le hc) (by omega) hs1 ok1 h1 h2 (by rw [chunks_sum]; omega)
     unfold runFrom
     split
     · exact hr.2 (k + 1 + 2 * (chunks b).length) _ ok3 hs3 (by omega) h3
     · exact h3
   · exact h1⟩
theorem mk_put (n : Name) {m c : Nat} {b : List UInt8} (hb : b.length ≤ m) (hc : b.length ≤ 64 * c) : MK (2 * c + 6) m m (putAll n b) := by
 have h : MK (1 + (1 + (2 * (chunks b).length + (1 + (1 + (1 + 0)))))) m m (putD n b) :=
  (mk_remove m _).but.cons (mk_made hb ((mk_sync m _).cons ((mk_rename m _ _).cons ((mk_syncNames m).cons (MK.nil m) (Nat.le_refl _)) (Nat.le_refl _)) (Nat.le_refl _))) (Nat.le_refl _)
 have hl := chunks_len b
 have h' := h.mono (show _ ≤ 2 * c + 6 by omega) (Nat.le_refl m)
 refine ⟨fun k M ok hs hk => ?_,fun k M ok hs hk hB => ?_⟩
 · obtain ⟨a,c1,d⟩ := h'.1 k M ok hs hk
   refine ⟨fun _ => a,?_⟩
   show (if growsOk n then (putD n b).f M else (M,1)).1.Ok ∧ Sz (k + (2 * c + 6)) (if growsOk n then (putD n b).f M else (M,1)).1
   split
   · exact ⟨c1,d⟩
   · exact ⟨ok,hs.mono (by omega)⟩
 · show Bd m (if growsOk n then (putD n b).f M else (M,1)).1
   split
   · exact h'.2 k M ok hs hk hB
   · exact hB
theorem mk_grow (n : Name) {m : Nat} {b : List UInt8} (hb : b.length ≤ 108) : MK 16 m (m + 108) (growAll n b) := by
 refine ⟨makes_grow n (by omega),fun k M ok hs hk hB => ?_⟩
 have h : MK ((1 + (1 + 0)) + (6 + (1 + 0))) m (m + b.length) (growD n b) :=
  MK.cons (MK.but ((mk_create m n).cons ((mk_syncNames m).cons (MK.nil m) (Nat.le_refl _)) (Nat.le_refl _))) ((mk_append m 6 n (by omega)).cons ((mk_sync _ n).cons (MK.nil _) (Nat.le_refl _)) (Nat.le_refl _)) (Nat.le_add_right _ _)
 show Bd (m + 108) (if growsOk n then (growD n b).f M else (M,1)).1
 split
 · exact (h.2 k M ok hs (by omega) hB).mono (by omega)
 · exact hB.mono (by omega)
theorem bd_crash {m : Nat} {M : MD} (h : Bd m M) (w : Wreck) : Bd m (M.crash w) := fun x hx => by
 have hx' : x ∈ (M.at w).zipIdx.map fun e => crashF w e.2 (M.file e.1.2) := hx
 obtain ⟨e,_,rfl⟩ := List.mem_map.1 hx'
 have := h.file e.1.2
 unfold crashF
 simp only [List.length_take]
 omega
theorem mk_crash (m : Nat) {w : Wreck} (hw : w.bytes.length ≤ 50) : MK 16 m m (crashD w) := ⟨makes_crash hw,fun k M ok hs hk h => bd_crash h w⟩
theorem mk_doom (m : Nat) {n : Int} (hn : n ≤ 9223372036854775807) : MK 16 m m (doomD n) := ⟨makes_doom hn,fun k M ok hs hk h => by
 show Bd m (M.doom n).1
 unfold MD.doom
 split <;> exact h⟩
theorem readB_le {m : Nat} {M : MD} (h : Bd m M) (n : Name) : (M.readB n).length ≤ m := by
 unfold MD.readB
 split
 · exact Nat.zero_le _
 · split
   · exact Nat.zero_le _
   · exact h.file _
theorem mk_open {m c : Nat} (hm : m ≤ 64 * c) (hm2 : m ≤ 1000000) : ∀ k M,M.Ok → Sz k M → k + (2 * c + 6) ≤ 10000 → Bd m M → openD.pre M ∧ (openD.f M).1.Ok ∧ Sz (k + (2 * c + 6)) (openD.f M).1 ∧ Bd m (openD.f M).1 := fun k M ok hs hk hB => by
 have hr := readB_le hB jn
 have ok1 : (M.read jn).1.Ok := by rw [read_begin]; exact ok.begin
 have hs1 : Sz k (M.read jn).1 := by rw [read_begin]; exact hs.begin
 have hB1 : Bd m (M.read jn).1 := by rw [read_begin]; exact hB.begin
 have hput : ∀ b : List UInt8,b.length ≤ (M.readB jn).length → (putAll jn b).pre (M.read jn).1 ∧ ((putAll jn b).f (M.read jn).1).1.Ok ∧ Sz (k + (2 * c + 6)) ((putAll jn b).f (M.read jn).1).1 ∧ Bd m ((putAll jn b).f (M.read jn).1).1 := fun b hb => by
  have h := mk_put jn (m := m) (c := c) (b := b) (by omega) (by omega)
  obtain ⟨q1,q2,q3⟩ := h.1 k _ ok1 hs1 hk
  exact ⟨q1,q2,q3,h.2 k _ ok1 hs1 hk hB1⟩
 refine ⟨⟨hs.small (by omega),by omega,fun b hb _ => (hput b hb).1⟩,?_⟩
 have hp := (hput ((M.readB jn).take (allF (M.readB jn)).2) (by rw [List.length_take]; omega)).2
 have h0 : (M.read jn).1.Ok ∧ Sz (k + (2 * c + 6)) (M.read jn).1 ∧ Bd m (M.read jn).1 := ⟨ok1,hs1.mono (by omega),hB1⟩
 show (openF M).1.Ok ∧ Sz (k + (2 * c + 6)) (openF M).1 ∧ Bd m (openF M).1
 unfold openF
 repeat' split
 all_goals first | exact h0 | exact hp
theorem act_keeps {a : Act} (ha : a.small) (hn : a.n ≤ 9223372036854775807) {i : Nat} (hi : i ≤ 60) {M : MD} (ok : M.Ok) (hs : Sz (2 * (i * i) + 16 * i) M) (hB : Bd (108 * i) M) :
 (act a).pre M ∧ ((act a).f M).1.Ok ∧ Sz (2 * ((i + 1) * (i + 1)) + 16 * (i + 1)) ((act a).f M).1 ∧ Bd (108 * (i + 1)) ((act a).f M).1 := by
 have e : 2 * ((i + 1) * (i + 1)) + 16 * (i + 1) = (2 * (i * i) + 16 * i) + (4 * i + 18) := by
  have : (i + 1) * (i + 1) = i * i + 2 * i + 1 := by rw [Nat.add_mul,Nat.mul_add]; omega
  omega
 have hii : i * i ≤ 60 * 60 := Nat.mul_le_mul hi hi
 have fin : ∀ {g : Do},MK 16 (108 * i) (108 * i + 108) g → g.pre M ∧ (g.f M).1.Ok ∧ Sz (2 * ((i + 1) * (i + 1)) + 16 * (i + 1)) (g.f M).1 ∧ Bd (108 * (i + 1)) (g.f M).1 := fun {g} h => by
  obtain ⟨q1,q2,q3⟩ := h.1 _ M ok hs (by omega)
  exact ⟨q1,q2,q3.mono (by omega),(h.2 _ M ok hs (by omega) hB).mono (by omega)⟩
 unfold act
 split
 · obtain ⟨q1,q2,q3,q4⟩ := mk_open (m := 108 * i) (c := 2 * i + 1) (by omega) (by omega) _ M ok hs (by omega) hB
   exact ⟨q1,q2,q3.mono (by omega),q4.mono (by omega)⟩
 · exact fin ((mk_put jn (m := 108 * i) (c := 0) (b := []) (Nat.zero_le _) (by simp)).mono (by omega) (by omega))
 · exact fin ((mk_crash _ ha.2).mono (Nat.le_refl _) (by omega))
 · exact fin ((mk_doom _ hn).mono (Nat.le_refl _) (by omega))
 · exact fin ((mk_append _ 2 jn (by have := ha.1; omega)).mono (by omega) (by have := ha.1; omega))
 · have hx : ¬ 4096 < a.b.length := by have := ha.1; omega
   have h := mk_grow jn (m := 108 * i) (b := frameF a.b) (by rw [frameF_length]; have := ha.1; omega)
   have ef : ∀ M,(addD a.b).f M = (growAll jn (frameF a.b)).f M := fun M => if_neg hx
   refine fin ⟨fun k M ok hs hk => ?_,fun k M ok hs hk hb => ?_⟩
   · rw [ef]
     obtain ⟨q1,q2,q3⟩ := h.1 k M ok hs hk
     exact ⟨fun _ => q1,q2,q3⟩
   · rw [ef]
     exact h.2 k M ok hs hk hb
theorem sz_crash {k : Nat} {M : MD} (h : Sz k M) (ok : M.Ok) (w : Wreck) : Sz k (M.crash w) := by
 obtain ⟨a1,a2,a3,a4,a5⟩ := at_ok ok w
 have hcu := crash_used M w
 have hle := crs_sum_le ok w (M.at w) 0
 have hsu := h.used
 refine ⟨Nat.zero_le _,?_,by omega,bd_crash (m := 50 * k) h.files w⟩
 rw [crash_eq]
 show (crs M w (M.at w) 0).length ≤ _
 rw [crs_len]
 have q1 := nodup_len (r := List.range M.files.length) a3 fun f hf => by
  obtain ⟨e,he,rfl⟩ := List.mem_map.1 hf
  exact List.mem_range.2 (a4 e he)
 rw [List.length_map,List.length_range] at q1
 have := h.nf; omega
theorem act_Ok {a : Act} (h : a.small) (hn : a.n ≤ 9223372036854775807) : a.Ok := ⟨by have := h.1; omega,hn,by have := h.2; omega⟩
end Go.Proofs.YthlmfalfnpjndaaGreat.JourX
