import Derived.Test.YthlmfalfnpjndaaGreatAwX
import Derived.Test.YthlmfalfnpjndaaGreatRef3
namespace Go.Proofs.YthlmfalfnpjndaaGreat.Ref
open Go Go.Proofs Aw Num DiskM DiskA DiskC Disk
set_option linter.unusedSimpArgs false
set_option linter.unusedVariables false
def opRP (op : List V → Option (MD → MD × V)) : PM := fun args L T K => ∃ M o fo rest g,args = .box o 0 :: rest ∧ op rest = some g ∧ RefAt L M o fo ∧ Small M ∧
 ∀ L' T' fo',RefAt L' (g M).1 o fo' → Step (rS o fo) noS L T (rS o fo') noS L' T' → K (g M).2 L' T'
def R7 : Fns := { fn := fun f => if f = 90 then some rightM else R6.fn f,mu := fun d => .no,hp := fun f => if f = 37 then some downRP else if f = 89 then some doesRP else if f = 38 then some findP else if f = 41 then some usedRP else R6.hp f,ord := fun i => none,it := fun f => R6.it f }
theorem R7_fn (f : FuncId) : R7.fn f = (if f = 90 then some rightM else R6.fn f) := rfl
theorem R7_mu (d : Tmp) : R7.mu d = (.no) := rfl
theorem R7_hp (f : FuncId) : R7.hp f = (if f = 37 then some downRP else if f = 89 then some doesRP else if f = 38 then some findP else if f = 41 then some usedRP else R6.hp f) := rfl
theorem R7_ord (i : Nat) : R7.ord i = (none) := rfl
theorem R7_it (f : FuncId) : R7.it f = (R6.it f) := rfl
theorem R7_hy (b : Nat) : R7.hy b = none := rfl
theorem R7ok : FnsOk Tryz.prog R7 := FnsOk.same (FnsOk.consP (FnsOk.consP (FnsOk.consP (FnsOk.consP (FnsOk.cons R6ok _ _ rightR_ok Tryz.func90 (by decide) (fun h => by cases h)) _ _ usedR_ok Tryz.func41 (by decide) (fun h => by cases h)) _ _ find_ok Tryz.func38 (by decide) (fun h => by cases h)) _ _ doesR_ok Tryz.func89 (by decide) (fun h => by cases h)) _ _ downR_ok Tryz.func37 (by decide) (fun h => by cases h)) rfl rfl
attribute [bitvec_to_nat] R7_fn R7_mu R7_hp R7_ord R7_it R7_hy
theorem fnd_none {m : Names} {n : Name} (h : nfind m n = none) : fnd m n = -1 := by unfold fnd; rw [h]
theorem fnd_some {m : Names} {n : Name} {f : Nat} (h : nfind m n = some f) : fnd m n = (f : Int) := by unfold fnd; rw [h]
theorem dlt (f : Nat) : decide ((f : Int) < 0) = false := decide_eq_false (by omega)
theorem now_small {M : MD} (ok : M.Ok) (h : Small M) : M.now.length ≤ 1099511627776 := Nat.le_trans (now_len ok) h.nf
theorem RefAt.did {L L' : LL} {T T' : TT} {M : MD} {o fo : Nat} (h : RefAt L M o fo) {c : Chg} {lf : Int} (hl : M.doomed = true → M.down = false → lf = M.left) (ok : (M.does c).Ok)
 (hh : L'[o]? = some (hdV fo M.files.length (chg M.now c) M.kept (M.chs ++ [c]) M.room M.down M.doomed lf)) (g : Step (fun i => i = o) noS L T (fun i => i = o) noS L' T') : RefAt L' (M.does c) o fo := by
 refine ⟨ok,⟨lf,?_,hl⟩,?_,h.ne⟩
 · rw [hh,does_now]; rfl
 · rw [g.keep fo h.lt.2 (fun e => h.ne e.symm)]
   exact h.row
theorem step_o {L L' : LL} {T T' : TT} {o fo : Nat} (g : Step (fun i => i = o) noS L T (fun i => i = o) noS L' T') : Step (rS o fo) noS L T (rS o fo) noS L' T' :=
 ⟨g.len,fun i hi hs => g.keep i hi (fun e => hs (.inl e)),fun i hs => .inl hs,g.tlen,g.tkeep,fun k h => h.elim⟩
theorem renameR_ok : PSound Tryz.prog 68 (opRP renameF) := by
 refine psound tysOk R7ok mix Tryz.func68 rfl ?_
 intro args L T K hm
 obtain ⟨M,o,fo,rest,g,rfl,hg,hd,hsm,hK⟩ := hm
 obtain ⟨n,t,rfl,rfl⟩ : ∃ n t,rest = [.str n,.str t] ∧ g = fun M => ((M.rename n t).1,codeV (M.rename n t).2) := by
  unfold renameF at hg; split at hg <;> cases hg; exact ⟨_,_,rfl,rfl⟩
 simp only at hK
 simp (maxSteps:=2000000) only[bitvec_to_nat,seval,↓tcd,Tryz.f68]
 refine ⟨M,o,fo,rfl,hd,fun L1 hd1 hst => ?_⟩
 cases hb : M.begin.2 with
 | false =>
  have e : M.rename n t = (M.begin.1,40) := onFile_no hb
  have := hK L1 T fo (by rw [e]; exact hd1) hst
  rw [e] at this
  simp (maxSteps:=2000000) only[bitvec_to_nat,seval,↓tcd]
  exact ret_of hst this
 | true =>
  obtain ⟨lf,h1,h2⟩ := hd1.head
  have hlt := lt_at h1
  simp (maxSteps:=2000000) only[bitvec_to_nat,seval,↓tcd,h1,hlt]
  refine ⟨M.begin.1.now,n,rfl,by have := now_small hd.ok hsm; rw [begin_now]; omega,?_⟩
  rw [begin_now]
  cases hf : nfind M.now n with
  | none =>
   have e : M.rename n t = (M.begin.1,2) := onFile_none hb hf
   have := hK L1 T fo (by rw [e]; exact hd1) hst
   rw [e] at this
   rw [fnd_none hf]
   simp (maxSteps:=2000000) only[bitvec_to_nat,seval,↓tcd]
   exact ret_of hst this
  | some f =>
   have e0 : M.rename n t = if right t then (M.begin.1.does ⟨n,t,0⟩,0) else (M.begin.1,1) := onFile_some hb hf
   rw [fnd_some hf]
   by_cases hr : right t
   rotate_left
   · have e : M.rename n t = (M.begin.1,1) := by rw [e0,if_neg hr]
     have := hK L1 T fo (by rw [e]; exact hd1) hst
     rw [e] at this
     have hrd : decide (right t) = false := decide_eq_false hr
     simp (maxSteps:=2000000) only[bitvec_to_nat,seval,↓tcd,rightM,hrd,dlt]
     exact ret_of hst this
   · have e : M.rename n t = (M.begin.1.does ⟨n,t,0⟩,0) := by rw [e0,if_pos hr]
     have hrd : decide (right t) = true := decide_eq_true hr
     have hn0 := now_ne hd.ok hf
     have hmd : made ⟨n,t,0⟩ = none := by simp [made,hn0]
     have hc : CanDo M.begin.1.now ⟨n,t,0⟩ := .inr ⟨hn0,by rw [begin_now]; show (nfind M.now n).isSome = true; rw [hf]; rfl,.inr hr⟩
     simp (maxSteps:=2000000) only[bitvec_to_nat,seval,↓tcd,rightM,hrd,dlt]
     refine ⟨o,fo,M.begin.1.files.length,M.begin.1.now,M.begin.1.kept,M.begin.1.chs,M.begin.1.room,M.begin.1.down,M.begin.1.doomed,lf,⟨n,t,0⟩,rfl,h1,hc,by rw [begin_now]; exact now_small hd.ok hsm,by rw [begin_chs]; exact hsm.chs,fun L2 T2 hh hst2 => ?_⟩
     have hd2 := hd1.did h2 (hd1.ok.does hc (by rw [hmd]; intro f h; cases h)) hh hst2
     have hs2 := hst.trans (step_o (fo := fo) hst2)
     have := hK L2 T2 fo (by rw [e]; exact hd2) hs2
     rw [e] at this
     simp (maxSteps:=2000000) only[bitvec_to_nat,seval,↓tcd]
     exact ret_of hs2 this
theorem removeR_ok : PSound Tryz.prog 65 (opRP removeF) := by
 refine psound tysOk R7ok mix Tryz.func65 rfl ?_
 intro args L T K hm
 obtain ⟨M,o,fo,rest,g,rfl,hg,hd,hsm,hK⟩ := hm
 obtain ⟨n,rfl,rfl⟩ : ∃ n,rest = [.str n] ∧ g = fun M => ((M.remove n).1,codeV (M.remove n).2) := by
  unfold removeF at hg; split at hg <;> cases hg; exact ⟨_,rfl,rfl⟩
 simp only at hK
 simp (maxSteps:=2000000) only[bitvec_to_nat,seval,↓tcd,Tryz.f65]
 refine ⟨M,o,fo,rfl,hd,fun L1 hd1 hst => ?_⟩
 cases hb : M.begin.2 with
 | false =>
  have e : M.remove n = (M.begin.1,40) := onFile_no hb
  have := hK L1 T fo (by rw [e]; exact hd1) hst
  rw [e] at this
  simp (maxSteps:=2000000) only[bitvec_to_nat,seval,↓tcd]
  exact ret_of hst this
 | true =>
  obtain ⟨lf,h1,h2⟩ := hd1.head
  have hlt := lt_at h1
  simp (maxSteps:=2000000) only[bitvec_to_nat,seval,↓tcd,h1,hlt]
  refine ⟨M.begin.1.now,n,rfl,by have := now_small hd.ok hsm; rw [begin_now]; omega,?_⟩
  rw [begin_now]
  cases hf : nfind M.now n with
  | none =>
   have e : M.remove n = (M.begin.1,2) := onFile_none hb hf
   have := hK L1 T fo (by rw [e]; exact hd1) hst
   rw [e] at this
   rw [fnd_none hf]
   simp (maxSteps:=2000000) only[bitvec_to_nat,seval,↓tcd]
   exact ret_of hst this
  | some f =>
   have e : M.remove n = (M.begin.1.does ⟨n,[],0⟩,0) := onFile_some hb hf
   rw [fnd_some hf]
   have hn0 := now_ne hd.ok hf
   have hmd : made ⟨n,[],0⟩ = none := by simp [made,hn0]
   have hc : CanDo M.begin.1.now ⟨n,[],0⟩ := .inr ⟨hn0,by rw [begin_now]; show (nfind M.now n).isSome = true; rw [hf]; rfl,.inl rfl⟩
   simp (maxSteps:=2000000) only[bitvec_to_nat,seval,↓tcd,dlt]
   refine ⟨o,fo,M.begin.1.files.length,M.begin.1.now,M.begin.1.kept,M.begin.1.chs,M.begin.1.room,M.begin.1.down,M.begin.1.doomed,lf,⟨n,[],0⟩,rfl,h1,hc,by rw [begin_now]; exact now_small hd.ok hsm,by rw [begin_chs]; exact hsm.chs,fun L2 T2 hh hst2 => ?_⟩
   have hd2 := hd1.did h2 (hd1.ok.does hc (by rw [hmd]; intro f h; cases h)) hh hst2
   have hs2 := hst.trans (step_o (fo := fo) hst2)
   have := hK L2 T2 fo (by rw [e]; exact hd2) hs2
   rw [e] at this
   simp (maxSteps:=2000000) only[bitvec_to_nat,seval,↓tcd]
   exact ret_of hs2 this
theorem doomR_ok : PSound Tryz.prog 20 (opRP doomF) := by
 refine psound tysOk R7ok mix Tryz.func20 rfl ?_
 intro args L T K hm
 obtain ⟨M,o,fo,rest,g,rfl,hg,hd,hsm,hK⟩ := hm
 obtain ⟨n,rfl,hn,rfl⟩ : ∃ n,rest = [.int .i64 n] ∧ n ≤ 9223372036854775807 ∧ g = fun M => ((M.doom n).1,codeV (M.doom n).2) := by
  unfold doomF at hg; split at hg <;> (try split at hg) <;> cases hg; exact ⟨_,rfl,by assumption,rfl⟩
 simp only at hK
 obtain ⟨lf,h1,h2⟩ := hd.head
 have hlt := lt_at h1
 simp (maxSteps:=2000000) only[bitvec_to_nat,seval,↓tcd,Tryz.f20,h1,hlt]
 refine awpIf_intro (fun h => ?_) (fun h => ?_) <;> simp only [decide_eq_true_eq,decide_eq_false_iff_not] at h
 · have e : M.doom n = (M,1) := by unfold MD.doom; rw [if_pos h]
   have := hK L T fo (by rw [e]; exact hd) (Step.refl _ _ _ _)
   rw [e] at this
   exact ret_of (Step.refl noS noS L T) this
 · have e : M.doom n = ({ M with doomed := true,left := n.toNat },0) := by unfold MD.doom; rw [if_neg h]
   have hok : ({ M with doomed := true,left := n.toNat } : MD).Ok := ⟨hd.ok.rise,hd.ok.can,hd.ok.once,hd.ok.lt,hd.ok.right,hd.ok.cut,hd.ok.room,by show ((n.toNat : Nat) : Int) ≤ _; omega⟩
   have hfin := hd.turn (M' := { M with doomed := true,left := n.toNat }) hok rfl (cs := [.vrow 76 2 fo M.files.length,.list 2 (M.now.map nameV) none,.list 2 (M.kept.map nameV) none,.list 3 (M.chs.map Ref.chgV) none,.int .i64 M.room,.bool M.down,.bool true,.int .i64 n]) (lf := n) rfl (fun _ _ => by show n = ((n.toNat : Nat) : Int); omega)
   have hs := (Step.refl (rS o fo) noS L T).set (o := o) (.inl (.inl rfl)) [.vrow 76 2 fo M.files.length,.list 2 (M.now.map nameV) none,.list 2 (M.kept.map nameV) none,.list 3 (M.chs.map Ref.chgV) none,.int .i64 M.room,.bool M.down,.bool true,.int .i64 n]
   have := hK _ T fo (by rw [e]; exact hfin) hs
   rw [e] at this
   exact ret_of hs this
theorem syncNamesR_ok : PSound Tryz.prog 69 (opRP syncNamesF) := by
 refine psound tysOk R7ok mix Tryz.func69 rfl ?_
 intro args L T K hm
 obtain ⟨M,o,fo,rest,g,rfl,hg,hd,hsm,hK⟩ := hm
 obtain ⟨rfl,rfl⟩ : rest = [] ∧ g = fun M => ((M.syncNames).1,codeV (M.syncNames).2) := by
  unfold syncNamesF at hg; split at hg <;> cases hg; exact ⟨rfl,rfl⟩
 simp only at hK
 simp (maxSteps:=2000000) only[bitvec_to_nat,seval,↓tcd,Tryz.f69]
 refine ⟨M,o,fo,rfl,hd,fun L1 hd1 hst => ?_⟩
 cases hb : M.begin.2 with
 | false =>
  have e : M.syncNames = (M.begin.1,40) := by simp [MD.syncNames,hb]
  have := hK L1 T fo (by rw [e]; exact hd1) hst
  rw [e] at this
  simp (maxSteps:=2000000) only[bitvec_to_nat,seval,↓tcd]
  exact ret_of hst this
 | true =>
  have e : M.syncNames = ({ M.begin.1 with kept := M.now,chs := [] },0) := by simp [MD.syncNames,hb]
  obtain ⟨lf,h1,h2⟩ := hd1.head
  have hlt := lt_at h1
  have hnl := now_small hd.ok hsm
  simp (maxSteps:=2000000) only[bitvec_to_nat,seval,↓tcd,h1,hlt,List.length_map]
  have hs0 := hst.tapp [(M.begin.1.now.length,78)]
  have hfin := hd1.turn (M' := { M.begin.1 with kept := M.begin.1.now,chs := [] }) hd1.ok.keptNow rfl (cs := [.vrow 76 2 fo M.begin.1.files.length,.list 2 (M.begin.1.now.map nameV) none,.list 2 (M.begin.1.now.map nameV) none,.list 3 [] none,.int .i64 M.begin.1.room,.bool M.begin.1.down,.bool M.begin.1.doomed,.int .i64 lf]) (lf := lf) rfl h2
  have hs := hs0.set (o := o) (.inl (.inl rfl)) [.vrow 76 2 fo M.begin.1.files.length,.list 2 (M.begin.1.now.map nameV) none,.list 2 (M.begin.1.now.map nameV) none,.list 3 [] none,.int .i64 M.begin.1.room,.bool M.begin.1.down,.bool M.begin.1.doomed,.int .i64 lf]
  have hs' := hs0.set (o := o) (.inl (.inl rfl)) [.vrow 76 2 fo M.begin.1.files.length,.list 2 (M.begin.1.now.map nameV) none,.list 2 (M.begin.1.now.map nameV) (some T.length),.nils,.int .i64 M.begin.1.room,.bool M.begin.1.down,.bool M.begin.1.doomed,.int .i64 lf]
  refine ⟨by rw [begin_now]; unfold maxBytes; omega,ret_row hs' (o := o) (at_set hlt _) (cs' := [.vrow 76 2 fo M.begin.1.files.length,.list 2 (M.begin.1.now.map nameV) none,.list 2 (M.begin.1.now.map nameV) none,.list 3 [] none,.int .i64 M.begin.1.room,.bool M.begin.1.down,.bool M.begin.1.doomed,.int .i64 lf]) ⟨rfl,⟨rfl,rfl⟩,⟨rfl,rfl⟩,⟨rfl,rfl⟩,rfl,rfl,rfl,rfl,trivial⟩ ?_⟩
  rw [List.set_set]
  have e' : M.syncNames = ({ M.begin.1 with kept := M.begin.1.now,chs := [] },0) := by rw [e,begin_now]
  have := hK _ _ fo (by rw [e']; exact hfin) hs
  rw [e'] at this
  exact this
theorem fileCs_set : ∀ {files : List (List UInt8 × Nat)} {i : Nat} (x : List UInt8 × Nat),i < files.length → fileCs (files.set i x) = (fileCs files).take (i * 2) ++ [.bytes x.1 none,.int .i64 (x.2 : Int)] ++ (fileCs files).drop (i * 2 + 2)
 | [],i,x,h => by simp at h
 | y :: r,0,x,h => rfl
 | y :: r,i + 1,x,h => by
  have ih := fileCs_set (files := r) x (by simpa using h)
  have e : ∀ z (r : List (List UInt8 × Nat)),fileCs (z :: r) = .bytes z.1 none :: .int .i64 (z.2 : Int) :: fileCs r := fun _ _ => rfl
  rw [List.set_cons_succ,e,e,ih,show (i + 1) * 2 = i * 2 + 1 + 1 by omega,show i * 2 + 1 + 1 + 2 = (i * 2 + 2) + 1 + 1 by omega]
  simp
theorem row_put {cs : List V} {files : List (List UInt8 × Nat)} (h : cs.take (files.length * 2) = fileCs files) {i : Nat} (hi : i < files.length) (x : List UInt8 × Nat) :
 (cs.take (i * 2) ++ [V.bytes x.1 none,.int .i64 (x.2 : Int)] ++ cs.drop (i * 2 + 2)).take (files.length * 2) = fileCs (files.set i x) := by
 rw [fileCs_set x hi,← h]
 have hl : files.length * 2 ≤ cs.length := by
  have := congrArg List.length h
  rw [List.length_take,fileCs_len] at this
  omega
 rw [List.take_take,Nat.min_eq_left (by omega),List.take_append,List.take_of_length_le (by simp; omega)]
 congr 1
 rw [List.drop_take]
 congr 1
 simp
 omega
theorem row_two {L : LL} {M : MD} {o fo : Nat} (h : RefAt L M o fo) {cs : List V} (hc : L[fo]? = some cs) {i : Nat} (hi : i < M.files.length) : (cs.drop (i * 2)).take 2 = [.bytes (M.file i).1 none,.int .i64 ((M.file i).2 : Int)] := by
 obtain ⟨cs',r1,r2,r3⟩ := row_get h
 rw [hc] at r1
 cases r1
 have h1 := r3 i hi .any
 have hl1 : i * 2 < cs.length := by omega
 have hl2 : i * 2 + 1 < cs.length := by omega
 rw [List.getD_eq_getElem?_getD,List.getD_eq_getElem?_getD,List.getElem?_eq_getElem hl1,List.getElem?_eq_getElem hl2] at h1
 simp only [Option.getD_some] at h1
 rw [List.drop_eq_getElem_cons hl1,List.drop_eq_getElem_cons hl2,h1.1,h1.2]
 rfl
theorem RefAt.setFile {L : LL} {M : MD} {o fo : Nat} (h : RefAt L M o fo) {i : Nat} (hi : i < M.files.length) {x : List UInt8 × Nat} (ok : (M.setFile i x).Ok) {cs : List V} (hc : L[fo]? = some cs) {ds : List V} (hds : ds.take (M.files.length * 2) = fileCs (M.files.set i x)) (hd0 : ds ≠ []) : RefAt (L.set fo ds) (M.setFile i x) o fo := by
 obtain ⟨lf,h1,h2⟩ := h.head
 refine ⟨ok,⟨lf,?_,h2⟩,⟨ds,at_set (lt_at hc) _,hd0,?_⟩,h.ne⟩
 · rw [at_other (fun e => h.ne e.symm),h1]
   have hl : (M.setFile i x).files.length = M.files.length := by unfold MD.setFile; simp
   rw [hl]
   rfl
 · have hl : (M.setFile i x).files.length = M.files.length := by unfold MD.setFile; simp
   rw [hl]
   exact hds
def R8 : Fns := { fn := fun f => R7.fn f,mu := fun d => .no,hp := fun f => R7.hp f,ord := fun i => if i = 6 then some [(0,0),(1,0),(2,0),(4,0),(5,0),(6,0),(7,0),(9,0),(3,2),(8,2),(10,0),(11,0),(12,2),(13,0),(14,0),(15,0),(16,1)] else none,it := fun f => R7.it f }
theorem R8_fn (f : FuncId) : R8.fn f = (R7.fn f) := rfl
theorem R8_mu (d : Tmp) : R8.mu d = (.no) := rfl
theorem R8_hp (f : FuncId) : R8.hp f = (R7.hp f) := rfl
theorem R8_ord (i : Nat) : R8.ord i = (if i = 6 then some [(0,0),(1,0),(2,0),(4,0),(5,0),(6,0),(7,0),(9,0),(3,2),(8,2),(10,0),(11,0),(12,2),(13,0),(14,0),(15,0),(16,1)] else none) := rfl
theorem R8_it (f : FuncId) : R8.it f = (R7.it f) := rfl
theorem R8_hy (b : Nat) : R8.hy b = none := rfl
theorem R8ok : FnsOk Tryz.prog R8 := FnsOk.same R7ok rfl rfl
attribute [bitvec_to_nat] R8_fn R8_mu R8_hp R8_ord R8_it R8_hy
theorem syncR_ok : PSound Tryz.prog 67 (opRP syncF) := by
 refine psound tysOk R8ok mix Tryz.func67 rfl ?_
 intro args L T K hm
 obtain ⟨M,o,fo,rest,g,rfl,hg,hd,hsm,hK⟩ := hm
 obtain ⟨n,rfl,rfl⟩ : ∃ n,rest = [.str n] ∧ g = fun M => ((M.sync n).1,codeV (M.sync n).2) := by
  unfold syncF at hg; split at hg <;> cases hg; exact ⟨_,rfl,rfl⟩
 simp only at hK
 simp (maxSteps:=2000000) only[bitvec_to_nat,seval,↓tcd,Tryz.f67]
 refine ⟨M,o,fo,rfl,hd,fun L1 hd1 hst => ?_⟩
 cases hb : M.begin.2 with
 | false =>
  have e : M.sync n = (M.begin.1,40) := onFile_no hb
  have := hK L1 T fo (by rw [e]; exact hd1) hst
  rw [e] at this
  simp (maxSteps:=2000000) only[bitvec_to_nat,seval,↓tcd]
  exact ret_of hst this
 | true =>
  obtain ⟨lf,h1,h2⟩ := hd1.head
  have hlt := lt_at h1
  simp (maxSteps:=2000000) only[bitvec_to_nat,seval,↓tcd,h1,hlt]
  refine ⟨M.begin.1.now,n,rfl,by have := now_small hd.ok hsm; rw [begin_now]; omega,?_⟩
  rw [begin_now]
  cases hf : nfind M.now n with
  | none =>
   have e : M.sync n = (M.begin.1,2) := onFile_none hb hf
   have := hK L1 T fo (by rw [e]; exact hd1) hst
   rw [e] at this
   rw [fnd_none hf]
   simp (maxSteps:=2000000) only[bitvec_to_nat,seval,↓tcd]
   exact ret_of hst this
  | some f =>
   have e : M.sync n = (M.begin.1.setFile f ((M.begin.1.file f).1,(M.begin.1.file f).1.length),0) := onFile_some hb hf
   rw [fnd_some hf]
   have hfl : f < M.begin.1.files.length := by rw [begin_files]; exact (now_lt hd.ok hf).2
   obtain ⟨cs,r1,r2,r3⟩ := row_get hd1
   have hcl := lt_at r1
   have hgf := (r3 f hfl .nils).1
   simp (maxSteps:=2000000) only[bitvec_to_nat,seval,↓tcd,dlt,h1,hlt,r1,hcl,hgf,Int.toNat_natCast]
   obtain ⟨cs',q1,q2,q3⟩ := hd1.row
   rw [r1] at q1
   cases q1
   have hput := row_put q3 hfl ((M.begin.1.file f).1,(M.begin.1.file f).1.length)
   have htk : cs.take (f * 2 + 1) = cs.take (f * 2) ++ [.bytes (M.begin.1.file f).1 none] := by
    have hl1 : f * 2 < cs.length := by omega
    rw [List.take_succ_eq_append_getElem hl1]
    congr 2
    rw [← hgf,List.getD_eq_getElem?_getD,List.getElem?_eq_getElem hl1]; rfl
   have hds : List.take (f * 2 + 1) cs ++ [V.int .i64 ((M.begin.1.file f).1.length : Int)] ++ List.drop (f * 2 + 1 + 1) cs = cs.take (f * 2) ++ [V.bytes (M.begin.1.file f).1 none,.int .i64 ((M.begin.1.file f).1.length : Int)] ++ cs.drop (f * 2 + 2) := by rw [htk]; simp
   rw [hds]
   have hok := hd1.ok.setFile (f := f) (x := ((M.begin.1.file f).1,(M.begin.1.file f).1.length)) (Nat.le_refl _)
   have hfin := hd1.setFile hfl hok r1 hput (by simp)
   have hs := hst.set (o := fo) (.inl (.inr rfl)) (cs.take (f * 2) ++ [V.bytes (M.begin.1.file f).1 none,.int .i64 ((M.begin.1.file f).1.length : Int)] ++ cs.drop (f * 2 + 2))
   have := hK _ T fo (by rw [e]; exact hfin) hs
   rw [e] at this
   exact ⟨by kernel_rfl,⟨by omega,by omega⟩,by omega,⟨by omega,by omega⟩,by omega,ret_of hs this⟩
theorem readR_ok : PSound Tryz.prog 14 (opRP readF) := by
 refine psound tysOk R7ok mix Tryz.func14 rfl ?_
 intro args L T K hm
 obtain ⟨M,o,fo,rest,g,rfl,hg,hd,hsm,hK⟩ := hm
 obtain ⟨n,rfl,rfl⟩ : ∃ n,rest = [.str n] ∧ g = fun M => ((M.read n).1,.tuple [.bytes (M.readB n) none,codeV (M.read n).2]) := by
  unfold readF at hg; split at hg <;> cases hg; exact ⟨_,rfl,rfl⟩
 simp only at hK
 simp (maxSteps:=2000000) only[bitvec_to_nat,seval,↓tcd,Tryz.f14]
 refine ⟨M,o,fo,rfl,hd,fun L1 hd1 hst => ?_⟩
 cases hb : M.begin.2 with
 | false =>
  have e : M.read n = (M.begin.1,40) := onFile_no hb
  have e2 : M.readB n = [] := by simp [MD.readB,hb]
  have := hK L1 T fo (by rw [e]; exact hd1) hst
  rw [e,e2] at this
  simp (maxSteps:=2000000) only[bitvec_to_nat,seval,↓tcd]
  exact ret_le hst this ⟨⟨rfl,rfl⟩,rfl,trivial⟩
 | true =>
  obtain ⟨lf,h1,h2⟩ := hd1.head
  have hlt := lt_at h1
  simp (maxSteps:=2000000) only[bitvec_to_nat,seval,↓tcd,h1,hlt]
  refine ⟨M.begin.1.now,n,rfl,by have := now_small hd.ok hsm; rw [begin_now]; omega,?_⟩
  rw [begin_now]
  cases hf : nfind M.now n with
  | none =>
   have e : M.read n = (M.begin.1,2) := onFile_none hb hf
   have e2 : M.readB n = [] := by simp [MD.readB,hb,hf]
   have := hK L1 T fo (by rw [e]; exact hd1) hst
   rw [e,e2] at this
   rw [fnd_none hf]
   simp (maxSteps:=2000000) only[bitvec_to_nat,seval,↓tcd]
   exact ret_le hst this ⟨⟨rfl,rfl⟩,rfl,trivial⟩
  | some f =>
   have e : M.read n = (M.begin.1,0) := onFile_some hb hf
   have e2 : M.readB n = (M.begin.1.file f).1 := by simp [MD.readB,hb,hf,begin_file]
   rw [fnd_some hf]
   have hfl : f < M.begin.1.files.length := by rw [begin_files]; exact (now_lt hd.ok hf).2
   obtain ⟨cs,r1,r2,r3⟩ := row_get hd1
   have hcl := lt_at r1
   have hgf := (r3 f hfl .nils).1
   have := fun T' hT => hK L1 T' fo (by rw [e]; exact hd1) (hst.trans hT)
   rw [e,e2] at this
   simp (maxSteps:=2000000) only[bitvec_to_nat,seval,↓tcd,dlt,h1,hlt,r1,hcl,hgf,Int.toNat_natCast]
   have hfs := file_small hsm f
   rw [← begin_file] at hfs
   exact ⟨⟨by omega,by omega⟩,by omega,by unfold maxBytes; omega,ret_le (hst.tapp _) (this _ ((Step.refl _ _ _ _).tapp _)) ⟨rfl,rfl,trivial⟩⟩
theorem leL_mid {x x' : V} (h : V.le x x') (b : List V) : ∀ (a : List V),V.le.leL (a ++ x :: b) (a ++ x' :: b)
 | [] => ⟨h,(leL_self _).symm ▸ trivial⟩
 | y :: a => ⟨by have : V.le.leL [y] [y] := (leL_self _).symm ▸ trivial
                 exact this.1,leL_mid h b a⟩
def R9 : Fns := { fn := fun f => R7.fn f,mu := fun d => .no,hp := fun f => R7.hp f,ord := fun i => if i = 6 then some [(0,0),(2,0),(3,0),(5,0),(6,0),(7,0),(8,3),(1,1),(4,0),(9,0)] else if i = 10 then some [(0,0),(1,0),(2,0),(4,0),(3,2),(5,2),(6,0),(7,1)] else none,it := fun f => R7.it f }
theorem R9_fn (f : FuncId) : R9.fn f = (R7.fn f) := rfl
theorem R9_mu (d : Tmp) : R9.mu d = (.no) := rfl
theorem R9_hp (f : FuncId) : R9.hp f = (R7.hp f) := rfl
theorem R9_ord (i : Nat) : R9.ord i = (if i = 6 then some [(0,0),(2,0),(3,0),(5,0),(6,0),(7,0),(8,3),(1,1),(4,0),(9,0)] else if i = 10 then some [(0,0),(1,0),(2,0),(4,0),(3,2),(5,2),(6,0),(7,1)] else none) := rfl
theorem R9_it (f : FuncId) : R9.it f = (R7.it f) := rfl
theorem R9_hy (b : Nat) : R9.hy b = none := rfl
theorem R9ok : FnsOk Tryz.prog R9 := FnsOk.same R7ok rfl rfl
attribute [bitvec_to_nat] R9_fn R9_mu R9_hp R9_ord R9_it R9_hy
theorem appendR_ok : PSound Tryz.prog 22 (opRP appendF) := by
 refine psound tysOk R9ok mix Tryz.func22 rfl ?_
 intro args L T K hm
 obtain ⟨M,o,fo,rest,g,rfl,hg,hd,hsm,hK⟩ := hm
 obtain ⟨n,b,bt,rfl,rfl,hbl⟩ : ∃ n b bt,rest = [.str n,.bytes b bt] ∧ g = (fun M => ((M.append n b).1,codeV (M.append n b).2)) ∧ b.length ≤ 1099511627776 := by
  unfold appendF at hg; split at hg <;> (try split at hg) <;> cases hg; exact ⟨_,_,_,rfl,rfl,by assumption⟩
 simp only at hK
 simp (maxSteps:=2000000) only[bitvec_to_nat,seval,↓tcd,Tryz.f22]
 refine ⟨M,o,fo,rfl,hd,fun L1 hd1 hst => ?_⟩
 cases hb : M.begin.2 with
 | false =>
  have e : M.append n b = (M.begin.1,40) := onFile_no hb
  have := hK L1 T fo (by rw [e]; exact hd1) hst
  rw [e] at this
  simp (maxSteps:=2000000) only[bitvec_to_nat,seval,↓tcd]
  exact ret_of hst this
 | true =>
  obtain ⟨lf,h1,h2⟩ := hd1.head
  have hlt := lt_at h1
  simp (maxSteps:=2000000) only[bitvec_to_nat,seval,↓tcd,h1,hlt]
  refine ⟨M.begin.1.now,n,rfl,by have := now_small hd.ok hsm; rw [begin_now]; omega,?_⟩
  rw [begin_now]
  cases hf : nfind M.now n with
  | none =>
   have e : M.append n b = (M.begin.1,2) := onFile_none hb hf
   have := hK L1 T fo (by rw [e]; exact hd1) hst
   rw [e] at this
   rw [fnd_none hf]
   simp (maxSteps:=2000000) only[bitvec_to_nat,seval,↓tcd]
   exact ret_of hst this
  | some f =>
   have e0 : M.append n b = if M.begin.1.room < (M.begin.1.used : Int) + b.length then (M.begin.1,41) else (M.begin.1.setFile f ((M.begin.1.file f).1 ++ b,(M.begin.1.file f).2),0) := onFile_some hb hf
   rw [fnd_some hf]
   have hsm1 : Small M.begin.1 := ⟨by rw [begin_chs]; exact hsm.chs,by rw [begin_used]; exact hsm.used,by rw [begin_files]; exact hsm.files,by rw [begin_files]; exact hsm.nf⟩
   have hus := hsm1.used
   have hfl : f < M.begin.1.files.length := by rw [begin_files]; exact (now_lt hd.ok hf).2
   simp (maxSteps:=2000000) only[bitvec_to_nat,seval,↓tcd,dlt,h1,hlt]
   refine ⟨by kernel_rfl,M.begin.1,o,fo,rfl,hd1,hsm1,fun L2 T2 hst2 => ?_⟩
   have hd2 := hd1.frame hst2 (fun _ _ h => h)
   have h3 : L2[o]? = L1[o]? := hst2.keep o hlt (fun h => h)
   rw [h1] at h3
   have hlt2 := lt_at h3
   have hwr : IntKind.i64.wrap ((M.begin.1.used : Int) + (b.length : Int)) = (M.begin.1.used : Int) + (b.length : Int) := i64w (by omega) (by omega)
   obtain ⟨cs,r1,r2,r3⟩ := row_get hd2
   have hcl := lt_at r1
   have htwo := row_two hd2 r1 hfl
   have hfs := file_small hsm1 f
   have hrl := r2
   simp (maxSteps:=2000000) only[bitvec_to_nat,seval,↓tcd,h3,hlt2,hwr]
   refine awpIf_intro (fun hc => ?_) (fun hc => ?_) <;> simp only [decide_eq_true_eq,decide_eq_false_iff_not] at hc
   · have e : M.append n b = (M.begin.1,41) := by rw [e0,if_pos hc]
     have hs := hst.via hst2 (fun _ h => h.elim) (fun _ h => h.elim)
     have := hK L2 T2 fo (by rw [e]; exact hd2) hs
     rw [e] at this
     exact ret_of hs this
   · have e : M.append n b = (M.begin.1.setFile f ((M.begin.1.file f).1 ++ b,(M.begin.1.file f).2),0) := by rw [e0,if_neg hc]
     refine ⟨⟨by omega,by omega⟩,?_⟩
     simp (maxSteps:=2000000) only[bitvec_to_nat,seval,↓tcd,h3,hlt2,r1,hcl,htwo,Int.toNat_natCast]
     obtain ⟨cs',q1,q2,q3⟩ := hd2.row
     rw [r1] at q1
     cases q1
     have hput := row_put q3 hfl ((M.begin.1.file f).1 ++ b,(M.begin.1.file f).2)
     have hok := hd1.ok.setFile (f := f) (x := ((M.begin.1.file f).1 ++ b,(M.begin.1.file f).2)) (by have := file_cut hd1.ok f; simp; omega)
     have hfin := hd2.setFile hfl hok r1 hput (by simp)
     have hfin2 := hfin.frame (T := T2) (T' := T2) ((Step.refl noS noS _ _).app [[V.bytes ((M.begin.1.file f).1 ++ b) (some T2.length),V.int .i64 ((M.begin.1.file f).2 : Int)]]) (fun _ _ h => h)
     have hs0 := (hst.via hst2 (fun _ h => h.elim) (fun _ h => h.elim)).set (o := fo) (.inl (.inr rfl)) (cs.take (f * 2) ++ [V.bytes ((M.begin.1.file f).1 ++ b) none,.int .i64 ((M.begin.1.file f).2 : Int)] ++ cs.drop (f * 2 + 2))
     have hs := ((hs0.app [[V.bytes ((M.begin.1.file f).1 ++ b) (some T2.length),V.int .i64 ((M.begin.1.file f).2 : Int)]]).tapp [((M.begin.1.file f).1.length,5)]).tset (k := T2.length) (.inr (Nat.le_trans hst.tlen hst2.tlen)) (((M.begin.1.file f).1 ++ b).length,5)
     have hs0' := (hst.via hst2 (fun _ h => h.elim) (fun _ h => h.elim)).set (o := fo) (.inl (.inr rfl)) (cs.take (f * 2) ++ [V.bytes ((M.begin.1.file f).1 ++ b) (some T2.length),.int .i64 ((M.begin.1.file f).2 : Int)] ++ cs.drop (f * 2 + 2))
     have hs' := ((hs0'.app [[V.bytes ((M.begin.1.file f).1 ++ b) (some T2.length),V.int .i64 ((M.begin.1.file f).2 : Int)]]).tapp [((M.begin.1.file f).1.length,5)]).tset (k := T2.length) (.inr (Nat.le_trans hst.tlen hst2.tlen)) (((M.begin.1.file f).1 ++ b).length,5)
     refine ⟨by omega,by unfold maxBytes; omega,by unfold maxBytes; omega,by kernel_rfl,⟨by omega,by omega⟩,by omega,?_⟩
     refine ret_row hs' (o := fo) (by rw [at_app (by simpa using hcl),at_set hcl]) (cs' := cs.take (f * 2) ++ [V.bytes ((M.begin.1.file f).1 ++ b) none,.int .i64 ((M.begin.1.file f).2 : Int)] ++ cs.drop (f * 2 + 2)) ?_ ?_
     · rw [List.append_assoc,List.append_assoc]
       exact leL_mid (x := .bytes ((M.begin.1.file f).1 ++ b) (some T2.length)) (x' := .bytes ((M.begin.1.file f).1 ++ b) none) (by exact rfl) _ _
     · rw [List.set_append_left _ _ (by simpa using hcl),List.set_set]
       have := hK _ _ fo (by rw [e]; exact hfin2) hs
       rw [e] at this
       exact this
def R10 : Fns := { fn := fun f => R7.fn f,mu := fun d => bif d == 4 then .nil 67 else .no,hp := fun f => R7.hp f,ord := fun i => none,it := fun f => R7.it f }
theorem R10_fn (f : FuncId) : R10.fn f = (R7.fn f) := rfl
theorem R10_mu (d : Tmp) : R10.mu d = (bif d == 4 then .nil 67 else .no) := rfl
theorem R10_hp (f : FuncId) : R10.hp f = (R7.hp f) := rfl
theorem R10_ord (i : Nat) : R10.ord i = (none) := rfl
theorem R10_it (f : FuncId) : R10.it f = (R7.it f) := rfl
theorem R10_hy (b : Nat) : R10.hy b = none := rfl
attribute [bitvec_to_nat] R10_fn R10_mu R10_hp R10_ord R10_it R10_hy
end Go.Proofs.YthlmfalfnpjndaaGreat.Ref
