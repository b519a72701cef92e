import Derived.Test.YtpncnionnfomeaaAwX
import Derived.Test.YtpncnionnfomeaaPlaceM
import Derived.Test.YtpncnionnfomeaaPlaceZ
import Derived.Test.YtpncnionnfomeaaDiskG
namespace Go.Proofs.Ytpncnionnfomeaa.PlaceX
open Go Go.Proofs Go.Proofs.Ytpncnionnfomeaa.Aw Go.Proofs.Ytpncnionnfomeaa.Num Go.Proofs.Ytpncnionnfomeaa.DiskM Go.Proofs.Ytpncnionnfomeaa.DiskA Go.Proofs.Ytpncnionnfomeaa.DiskK Go.Proofs.Ytpncnionnfomeaa.DiskC Go.Proofs.Ytpncnionnfomeaa.Disk Go.Proofs.Ytpncnionnfomeaa.DiskH
open Go.Proofs.Ytpncnionnfomeaa.DiskL (readP syncP syncNamesP namesP doomP wbV len_wbV Sz sz_new crash_o op_o small_crash Live begin_live onFile_live names_live read_live)
open Go.Proofs.Ytpncnionnfomeaa.Place (Do Makes putAll growAll dropD putFP growFP dropFP makes_put makes_grow makes_drop makes_syncNames makes_sync ok_syncNames runD butD runF runF_cons runFrom removeD createD appendD syncD renameD syncNamesD putD growD madeD partsOf partsD dropF growsOk file_set file_set_self now_inj Core Keep onTheWay)
set_option linter.unusedSimpArgs false
set_option linter.unusedVariables false
def Lives (g : Do) : Prop := ∀ M, Live M → Live (g.f M).1
theorem lives_remove (n : Name) : Lives (removeD n) := fun M h => onFile_live h _ _ fun f => h
theorem lives_sync (n : Name) : Lives (syncD n) := fun M h => onFile_live h _ _ fun f => h
theorem lives_append (n : Name) (b : List UInt8) : Lives (appendD n b) := fun M h => onFile_live h _ _ fun f => by split <;> exact h
theorem lives_rename (n t : Name) : Lives (renameD n t) := fun M h => onFile_live h _ _ fun f => by split <;> exact h
theorem lives_syncNames : Lives syncNamesD := fun M h => by
  show Live M.syncNames.1
  simp only [MD.syncNames, begin_live h]
  split <;> exact h
theorem lives_create (n : Name) : Lives (createD n) := fun M h => by
  show Live (M.create n).1
  rw [DiskL.create_live h]
  split
  · exact h
  · split <;> exact h
theorem Lives.but {g : Do} {c : Nat} (h : Lives g) : Lives (butD c g) := fun M hl => h M hl
theorem Lives.list : ∀ {l : List Do}, (∀ g ∈ l, Lives g) → Lives (runD l)
  | [], _ => fun M h => h
  | g :: l, hl => fun M h => by
    have h1 := hl g (by simp) M h
    have ih := Lives.list (fun x hx => hl x (List.mem_cons_of_mem _ hx)) (g.f M).1 h1
    show Live (runF (g :: l) M).1
    rw [runF_cons]
    unfold runFrom
    split
    · exact ih
    · exact h1
theorem lives_put (n : Name) (b : List UInt8) : Lives (putAll n b) := fun M h => by
  have key : Lives (putD n b) := Lives.list fun g hg => by
    simp only [List.mem_cons, List.not_mem_nil, or_false] at hg
    rcases hg with rfl | rfl | rfl | rfl | rfl | rfl
    · exact (lives_remove _).but
    · exact lives_create _
    · exact Lives.list fun g hg => by obtain ⟨c, _, rfl⟩ := List.mem_map.1 hg; exact lives_append _ _
    · exact lives_sync _
    · exact lives_rename _ _
    · exact lives_syncNames
  show Live (if growsOk n then (putD n b).f M else (M, 1)).1
  split
  · exact key M h
  · exact h
theorem lives_grow (n : Name) (b : List UInt8) : Lives (growAll n b) := fun M h => by
  have key : Lives (growD n b) := Lives.list fun g hg => by
    simp only [List.mem_cons, List.not_mem_nil, or_false] at hg
    rcases hg with rfl | rfl | rfl
    · refine Lives.but (Lives.list fun g hg => ?_)
      simp only [List.mem_cons, List.not_mem_nil, or_false] at hg
      rcases hg with rfl | rfl
      · exact lives_create _
      · exact lives_syncNames
    · exact lives_append _ _
    · exact lives_sync _
  show Live (if growsOk n then (growD n b).f M else (M, 1)).1
  split
  · exact key M h
  · exact h
theorem lives_drop (ns : List Name) : Lives (dropD ns) := fun M h => by
  have key : ∀ (ns : List Name) (g : Bool) (M : MD), Live M → Live (dropF ns g M).1 := by
    intro ns
    induction ns with
    | nil =>
      intro g M h
      unfold dropF
      split
      · exact lives_syncNames M h
      · exact h
    | cons n r ih =>
      intro g M h
      unfold dropF
      split
      · exact ih _ _ (lives_remove n M h)
      · exact lives_remove n M h
  exact key ns false M h
def act3 (a : Act) : Do := match a.kind.toNat % 3 with
  | 0 => putAll a.name a.b
  | 1 => growAll a.name a.b
  | _ => dropD a.names
theorem makes_act3 {a : Act} (h : a.small) : Makes 16 (act3 a) := by
  unfold act3
  split
  · exact makes_put _ h.1
  · exact makes_grow _ h.1
  · exact makes_drop h.2.2.1
theorem lives_act3 (a : Act) : Lives (act3 a) := by
  unfold act3
  split
  · exact lives_put _ _
  · exact lives_grow _ _
  · exact lives_drop _
def syncs (ns : List Name) (M : MD) : MD := ns.foldl (fun M n => (M.sync n).1) M
theorem syncs_snoc (ns : List Name) (n : Name) (M : MD) : syncs (ns ++ [n]) M = ((syncs ns M).sync n).1 := by unfold syncs; rw [List.foldl_append]; rfl
theorem sync_live {M : MD} (h : Live M) (n : Name) : (M.sync n).1 = match nfind M.now n with
    | none => M
    | some f => M.setFile f ((M.file f).1, (M.file f).1.length) := by
  unfold MD.sync MD.onFile
  rw [begin_live h]
  cases nfind M.now n <;> rfl
theorem syncs_makes : ∀ (ns : List Name) (k : Nat) (M : MD), M.Ok → Sz k M → k + ns.length ≤ 10000 → (syncs ns M).Ok ∧ Sz (k + ns.length) (syncs ns M)
  | [], k, M, ok, hs, _ => ⟨ok, hs⟩
  | n :: r, k, M, ok, hs, hk => by
    simp only [List.length_cons] at hk ⊢
    obtain ⟨_, b, c⟩ := makes_sync n k M ok hs (by omega)
    have := syncs_makes r (k + 1) (M.sync n).1 b c (by omega)
    rw [show k + (r.length + 1) = k + 1 + r.length by omega]
    exact this
theorem syncs_live : ∀ (ns : List Name) (M : MD), Live M → Live (syncs ns M)
  | [], M, h => h
  | n :: r, M, h => syncs_live r _ (lives_sync n M h)
theorem sync_chs {M : MD} (h : Live M) (n : Name) : (M.sync n).1.chs = M.chs ∧ (M.sync n).1.kept = M.kept := by
  rw [sync_live h]
  cases nfind M.now n <;> exact ⟨rfl, rfl⟩
theorem syncs_chs : ∀ (ns : List Name) (M : MD), Live M → (syncs ns M).chs = M.chs ∧ (syncs ns M).kept = M.kept
  | [], M, h => ⟨rfl, rfl⟩
  | n :: r, M, h => by
    obtain ⟨a, b⟩ := syncs_chs r (M.sync n).1 (lives_sync n M h)
    obtain ⟨c, d⟩ := sync_chs h n
    exact ⟨a.trans c, b.trans d⟩
theorem syncs_full : ∀ (ns : List Name) (k : Nat) (M : MD), M.Ok → Sz k M → k + ns.length ≤ 10000 → Live M → M.chs = [] → ∀ n f, nfind M.kept n = some f → n ∈ ns ∨ (M.file f).2 = (M.file f).1.length → ((syncs ns M).file f).2 = ((syncs ns M).file f).1.length
  | [], _, M, _, _, _, _, _, n, f, _, h => h.elim (fun h => by cases h) id
  | x :: r, k, M, ok, hs, hk, hl, hc, n, f, hf, h => by
    simp only [List.length_cons] at hk
    obtain ⟨_, b, c⟩ := makes_sync x k M ok hs (by omega)
    obtain ⟨e1, e2⟩ := sync_chs hl x
    have hn : nfind M.now n = some f := by unfold MD.now; rw [hc]; exact hf
    refine syncs_full r (k + 1) (M.sync x).1 b c (by omega) (lives_sync x M hl) (e1.trans hc) n f (by rw [e2]; exact hf) ?_
    have key : (n = x ∨ (M.file f).2 = (M.file f).1.length) → ((M.sync x).1.file f).2 = ((M.sync x).1.file f).1.length := by
      intro h
      rw [sync_live hl]
      cases hx : nfind M.now x with
      | none => exact h.elim (fun h => by rw [← h, hn] at hx; cases hx) id
      | some g =>
        simp only
        by_cases hg : f = g
        · subst hg
          rw [file_set_self _ (now_lt ok hn).2]
        · rw [file_set _ _ hg]
          exact h.elim (fun h => by rw [← h, hn] at hx; exact absurd (Option.some.inj hx) hg) id
    rcases h with h | h
    · rcases List.mem_cons.1 h with h | h
      · exact .inr (key (.inl h))
      · exact .inl h
    · exact .inr (key (.inr h))
structure Begun (M : MD) : Prop where
  ok : M.Ok
  live : Live M
  kept : Kept M
  sz : Sz 2000 M
theorem begun {M : MD} (ok : M.Ok) (hl : Live M) (hs : Sz 640 M) : M.syncNames.2 = 0 ∧ Live M.syncNames.1 ∧ Small M.syncNames.1 ∧ (M.syncNames.1.now.map (·.1)).length ≤ 641 ∧ ∀ j, (syncs ((M.syncNames.1.now.map (·.1)).take j) M.syncNames.1).Ok ∧ Small (syncs ((M.syncNames.1.now.map (·.1)).take j) M.syncNames.1) ∧ ((M.syncNames.1.now.map (·.1)).length ≤ j → Begun (syncs ((M.syncNames.1.now.map (·.1)).take j) M.syncNames.1)) := by
  obtain ⟨_, h2, h3⟩ := makes_syncNames 640 M ok hs (by omega)
  have h4 := lives_syncNames M hl
  change M.syncNames.1.Ok at h2
  change Sz (640 + 1) M.syncNames.1 at h3
  change Live M.syncNames.1 at h4
  have e : M.syncNames = ({ M with kept := M.now, chs := [] }, 0) := by unfold MD.syncNames; rw [begin_live hl]; rfl
  have hc : M.syncNames.1.chs = [] := by rw [e]
  have h5 : (M.syncNames.1.now.map (·.1)).length ≤ 641 := by
    rw [List.length_map]
    exact Nat.le_trans (now_len h2) h3.nf
  refine ⟨by rw [e], h4, h3.small (by omega), h5, fun j => ?_⟩
  have hj : ((M.syncNames.1.now.map (·.1)).take j).length ≤ 641 := by rw [List.length_take]; omega
  obtain ⟨g1, g2⟩ := syncs_makes ((M.syncNames.1.now.map (·.1)).take j) 641 _ h2 h3 (by omega)
  refine ⟨g1, g2.small (by omega), fun hle => ⟨g1, syncs_live _ _ h4, ?_, g2.mono (by omega)⟩⟩
  obtain ⟨e1, e2⟩ := syncs_chs ((M.syncNames.1.now.map (·.1)).take j) _ h4
  refine ⟨e1.trans hc, fun n f hf => ?_⟩
  rw [e2] at hf
  refine syncs_full _ 641 _ h2 h3 (by omega) h4 hc n f hf (.inl ?_)
  rw [List.take_of_length_le hle]
  refine List.mem_map.2 ⟨(n, f), ?_, rfl⟩
  have : nfind M.syncNames.1.now n = some f := by unfold MD.now; rw [hc]; exact hf
  exact nfind_mem this
theorem ok_dm {M : MD} (ok : M.Ok) {n : Nat} (h : n ≤ 9223372036854775807) : (DiskL.Dm M n).Ok := ⟨ok.rise, ok.can, ok.once, ok.lt, ok.right, ok.cut, ok.room, Int.ofNat_le.2 h⟩
theorem keep_dm {M : MD} (h : Kept M) (n : Nat) (s : Name) : Keep M (DiskL.Dm M n) s := ⟨rfl, fun c hc => (by rw [show (DiskL.Dm M n).chs = M.chs from rfl, h.chs] at hc; cases hc), fun _ _ => rfl⟩
theorem readB_live {M : MD} (h : Live M) (s : Name) : M.readB s = match nfind M.now s with
    | none => []
    | some f => (M.file f).1 := by
  unfold MD.readB
  rw [begin_live h]
  rfl
theorem read_was {M0 M : MD} {s : Name} {w : Wreck} (h0 : Kept M0) (hl : Live M0) (ok : M.Ok) (h : Place.Was M0 M s w) : (nfind (M.crash w).now s).isSome = (nfind M0.now s).isSome ∧ (M.crash w).readB s = M0.readB s := by
  obtain ⟨h1, h2⟩ := h
  obtain ⟨c1, c2⟩ := Place.crash_of ok w s
  rw [readB_live hl, kept_now h0]
  cases hk : nfind M0.kept s with
  | none =>
    obtain ⟨d1, d2⟩ := c1 (h1.trans hk)
    rw [d1, d2]
    exact ⟨rfl, rfl⟩
  | some f =>
    obtain ⟨i, d1, d2⟩ := c2 f (h1.trans hk)
    rw [d1, d2, h2 f hk, crashF_kept (h0.all s f hk)]
    exact ⟨rfl, rfl⟩
theorem read_is {M : MD} {s : Name} {x : List UInt8} {w : Wreck} (ok : M.Ok) (h : Place.Is M s x w) : (nfind (M.crash w).now s).isSome = true ∧ (M.crash w).readB s = x := by
  obtain ⟨f, h1, h2⟩ := h
  obtain ⟨i, d1, d2⟩ := (Place.crash_of ok w s).2 f h1
  rw [d1, d2, h2, crashF_kept rfl]
  exact ⟨rfl, rfl⟩
def X7 : Fns := { fn := fun f => X0.fn f, mu := fun d => .no, hp := fun f => if f = 13 then some newP else if f = 15 then some fewP else if f = 26 then some putFP else if f = 28 then some growFP else if f = 29 then some dropFP else X0.hp f, ord := fun i => none, it := fun f => X0.it f }
theorem X7_fn (f : FuncId) : X7.fn f = (X0.fn f) := rfl
theorem X7_mu (d : Tmp) : X7.mu d = (.no) := rfl
theorem X7_hp (f : FuncId) : X7.hp f = (if f = 13 then some newP else if f = 15 then some fewP else if f = 26 then some putFP else if f = 28 then some growFP else if f = 29 then some dropFP else X0.hp f) := rfl
theorem X7_ord (i : Nat) : X7.ord i = (none) := rfl
theorem X7_it (f : FuncId) : X7.it f = (X0.it f) := rfl
theorem X7_hy (b : Nat) : X7.hy b = none := rfl
theorem X7ok : FnsOk Try.prog X7 := FnsOk.same (FnsOk.consP (FnsOk.consP (FnsOk.consP (FnsOk.consP (FnsOk.consP X0ok _ _ Place.dropF_ok Try.func29 (by decide) (fun h => by cases h)) _ _ Place.growF_ok Try.func28 (by decide) (fun h => by cases h)) _ _ Place.putF_ok Try.func26 (by decide) (fun h => by cases h)) _ _ few_ok Try.func15 (by decide) (fun h => by cases h)) _ _ new_ok Try.func13 (by decide) (fun h => by cases h)) rfl rfl
attribute [bitvec_to_nat] X7_fn X7_mu X7_hp X7_ord X7_it X7_hy
def madeP : PM := fun args L T K => ∃ (room : Int) (l : List Act), args = [.int .i64 room, .list 7 (l.map actV) none] ∧ l.length ≤ 9223372036854775807 ∧ ∀ L' T' M w, dAt L' T' M w → Live M → Sz 640 M → Step noS noS L T w.S w.R L' T' → K (.box w.o 0) L' T'
set_option maxHeartbeats 2000000 in
theorem made_ok : PSound Try.prog 20 madeP := by
  refine psound tysOk X7ok mix Try.func20 rfl ?_
  intro args L T K hm
  obtain ⟨room, l, rfl, hlen, hK⟩ := hm
  simp (maxSteps:=2000000) only[bitvec_to_nat,seval,↓tcd,Try.f20]
  refine ⟨room, rfl, fun L2 w2 ho2 hd2 hst2 => ?_⟩
  obtain ⟨od, hod⟩ : ∃ o, w2.o = o := ⟨_, rfl⟩
  rw [hod]
  refine ⟨l, rfl, hlen, fun L5 T5 hst5 => ?_⟩
  simp (maxSteps:=2000000) only[bitvec_to_nat,seval,↓tcd,List.length_map]
  have hd5 := hd2.frame hst5 (fun _ _ h => h) (fun _ _ h => h)
  have hg5 : Step noS noS L T w2.S w2.R L5 T5 := hst2.via hst5 (fun _ h => h.elim) (fun _ h => h.elim)
  have hF := few_len l
  refine awpLoop_intro (α := {q : Nat × LL × TT × MD × Own // q.1 ≤ (few l).length ∧ q.2.2.2.2.o = od ∧ dAt q.2.1 q.2.2.1 q.2.2.2.1 q.2.2.2.2 ∧ Step noS noS L T q.2.2.2.2.S q.2.2.2.2.R q.2.1 q.2.2.1 ∧ Live q.2.2.2.1 ∧ Sz (16 * q.1) q.2.2.2.1})
    (fun q => ⟨[.any, .any, .any, .any, .any, .box od 0, .any, .any, .any, .any, .any, .list 7 ((few l).map actV) none, .int .i64 ((few l).length : Int), .int .i64 (q.1.1 : Int), .any, .any, .any, .any, .any, .any, .any, .any, .any, .any, .any, .any, .any, .any, .any, .any, .any, .any, .any, .any, .any, .any, .any, .any, .any, .any, .any, .any], q.1.2.1, q.1.2.2.1⟩) (fun q => (few l).length - q.1.1)
    ⟨(0, L5, T5, DiskM.new room, w2), Nat.zero_le _, hod, hd5, hg5, ⟨rfl, rfl⟩, sz_new room⟩ ?_ ?_ (fun q => ⟨q.2.2.2.2.1.len, q.2.2.2.2.1.tlen⟩)
  · simp (maxSteps:=2000000) only[bitvec_to_nat,seval,↓tcd,leLL_self]
    all_goals simp
  · rintro ⟨⟨i, L6, T6, M, wd⟩, hi, hwd, hd, hg, hlv, hsz⟩
    simp only at hi hwd hd hg hlv hsz
    by_cases him : i < (few l).length
    · have hdc : decide ((i : Int) < ((few l).length : Int)) = true := decide_eq_true (by omega)
      obtain ⟨a, ha⟩ : ∃ a, (few l)[i]? = some a := ⟨_, List.getElem?_eq_getElem him⟩
      obtain ⟨ham, hal⟩ := few_mem (List.mem_of_getElem? ha)
      have hgd : ((few l).map actV).getD i .any = .agg [.int .u8 a.kind.toNat, .str a.name, .bytes a.b none, .list 1 (a.names.map .str) none, .int .i64 a.w.names, wbV a.w.bytes, .int .i64 a.n] := by
        rw [List.getD_eq_getElem?_getD, List.getElem?_map, ha]; rfl
      have hi1 : IntKind.i64.wrap ((i : Int) + 1) = ((i + 1 : Nat) : Int) := by rw [i64w (by omega) (by omega)]; omega
      unfold wbV at hgd
      have hmod : ((a.kind.toNat : Nat) : Int).tmod 3 = ((a.kind.toNat % 3 : Nat) : Int) := rfl
      obtain ⟨A, hA⟩ : ∃ x, ([.int .u8 a.kind.toNat, .str a.name, .bytes a.b none, .list 1 (a.names.map .str) none, .int .i64 a.w.names, .list 1 (a.w.bytes.map fun n => .int .i64 n) none, .int .i64 a.n] : List V) = x := ⟨_, rfl⟩
      have hd7 : dAt (L6 ++ [A]) T6 M wd := hd.frame ((Step.refl noS noS L6 T6).app [A]) (fun _ _ h => h) (fun _ _ h => h)
      obtain ⟨m1, m2, m3⟩ := makes_act3 ham (16 * i) M hd.ok hsz (by omega)
      have hlv3 := lives_act3 a M hlv
      have hc : a.kind.toNat % 3 = 0 ∨ a.kind.toNat % 3 = 1 ∨ a.kind.toNat % 3 = 2 := by omega
      have hb := ham.1
      have hnb := ham.2.2.1
      rcases hc with hc | hc | hc
      · have e : act3 a = putAll a.name a.b := by simp only [act3, hc]
        rw [e] at m1 m2 m3 hlv3
        rw [hc] at hmod
        simp (maxSteps:=2000000) only[bitvec_to_nat,seval,↓tcd,hdc,hgd,Int.toNat_natCast,List.length_map,hmod,Int.natCast_zero,Int.cast_ofNat_Int]
        refine ⟨⟨by omega, by omega⟩, ?_⟩
        rw [hA]
        refine ⟨M, wd, a.name, a.b, none, by rw [hwd], by omega, hd7, m1, fun L8 T8 w8 ho8 hd8 hst8 => ?_⟩
        rw [hwd] at ho8
        simp (maxSteps:=2000000) only[bitvec_to_nat,seval,↓tcd,hi1]
        refine ⟨⟨(i + 1, L8, T8, ((putAll a.name a.b).f M).1, w8), him, ho8, hd8, (hg.app [A]).trans hst8, hlv3, m3.mono (by omega)⟩, ?_, by simp only; omega⟩
        simp (maxSteps:=2000000) only[bitvec_to_nat,seval,↓tcd,leLL_self,hi1]
      · have e : act3 a = growAll a.name a.b := by simp only [act3, hc]
        rw [e] at m1 m2 m3 hlv3
        rw [hc] at hmod
        simp (maxSteps:=2000000) only[bitvec_to_nat,seval,↓tcd,hdc,hgd,Int.toNat_natCast,List.length_map,hmod,Int.natCast_zero,Int.cast_ofNat_Int]
        refine ⟨⟨by omega, by omega⟩, ?_⟩
        rw [hA]
        refine ⟨M, wd, a.name, a.b, none, by rw [hwd], by omega, hd7, m1, fun L8 T8 w8 ho8 hd8 hst8 => ?_⟩
        rw [hwd] at ho8
        simp (maxSteps:=2000000) only[bitvec_to_nat,seval,↓tcd,hi1]
        refine ⟨⟨(i + 1, L8, T8, ((growAll a.name a.b).f M).1, w8), him, ho8, hd8, (hg.app [A]).trans hst8, hlv3, m3.mono (by omega)⟩, ?_, by simp only; omega⟩
        simp (maxSteps:=2000000) only[bitvec_to_nat,seval,↓tcd,leLL_self,hi1]
      · have e : act3 a = dropD a.names := by simp only [act3, hc]
        rw [e] at m1 m2 m3 hlv3
        rw [hc] at hmod
        simp (maxSteps:=2000000) only[bitvec_to_nat,seval,↓tcd,hdc,hgd,Int.toNat_natCast,List.length_map,hmod,Int.natCast_zero,Int.cast_ofNat_Int]
        refine ⟨⟨by omega, by omega⟩, ?_⟩
        rw [hA]
        refine ⟨M, wd, a.names, by rw [hwd], by omega, hd7, m1, fun L8 T8 w8 ho8 hd8 hst8 => ?_⟩
        rw [hwd] at ho8
        simp (maxSteps:=2000000) only[bitvec_to_nat,seval,↓tcd,hi1]
        refine ⟨⟨(i + 1, L8, T8, ((dropD a.names).f M).1, w8), him, ho8, hd8, (hg.app [A]).trans hst8, hlv3, m3.mono (by omega)⟩, ?_, by simp only; omega⟩
        simp (maxSteps:=2000000) only[bitvec_to_nat,seval,↓tcd,leLL_self,hi1]
    · have hdc : decide ((i : Int) < ((few l).length : Int)) = false := decide_eq_false (by omega)
      simp (maxSteps:=2000000) only[bitvec_to_nat,seval,↓tcd,hdc]
      rw [← hwd]
      exact ret_of hg (hK L6 T6 M wd hd hlv (hsz.mono (by omega)) hg)
def X8 : Fns := { fn := fun f => X0.fn f, mu := fun d => .no, hp := fun f => if f = 30 then some namesP else X0.hp f, ord := fun i => none, it := fun f => X0.it f }
theorem X8_fn (f : FuncId) : X8.fn f = (X0.fn f) := rfl
theorem X8_mu (d : Tmp) : X8.mu d = (.no) := rfl
theorem X8_hp (f : FuncId) : X8.hp f = (if f = 30 then some namesP else X0.hp f) := rfl
theorem X8_ord (i : Nat) : X8.ord i = (none) := rfl
theorem X8_it (f : FuncId) : X8.it f = (X0.it f) := rfl
theorem X8_hy (b : Nat) : X8.hy b = none := rfl
theorem X8ok : FnsOk Try.prog X8 := FnsOk.same (FnsOk.consP X0ok _ _ names_ok Try.func30 (by decide) (fun h => by cases h)) rfl rfl
attribute [bitvec_to_nat] X8_fn X8_mu X8_hp X8_ord X8_it X8_hy
def namesLP : PM := fun args L T K => ∃ (M : MD) (w : Own), args = [.box w.o 0] ∧ dAt L T M w ∧ Live M ∧ Small M ∧ ∀ L' T' w', w'.o = w.o → dAt L' T' M w' → Step w.S w.R L T w'.S w'.R L' T' → K (.list 1 ((M.now.map (·.1)).map .str) none) L' T'
theorem namesL_ok : PSound Try.prog 22 namesLP := by
  refine psound tysOk X8ok mix Try.func22 rfl ?_
  intro args L T K hm
  obtain ⟨M, w, rfl, hd, hl, hs, hK⟩ := hm
  obtain ⟨od, hod⟩ : ∃ o, w.o = o := ⟨_, rfl⟩
  rw [hod]
  simp (maxSteps:=2000000) only[bitvec_to_nat,seval,↓tcd,Try.f22]
  refine op_o hod rfl hd hs fun L1 T1 w1 ho1 hd1 hst1 => ?_
  obtain ⟨n1, n2⟩ := names_live hl
  simp only [n1, n2, code_V, Int.natCast_zero] at hd1 ⊢
  simp (maxSteps:=2000000) only[bitvec_to_nat,seval,↓tcd]
  exact ret_of hst1 (hK L1 T1 w1 (ho1.trans hod.symm) hd1 hst1)
end Go.Proofs.Ytpncnionnfomeaa.PlaceX
