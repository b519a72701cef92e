import Derived.Test.YtpncnionnfomeaaAwX
import Derived.Test.YtpncnionnfomeaaDiskQ
namespace Go.Proofs.Ytpncnionnfomeaa.Disk
open Go Go.Proofs Go.Proofs.Ytpncnionnfomeaa.Aw Go.Proofs.Ytpncnionnfomeaa.Num Go.Proofs.Ytpncnionnfomeaa.DiskM Go.Proofs.Ytpncnionnfomeaa.DiskA Go.Proofs.Ytpncnionnfomeaa.DiskK Go.Proofs.Ytpncnionnfomeaa.DiskC Go.Proofs.Ytpncnionnfomeaa.DiskD
set_option linter.unusedSimpArgs false
set_option linter.unusedVariables false
theorem PSound.ghostIn {P : Program} {f : FuncId} {m m' : PM} (h : PSound P f m) (hm : ∀ args L T K, m' args L T K → ∃ G, m args (L ++ G) T K) : PSound P f m' := by
  intro B p0 K L T args vs Kont hM hk hsz hrel
  obtain ⟨G, hk⟩ := hm _ _ _ _ hk
  obtain ⟨K1, w1, x1, M1⟩ := hM.ghosts G
  have := h B p0 K1 (L ++ G) T args vs Kont M1 hk hsz (fun j h h' => (hrel j h h').ext x1)
  rw [w1] at this
  exact this.mono fun e w' ⟨v, K', r, L', T', he, hw, hx, rest⟩ => ⟨v, K', r, L', T', he, hw, x1.trans hx, rest⟩
def Q4 : Fns := { fn := fun f => G0.fn f, mu := fun d => bif d == 47 then .seq else .no, hp := fun f => if f = 55 then some fcloneP else if f = 56 then some ccloneP else if f = 45 then some onP else if f = 46 then some cloneMP else G0.hp f, ord := fun i => if i = 8 then some [(0, 0), (1, 3), (2, 0), (3, 0), (4, 1), (5, 4)] else if i = 13 then some [(0, 0), (1, 3), (2, 3), (3, 1), (4, 0), (5, 4), (6, 0), (7, 4)] else none, it := fun f => G0.it f }
theorem Q4_fn (f : FuncId) : Q4.fn f = (G0.fn f) := rfl
theorem Q4_mu (d : Tmp) : Q4.mu d = (bif d == 47 then .seq else .no) := rfl
theorem Q4_hp (f : FuncId) : Q4.hp f = (if f = 55 then some fcloneP else if f = 56 then some ccloneP else if f = 45 then some onP else if f = 46 then some cloneMP else G0.hp f) := rfl
theorem Q4_ord (i : Nat) : Q4.ord i = (if i = 8 then some [(0, 0), (1, 3), (2, 0), (3, 0), (4, 1), (5, 4)] else if i = 13 then some [(0, 0), (1, 3), (2, 3), (3, 1), (4, 0), (5, 4), (6, 0), (7, 4)] else none) := rfl
theorem Q4_it (f : FuncId) : Q4.it f = (G0.it f) := rfl
theorem Q4_hy (b : Nat) : Q4.hy b = none := rfl
theorem Q4ok : FnsOk Try.prog Q4 := FnsOk.same (FnsOk.consP (FnsOk.consP (FnsOk.consP (FnsOk.consP G0ok _ _ cloneM_ok Try.func46 (by decide) (fun h => by cases h)) _ _ on_ok Try.func45 (by decide) (fun h => by cases h)) _ _ cclone_ok Try.func56 (by decide) (fun h => by cases h)) _ _ fclone_ok Try.func55 (by decide) (fun h => by cases h)) rfl rfl
attribute [bitvec_to_nat] Q4_fn Q4_mu Q4_hp Q4_ord Q4_it Q4_hy
def cloneDP0 : PM := fun args L T K => ∃ M w n fs, args = [.box w.o 0] ∧ dAt L T M w ∧ Small M ∧ FilesAt 5 n noS L fs M.files ∧ (∀ i, w.S i → i < n) ∧ n ≤ L.length ∧
  ∀ L' T' w', dAt L' T' M w' → Step noS noS L T noS w'.R L' T' → (∀ i, w'.S i → n ≤ i) → K (.box w'.o 0) L' T'
structure CInv (M : MD) (L : LL) (T : TT) (n : Nat) (na : V) (lf : Int) (ck3 : Nat) (l3 : List (MKey × Nat × V)) (pre cs : List Chg) (L2 : LL) (T2 : TT) (fs2 : List Fl) (tk2 : Option Nat) : Prop where
  split : M.chs = pre ++ cs
  step : Step noS noS L T noS (fun k => tk2 = some k) L2 T2
  head : L2[L.length]? = some [.int .i64 M.room, .int .i64 (M.used : Int), na, .mref (L.length + 1), chsV fs2 tk2 pre, .bool M.down, .bool M.doomed, .int .i64 lf]
  map : L2[L.length + 1]? = some [.mapc none ck3 l3]
  names : NMap fs2 l3 M.kept
  row : match tk2 with | none => pre = [] | some k => T2[k]? = some (pre.length, 88)
  files : FilesAt 5 n (fun i => i = L.length ∨ i = L.length + 1) L2 fs2 M.files
  low : n ≤ L.length
section
variable {M : MD} {L L2 L4 : LL} {T T2 : TT} {n ck3 : Nat} {na : V} {lf : Int} {l3 : List (MKey × Nat × V)} {pre cs : List Chg} {c : Chg} {fs2 fs3 : List Fl} {tk2 : Option Nat}
structure CMore (M : MD) (L : LL) (n : Nat) (l3 : List (MKey × Nat × V)) (pre : List Chg) (c : Chg) (fs2 fs3 : List Fl) (L4 : LL) (v : V) : Prop where
  files : FilesAt 5 n (fun i => i = L.length ∨ i = L.length + 1) L4 fs3 M.files
  pre : ∀ c' ∈ pre, chgV fs3 c' = chgV fs2 c'
  new : chgV fs3 c = .agg [.str c.frm, .str c.to, v]
  names : NMap fs3 l3 M.kept
theorem CInv.old (h : CInv M L T n na lf ck3 l3 pre (c :: cs) L2 T2 fs2 tk2) {X : List V} (g : Step noS noS (L2 ++ [X]) T2 noS noS L4 T2) (hc : c.frm ≠ []) : CMore M L n l3 pre c fs2 fs2 L4 nilP :=
  ⟨h.files.step ((Step.refl noS noS L2 T2).app [X] |>.via g (fun _ h => .inl h) (fun _ h => .inl h)) (fun _ h => h.elim), fun _ _ => rfl, by unfold chgV madeV; rw [if_neg hc], h.names⟩
theorem CInv.made (h : CInv M L T n na lf ck3 l3 pre (c :: cs) L2 T2 fs2 tk2) (ok : M.Ok) {X : List V} (g : Step noS noS (L2 ++ [X]) T2 noS noS L4 T2) (hc : c.frm = []) {x : Fl}
    (hx : L4[x.1]? = some [bytesV 5 x.2 (M.file c.file).1, .int .i64 ((M.file c.file).2 : Int)]) (hr : RowAt L4 x.2 (M.file c.file).1) (hge : ∀ i ∈ cellsOf x, (L2 ++ [X]).length ≤ i) (hnd : (cellsOf x).Nodup) :
    CMore M L n l3 pre c fs2 (fs2.set c.file x) L4 (.box x.1 0) := by
  obtain ⟨o1, o2, o3⟩ := once_at ok h.split (f := c.file) (by simp [DiskM.made, hc])
  have hl1 := lt_at h.head
  have hl2 := lt_at h.map
  have hF := h.files.step ((Step.refl (fun i => i = L.length ∨ i = L.length + 1) noS L2 T2).app [X]) fun _ h => .inl h
  refine ⟨hF.new (fun i hi => g.keep i hi (fun h => h)) (file_some o1) hx hr hge hnd (by have := h.low; simp; omega) (fun i hi => by simp; omega), fun c' hc' => chgV_set (o3 c' hc'), ?_, ?_⟩
  · unfold chgV madeV
    rw [if_pos hc, locV_put (by rw [h.files.len]; exact o1)]
  · exact h.names.congr fun n' f' hf' => locV_set fun e => o2 n' (by rw [hf', e])
theorem CInv.first (h : CInv M L T n na lf ck3 l3 pre (c :: cs) L2 T2 fs2 none) {X : List V} (g : Step noS noS (L2 ++ [X]) T2 noS noS L4 T2) {v : V} (m : CMore M L n l3 pre c fs2 fs3 L4 v) :
    CInv M L T n na lf ck3 l3 (pre ++ [c]) cs (L4.set L.length [.int .i64 M.room, .int .i64 (M.used : Int), na, .mref (L.length + 1), .list 3 [.agg [.str c.frm, .str c.to, v]] (some T2.length), .bool M.down, .bool M.doomed, .int .i64 lf]) (T2 ++ [(1, 88)]) fs3 (some T2.length) := by
  have hp : pre = [] := h.row
  have h1 := lt_at h.head
  have h2 := lt_at h.map
  have hl : L.length < L4.length := by have := g.len; simp at this; omega
  have hsT : Step noS noS L T noS (fun k => (none : Option Nat) = some k) L4 T2 := (h.step.app [X]).via g (fun _ h => .inl h) (fun _ h => .inl h)
  refine ⟨by rw [h.split]; simp, ((hsT.set (.inr (Nat.le_refl _)) _).tapp _).less (fun _ h => .inl h) (fun k hk => .inr (by have := hsT.tlen; simp only [Option.some.injEq] at hk; omega)), ?_, ?_, m.names, ?_, m.files.step (T := T2) ((Step.refl (fun i => i = L.length ∨ i = L.length + 1) noS L4 T2).set (o := L.length) (.inl (.inl rfl)) _) (fun _ h => .inl h), h.low⟩
  · rw [at_set hl, hp]
    simp [chsV, m.new]
  · rw [at_other (by omega), g.keep _ (by simp; omega) (fun h => h), at_app h2]
    exact h.map
  · show (T2 ++ [(1, _)])[T2.length]? = some ((pre ++ [c]).length, _)
    rw [tat_new rfl, hp]
    rfl
theorem CInv.next {kk : Nat} (h : CInv M L T n na lf ck3 l3 pre (c :: cs) L2 T2 fs2 (some kk)) {X : List V} (g : Step noS noS (L2 ++ [X]) T2 noS noS L4 T2) {v : V} (m : CMore M L n l3 pre c fs2 fs3 L4 v) :
    CInv M L T n na lf ck3 l3 (pre ++ [c]) cs (L4.set L.length [.int .i64 M.room, .int .i64 (M.used : Int), na, .mref (L.length + 1), .list 3 (pre.map (chgV fs2) ++ [.agg [.str c.frm, .str c.to, v]]) (some kk), .bool M.down, .bool M.doomed, .int .i64 lf]) (T2.set kk ((pre.map (chgV fs2) ++ [V.agg [.str c.frm, .str c.to, v]]).length, 88)) fs3 (some kk) := by
  have hp : T2[kk]? = some (pre.length, 88) := h.row
  have h1 := lt_at h.head
  have h2 := lt_at h.map
  have hl : L.length < L4.length := by have := g.len; simp at this; omega
  have hsT : Step noS noS L T noS (fun k => some kk = some k) L4 T2 := (h.step.app [X]).via g (fun _ h => .inl h) (fun _ h => .inl h)
  have hkk : noS kk ∨ T.length ≤ kk := h.step.town kk rfl
  refine ⟨by rw [h.split]; simp, ((hsT.set (.inr (Nat.le_refl _)) _).tset hkk _), ?_, ?_, m.names, ?_, m.files.step (T := T2) ((Step.refl (fun i => i = L.length ∨ i = L.length + 1) noS L4 T2).set (o := L.length) (.inl (.inl rfl)) _) (fun _ h => .inl h), h.low⟩
  · rw [at_set hl]
    simp only [chsV, List.map_append, List.map_cons, List.map_nil, m.new]
    rw [List.map_congr_left m.pre]
  · rw [at_other (by omega), g.keep _ (by simp; omega) (fun h => h), at_app h2]
    exact h.map
  · show (T2.set kk _)[kk]? = some ((pre ++ [c]).length, _)
    rw [List.getElem?_set_self (tlt_at hp)]
    simp
theorem CInv.disk (h : CInv M L T n na lf ck3 l3 M.chs [] L2 T2 fs2 tk2) (ok : M.Ok) (hlf : M.doomed = true → M.down = false → lf = M.left) {ck : Nat} {l : List (MKey × Nat × V)}
    (g : Step (fun i => i = L2.length) noS (L2.set L.length [.int .i64 M.room, .int .i64 (M.used : Int), .mref L2.length, .mref (L.length + 1), chsV fs2 tk2 M.chs, .bool M.down, .bool M.doomed, .int .i64 lf] ++ [[V.mapc none ck3 l3]]) T2 (fun i => i = L2.length) noS L4 T2)
    (hl : L4[L2.length]? = some [.mapc none ck l]) (hn : NMap fs2 l M.now) :
    dAt L4 T2 M ⟨L.length, some (L2.length, L.length + 1), fs2, tk2⟩ ∧ Step noS noS L T noS (⟨L.length, some (L2.length, L.length + 1), fs2, tk2⟩ : Own).R L4 T2 ∧ ∀ i, (⟨L.length, some (L2.length, L.length + 1), fs2, tk2⟩ : Own).S i → n ≤ i := by
  have h1 := lt_at h.head
  have h2 := lt_at h.map
  have hlen : ∀ X, (List.set L2 L.length X ++ [[V.mapc none ck3 l3]]).length = L2.length + 1 := fun X => by simp
  have hF1 : FilesAt 5 n (fun i => i = L.length ∨ i = L.length + 1 ∨ i = L2.length) L2 fs2 M.files := h.files.less fun i hi => by omega
  have hF2 := hF1.step (T := T2) (((Step.refl (fun i => i = L.length ∨ i = L.length + 1 ∨ i = L2.length) noS L2 T2).set (o := L.length) (.inl (.inl rfl)) [.int .i64 M.room, .int .i64 (M.used : Int), .mref L2.length, .mref (L.length + 1), chsV fs2 tk2 M.chs, .bool M.down, .bool M.doomed, .int .i64 lf]).app [[V.mapc none ck3 l3]]) fun _ h => .inl h
  have hF3 := hF2.step g fun i hi => .inl (.inr (.inr hi))
  refine ⟨⟨ok, ⟨lf, ?_, hlf⟩, ⟨⟨ck, l, hl, hn⟩, ck3, l3, ?_, h.names⟩, ?_, h.files.len, hF3.file, ?_⟩, ?_, fun i hi => ?_⟩
  · rw [g.keep L.length (by rw [hlen]; omega) (by omega), at_app (by simpa using h1), at_set h1]
    rfl
  · rw [g.keep (L.length + 1) (by rw [hlen]; omega) (by omega), at_app (by simpa using h2), at_other (by omega)]
    exact h.map
  · unfold ChsAt
    cases tk2 with
    | none => exact h.row
    | some k => exact h.row
  · show (L.length :: (L2.length :: (L.length + 1) :: fs2.flatMap cellsOf)).Nodup
    simp only [List.nodup_cons, List.mem_cons, not_or]
    refine ⟨⟨by omega, by omega, fun hm => (hF3.own _ hm).2 (.inl rfl)⟩, ⟨by omega, fun hm => (hF3.own _ hm).2 (.inr (.inr rfl))⟩, fun hm => (hF3.own _ hm).2 (.inr (.inl rfl)), h.files.nodup⟩
  · exact (((h.step.set (.inr (Nat.le_refl L.length)) _).app [[V.mapc none ck3 l3]]).via g (fun i hi => .inr (by have := h.step.len; omega)) (fun _ h => h.elim))
  · have hi' : i ∈ L.length :: (L2.length :: (L.length + 1) :: fs2.flatMap cellsOf) := hi
    have := h.low
    have := h.step.len
    rcases List.mem_cons.1 hi' with rfl | hi'
    · omega
    rcases List.mem_cons.1 hi' with rfl | hi'
    · omega
    rcases List.mem_cons.1 hi' with rfl | hi'
    · omega
    exact (hF3.own i hi').1
end
set_option maxHeartbeats 1000000 in
theorem cloneD0_ok : PSound Try.prog 24 cloneDP0 := by
  refine psound tysOk Q4ok mix Try.func24 rfl ?_
  intro args L T K hm
  obtain ⟨M, w, n, fs, rfl, hd, hsm, hfs, hown, hn, hK⟩ := hm
  have hd' := hd
  obtain ⟨ok, ⟨lf, h1, h2⟩, hmaps, hchs, hnfs, hfiles, hnd⟩ := hd'
  unfold headV at h1
  have hlt := lt_at h1
  have hc1 : ∀ X : List V, (L ++ [X]).length = L.length + 1 := fun X => by simp
  have hc2 : ∀ X Y : List V, (L ++ [X] ++ [Y]).length = L.length + 2 := fun X Y => by simp
  cases hms : w.ms with
  | none =>
    rw [hms] at h1
    simp only [mapV, nilM] at h1
    unfold MapsAt at hmaps
    rw [hms] at hmaps
    obtain ⟨hkept0, hch0⟩ := hmaps
    unfold ChsAt at hchs
    cases htk : w.tk with
    | none =>
        rw [htk] at h1
        simp only [chsV, hch0, List.map_nil] at h1
        simp (maxSteps:=2000000) only[bitvec_to_nat,seval,↓tcd,Try.f24,h1,hlt]
        have hset : ∀ X Y : List V, List.set (L ++ [X] ++ [[V.mapc none 0 []]] ++ [[V.iter0]]) L.length Y = L ++ [Y] ++ [[V.mapc none 0 []]] ++ [[V.iter0]] := fun X Y => by
          rw [List.set_append_left _ _ (by simp), List.set_append_left _ _ (by simp), List.set_append_right _ _ (Nat.le_refl _)]
          simp
        have hit : ∀ X : List V, (L ++ [X] ++ [[V.mapc none 0 []]] ++ [[V.iter0]])[L.length + 2]? = some [V.iter0] := fun X => at_new (by simp) _
        have hcx : ∀ X : List V, (L ++ [X] ++ [[V.mapc none 0 []]] ++ [[V.iter0]])[L.length]? = some X := fun X => by rw [at_app (by simp), at_app (by simp), at_new rfl]
        have hmx : ∀ X : List V, (L ++ [X] ++ [[V.mapc none 0 []]] ++ [[V.iter0]])[L.length + 1]? = some [V.mapc none 0 []] := fun X => by rw [at_app (by simp), at_new (by simp)]
        have hwx : ∀ X : List V, (L ++ [X] ++ [[V.mapc none 0 []]] ++ [[V.iter0]])[w.o]? = L[w.o]? := fun X => by rw [at_app (by simp; omega), at_app (by simp; omega), at_app hlt]
        rw [h1] at hwx
        have hllx : ∀ X : List V, (L ++ [X] ++ [[V.mapc none 0 []]] ++ [[V.iter0]]).length = L.length + 3 := fun X => by simp
        refine awpLoop_intro (α := Unit) (fun q => ⟨[.box w.o 0, .any, nilP, .box L.length 0, .any, .any, .any, .any, .any, .any, .any, .any, .any, .any, .any, .any, .any, .any, .any, .any, .any, .iter (L.length + 2), .any, .any, .any, .any, .any, .any, .any, .any, .any, .any, .any, .any, .any, .any, .any, .any, .any, .any, .any, .any, .any, .any, .any, .any, .any, .any, .any, .any, .any, .any, .any, .any, .any, .any, .any, .any, .any, .any, .any, .any, .any, .any, .any, .any], L ++ [[V.int .i64 M.room, .int .i64 (M.used : Int), nilM, .mref (L.length + 1), V.nils, .bool M.down, .bool M.doomed, .int .i64 lf]] ++ [[V.mapc none 0 []]] ++ [[V.iter0]], T⟩) (fun q => 0) () ?_ ?_ ?_
        · simp (maxSteps:=2000000) only[bitvec_to_nat,seval,↓tcd,leLL_self,nilP,nilM,hc1,hc2]
        · rintro ⟨⟩
          have hlw : w.o < (L ++ [[V.int .i64 M.room, .int .i64 (M.used : Int), nilM, .mref (L.length + 1), V.nils, .bool M.down, .bool M.doomed, .int .i64 lf]] ++ [[V.mapc none 0 []]] ++ [[V.iter0]]).length := by rw [hllx]; omega
          have hcw : L.length < (L ++ [[V.int .i64 M.room, .int .i64 (M.used : Int), nilM, .mref (L.length + 1), V.nils, .bool M.down, .bool M.doomed, .int .i64 lf]] ++ [[V.mapc none 0 []]] ++ [[V.iter0]]).length := by rw [hllx]; omega
          have hiw : L.length + 2 < (L ++ [[V.int .i64 M.room, .int .i64 (M.used : Int), nilM, .mref (L.length + 1), V.nils, .bool M.down, .bool M.doomed, .int .i64 lf]] ++ [[V.mapc none 0 []]] ++ [[V.iter0]]).length := by rw [hllx]; omega
          obtain ⟨LY, hLY⟩ : ∃ x, x = L ++ [[V.int .i64 M.room, .int .i64 (M.used : Int), nilM, .mref (L.length + 1), V.nils, .bool M.down, .bool M.doomed, .int .i64 lf]] ++ [[V.mapc none 0 []]] ++ [[V.iter0]] := ⟨_, rfl⟩
          have y1 : LY[L.length + 2]? = some [V.iter0] := by rw [hLY]; exact hit _
          have y2 : LY[L.length]? = some [V.int .i64 M.room, .int .i64 (M.used : Int), nilM, .mref (L.length + 1), V.nils, .bool M.down, .bool M.doomed, .int .i64 lf] := by rw [hLY]; exact hcx _
          have y3 : ∀ X, (List.set LY L.length X)[w.o]? = LY[w.o]? := fun X => at_other (by omega) X
          have y4 : LY[w.o]? = L[w.o]? := by rw [hLY, hwx, h1]
          have y5 : ∀ X, List.set LY L.length X = L ++ [X] ++ [[V.mapc none 0 []]] ++ [[V.iter0]] := fun X => by rw [hLY]; exact hset _ _
          rw [← hLY] at hlw hcw hiw ⊢
          rw [y4, h1] at y3
          simp only [nilM] at y2
          simp (maxSteps:=2000000) only[bitvec_to_nat,seval,↓tcd,y1,y2,y3,hlw,hcw,hiw,nilP,nilM]
          have hI : CInv M L T n (.raw (.map none)) lf 0 [] M.chs [] (List.set LY L.length [V.int .i64 M.room, .int .i64 (M.used : Int), .raw (.map none), .mref (L.length + 1), .nils, .bool M.down, .bool M.doomed, .int .i64 lf]) T fs none := by
            rw [y5]
            refine ⟨by simp, ((((Step.refl noS noS L T).app _).app _).app _).less (fun _ h => h.elim) (fun k h => by cases h), hcx _, hmx _, ?_, hch0, ?_, hn⟩
            · rw [hkept0]; exact nmap_nil _
            · exact (hfs.less (fun i hi => .inr (by omega))).step ((((Step.refl noS noS L T).app _).app _).app _) (fun i hi => hi.elim)
          obtain ⟨fs2, hfs2⟩ : ∃ x, x = fs := ⟨_, rfl⟩
          obtain ⟨ck3, hck3⟩ : ∃ x : Nat, x = 0 := ⟨_, rfl⟩
          obtain ⟨l3, hl3⟩ : ∃ x : List (MKey × Nat × V), x = [] := ⟨_, rfl⟩
          rw [← hfs2, ← hck3, ← hl3] at hI
          generalize (List.set LY L.length [V.int .i64 M.room, .int .i64 (M.used : Int), .raw (.map none), .mref (L.length + 1), .nils, .bool M.down, .bool M.doomed, .int .i64 lf]) = L2 at hI ⊢
          have c2 := hI.head
          have m2 := hI.map
          have c2l := lt_at c2
          have m2l := lt_at m2
          have hlen2 := hI.step.len
          refine awpLoop_intro (α := Unit) (fun q => ⟨[.box w.o 0, .any, nilP, .box L.length 0, .any, .any, .any, .any, .any, .any, .any, .any, .any, .any, .any, .any, .any, .any, .any, .any, .any, .any, .any, .any, .any, .any, .any, .any, .any, .any, .any, .any, .any, .any, .any, .any, .nils, .int .i64 0, .int .i64 0, .any, .any, .any, .any, .any, .any, .any, .any, .any, .any, .any, .any, .any, .any, .any, .any, .any, .any, .any, .any, .any, .any, .any, .any, .any, .any, .any], L2, T⟩) (fun q => 0) () ?_ ?_ ?_
          · simp (maxSteps:=2000000) only[bitvec_to_nat,seval,↓tcd,leLL_self,nilP]
          · rintro ⟨⟩
            simp (maxSteps:=2000000) only[bitvec_to_nat,seval,↓tcd,c2,m2,c2l,m2l,nilP]
            refine clone_at m2 ?_
            rw [hch0] at c2
            simp only [chsV] at c2
            have fin : ∀ (L3 : LL) (ck : Nat) (l : List (MKey × Nat × V)), Step (fun i => i = L2.length) noS (L2.set L.length [.int .i64 M.room, .int .i64 (M.used : Int), .mref L2.length, .mref (L.length + 1), chsV fs2 none M.chs, .bool M.down, .bool M.doomed, .int .i64 lf] ++ [[V.mapc none ck3 l3]]) T (fun i => i = L2.length) noS L3 T →
                L3[L2.length]? = some [.mapc none ck l] → NMap fs2 l M.now → ∃ v r L' T', V.box L.length 0 = v ∧ (L.length ≤ L'.length ∧ T.length ≤ T'.length) ∧ St.le ⟨[v], L3, T⟩ ⟨[r], L', T'⟩ ∧ K r L' T' := fun L3 ck l g hl hn => by
              obtain ⟨f1, f2, f3⟩ := hI.disk ok h2 g hl hn
              exact ret_of f2 (hK _ _ _ f1 f2 f3)
            simp only [chsV] at fin
            have hnm0 : ∀ X, (L2.set L.length X ++ [[V.mapc none ck3 l3]])[L2.length]? = some [V.mapc none ck3 l3] := fun X => at_new (by simp) _
            have hlo : ∀ X, L.length ≤ (List.set L2 L.length X ++ [[V.mapc none ck3 l3]]).length := fun X => by simp; omega
            simp (maxSteps:=2000000) only[bitvec_to_nat,seval,↓tcd,c2,c2l]
            refine awpLoop_intro (α := Unit) (fun q => ⟨[.any, .any, nilP, .box L.length 0, .any, .any, .any, .any, .any, .any, .any, .any, .any, .any, .any, .any, .any, .any, .any, .any, .any, .any, .any, .any, .any, .any, .any, .any, .any, .any, .any, .any, .any, .any, .any, .any, .any, .any, .any, .any, .any, .any, .any, .any, .any, .any, .any, .any, .any, .any, .any, .any, .any, .any, .any, .nils, .int .i64 0, .int .i64 0, .any, .any, .any, .any, .any, .any, .any, .any], L2.set L.length [.int .i64 M.room, .int .i64 (M.used : Int), .mref L2.length, .mref (L.length + 1), .nils, .bool M.down, .bool M.doomed, .int .i64 lf] ++ [[V.mapc none ck3 l3]], T⟩) (fun q => 0) () ?_ ?_ ?_
            · simp (maxSteps:=2000000) only[bitvec_to_nat,seval,↓tcd,leLL_self,nilP]
            · rintro ⟨⟩
              simp (maxSteps:=2000000) only[bitvec_to_nat,seval,↓tcd,nilP]
              exact fin _ _ _ (Step.refl _ _ _ _) (hnm0 _) (by unfold MD.now; rw [hch0]; exact hI.names)
            · exact fun _ => ⟨hlo _, Nat.le_refl _⟩
          · exact fun _ => ⟨hlen2, Nat.le_refl _⟩
        · exact fun _ => ⟨by show L.length ≤ List.length _; rw [hllx]; omega, Nat.le_refl _⟩
    | some k =>
        rw [htk] at h1
        simp only [chsV, hch0, List.map_nil] at h1
        rw [htk, hch0] at hchs
        simp only [List.length_nil] at hchs
        simp (maxSteps:=2000000) only[bitvec_to_nat,seval,↓tcd,Try.f24,h1,hlt]
        have hset : ∀ X Y : List V, List.set (L ++ [X] ++ [[V.mapc none 0 []]] ++ [[V.iter0]]) L.length Y = L ++ [Y] ++ [[V.mapc none 0 []]] ++ [[V.iter0]] := fun X Y => by
          rw [List.set_append_left _ _ (by simp), List.set_append_left _ _ (by simp), List.set_append_right _ _ (Nat.le_refl _)]
          simp
        have hit : ∀ X : List V, (L ++ [X] ++ [[V.mapc none 0 []]] ++ [[V.iter0]])[L.length + 2]? = some [V.iter0] := fun X => at_new (by simp) _
        have hcx : ∀ X : List V, (L ++ [X] ++ [[V.mapc none 0 []]] ++ [[V.iter0]])[L.length]? = some X := fun X => by rw [at_app (by simp), at_app (by simp), at_new rfl]
        have hmx : ∀ X : List V, (L ++ [X] ++ [[V.mapc none 0 []]] ++ [[V.iter0]])[L.length + 1]? = some [V.mapc none 0 []] := fun X => by rw [at_app (by simp), at_new (by simp)]
        have hwx : ∀ X : List V, (L ++ [X] ++ [[V.mapc none 0 []]] ++ [[V.iter0]])[w.o]? = L[w.o]? := fun X => by rw [at_app (by simp; omega), at_app (by simp; omega), at_app hlt]
        rw [h1] at hwx
        have hllx : ∀ X : List V, (L ++ [X] ++ [[V.mapc none 0 []]] ++ [[V.iter0]]).length = L.length + 3 := fun X => by simp
        refine awpLoop_intro (α := Unit) (fun q => ⟨[.box w.o 0, .any, nilP, .box L.length 0, .any, .any, .any, .any, .any, .any, .any, .any, .any, .any, .any, .any, .any, .any, .any, .any, .any, .iter (L.length + 2), .any, .any, .any, .any, .any, .any, .any, .any, .any, .any, .any, .any, .any, .any, .any, .any, .any, .any, .any, .any, .any, .any, .any, .any, .any, .any, .any, .any, .any, .any, .any, .any, .any, .any, .any, .any, .any, .any, .any, .any, .any, .any, .any, .any], L ++ [[V.int .i64 M.room, .int .i64 (M.used : Int), nilM, .mref (L.length + 1), V.list 3 [] (some k), .bool M.down, .bool M.doomed, .int .i64 lf]] ++ [[V.mapc none 0 []]] ++ [[V.iter0]], T⟩) (fun q => 0) () ?_ ?_ ?_
        · simp (maxSteps:=2000000) only[bitvec_to_nat,seval,↓tcd,leLL_self,nilP,nilM,hc1,hc2]
        · rintro ⟨⟩
          have hlw : w.o < (L ++ [[V.int .i64 M.room, .int .i64 (M.used : Int), nilM, .mref (L.length + 1), V.list 3 [] (some k), .bool M.down, .bool M.doomed, .int .i64 lf]] ++ [[V.mapc none 0 []]] ++ [[V.iter0]]).length := by rw [hllx]; omega
          have hcw : L.length < (L ++ [[V.int .i64 M.room, .int .i64 (M.used : Int), nilM, .mref (L.length + 1), V.list 3 [] (some k), .bool M.down, .bool M.doomed, .int .i64 lf]] ++ [[V.mapc none 0 []]] ++ [[V.iter0]]).length := by rw [hllx]; omega
          have hiw : L.length + 2 < (L ++ [[V.int .i64 M.room, .int .i64 (M.used : Int), nilM, .mref (L.length + 1), V.list 3 [] (some k), .bool M.down, .bool M.doomed, .int .i64 lf]] ++ [[V.mapc none 0 []]] ++ [[V.iter0]]).length := by rw [hllx]; omega
          obtain ⟨LY, hLY⟩ : ∃ x, x = L ++ [[V.int .i64 M.room, .int .i64 (M.used : Int), nilM, .mref (L.length + 1), V.list 3 [] (some k), .bool M.down, .bool M.doomed, .int .i64 lf]] ++ [[V.mapc none 0 []]] ++ [[V.iter0]] := ⟨_, rfl⟩
          have y1 : LY[L.length + 2]? = some [V.iter0] := by rw [hLY]; exact hit _
          have y2 : LY[L.length]? = some [V.int .i64 M.room, .int .i64 (M.used : Int), nilM, .mref (L.length + 1), V.list 3 [] (some k), .bool M.down, .bool M.doomed, .int .i64 lf] := by rw [hLY]; exact hcx _
          have y3 : ∀ X, (List.set LY L.length X)[w.o]? = LY[w.o]? := fun X => at_other (by omega) X
          have y4 : LY[w.o]? = L[w.o]? := by rw [hLY, hwx, h1]
          have y5 : ∀ X, List.set LY L.length X = L ++ [X] ++ [[V.mapc none 0 []]] ++ [[V.iter0]] := fun X => by rw [hLY]; exact hset _ _
          rw [← hLY] at hlw hcw hiw ⊢
          rw [y4, h1] at y3
          simp only [nilM] at y2
          simp (maxSteps:=2000000) only[bitvec_to_nat,seval,↓tcd,y1,y2,y3,hlw,hcw,hiw,nilP,nilM,hchs]
          have hI : CInv M L T n (.raw (.map none)) lf 0 [] M.chs [] (List.set LY L.length [V.int .i64 M.room, .int .i64 (M.used : Int), .raw (.map none), .mref (L.length + 1), .nils, .bool M.down, .bool M.doomed, .int .i64 lf]) T fs none := by
            rw [y5]
            refine ⟨by simp, ((((Step.refl noS noS L T).app _).app _).app _).less (fun _ h => h.elim) (fun k h => by cases h), hcx _, hmx _, ?_, hch0, ?_, hn⟩
            · rw [hkept0]; exact nmap_nil _
            · exact (hfs.less (fun i hi => .inr (by omega))).step ((((Step.refl noS noS L T).app _).app _).app _) (fun i hi => hi.elim)
          obtain ⟨fs2, hfs2⟩ : ∃ x, x = fs := ⟨_, rfl⟩
          obtain ⟨ck3, hck3⟩ : ∃ x : Nat, x = 0 := ⟨_, rfl⟩
          obtain ⟨l3, hl3⟩ : ∃ x : List (MKey × Nat × V), x = [] := ⟨_, rfl⟩
          rw [← hfs2, ← hck3, ← hl3] at hI
          generalize (List.set LY L.length [V.int .i64 M.room, .int .i64 (M.used : Int), .raw (.map none), .mref (L.length + 1), .nils, .bool M.down, .bool M.doomed, .int .i64 lf]) = L2 at hI ⊢
          have c2 := hI.head
          have m2 := hI.map
          have c2l := lt_at c2
          have m2l := lt_at m2
          have hlen2 := hI.step.len
          refine awpLoop_intro (α := Unit) (fun q => ⟨[.box w.o 0, .any, nilP, .box L.length 0, .any, .any, .any, .any, .any, .any, .any, .any, .any, .any, .any, .any, .any, .any, .any, .any, .any, .any, .any, .any, .any, .any, .any, .any, .any, .any, .any, .any, .any, .any, .any, .any, .list 3 [] none, .int .i64 0, .int .i64 0, .any, .any, .any, .any, .any, .any, .any, .any, .any, .any, .any, .any, .any, .any, .any, .any, .any, .any, .any, .any, .any, .any, .any, .any, .any, .any, .any], L2, T⟩) (fun q => 0) () ?_ ?_ ?_
          · simp (maxSteps:=2000000) only[bitvec_to_nat,Nat.reduceAdd,Nat.reduceSub,Nat.reduceMul,Nat.reduceLT,Nat.reduceLeDiff,Nat.reduceEqDiff,Nat.reduceBEq,Nat.reduceBNe,Int.reduceToNat,Int.reduceLE,Int.reduceLT,Int.reduceEq,Int.reduceNe,Int.reduceNeg,Nat.reducePow,Int.reducePow,reduceIte,reduceCtorEq,↓tcd,leLL_self,nilP]
            all_goals rfl
          · rintro ⟨⟩
            simp (maxSteps:=2000000) only[bitvec_to_nat,seval,↓tcd,c2,m2,c2l,m2l,nilP]
            refine clone_at m2 ?_
            rw [hch0] at c2
            simp only [chsV] at c2
            have fin : ∀ (L3 : LL) (ck : Nat) (l : List (MKey × Nat × V)), Step (fun i => i = L2.length) noS (L2.set L.length [.int .i64 M.room, .int .i64 (M.used : Int), .mref L2.length, .mref (L.length + 1), chsV fs2 none M.chs, .bool M.down, .bool M.doomed, .int .i64 lf] ++ [[V.mapc none ck3 l3]]) T (fun i => i = L2.length) noS L3 T →
                L3[L2.length]? = some [.mapc none ck l] → NMap fs2 l M.now → ∃ v r L' T', V.box L.length 0 = v ∧ (L.length ≤ L'.length ∧ T.length ≤ T'.length) ∧ St.le ⟨[v], L3, T⟩ ⟨[r], L', T'⟩ ∧ K r L' T' := fun L3 ck l g hl hn => by
              obtain ⟨f1, f2, f3⟩ := hI.disk ok h2 g hl hn
              exact ret_of f2 (hK _ _ _ f1 f2 f3)
            simp only [chsV] at fin
            have hnm0 : ∀ X, (L2.set L.length X ++ [[V.mapc none ck3 l3]])[L2.length]? = some [V.mapc none ck3 l3] := fun X => at_new (by simp) _
            have hlo : ∀ X, L.length ≤ (List.set L2 L.length X ++ [[V.mapc none ck3 l3]]).length := fun X => by simp; omega
            simp (maxSteps:=2000000) only[bitvec_to_nat,seval,↓tcd,c2,c2l]
            refine awpLoop_intro (α := Unit) (fun q => ⟨[.any, .any, nilP, .box L.length 0, .any, .any, .any, .any, .any, .any, .any, .any, .any, .any, .any, .any, .any, .any, .any, .any, .any, .any, .any, .any, .any, .any, .any, .any, .any, .any, .any, .any, .any, .any, .any, .any, .any, .any, .any, .any, .any, .any, .any, .any, .any, .any, .any, .any, .any, .any, .any, .any, .any, .any, .any, .nils, .int .i64 0, .int .i64 0, .any, .any, .any, .any, .any, .any, .any, .any], L2.set L.length [.int .i64 M.room, .int .i64 (M.used : Int), .mref L2.length, .mref (L.length + 1), .nils, .bool M.down, .bool M.doomed, .int .i64 lf] ++ [[V.mapc none ck3 l3]], T⟩) (fun q => 0) () ?_ ?_ ?_
            · simp (maxSteps:=2000000) only[bitvec_to_nat,seval,↓tcd,leLL_self,nilP]
            · rintro ⟨⟩
              simp (maxSteps:=2000000) only[bitvec_to_nat,seval,↓tcd,nilP]
              exact fin _ _ _ (Step.refl _ _ _ _) (hnm0 _) (by unfold MD.now; rw [hch0]; exact hI.names)
            · exact fun _ => ⟨hlo _, Nat.le_refl _⟩
          · exact fun _ => ⟨hlen2, Nat.le_refl _⟩
        · exact fun _ => ⟨by show L.length ≤ List.length _; rw [hllx]; omega, Nat.le_refl _⟩
  | some ab =>
    obtain ⟨a, b⟩ := ab
    rw [hms] at h1
    simp only [mapV] at h1
    obtain ⟨⟨ck, l, hl, hnm⟩, ck2, l2, hl2, hnm2⟩ := names_at hd hms
    have hltb := lt_at hl2
    simp (maxSteps:=2000000) only[bitvec_to_nat,seval,↓tcd,Try.f24,h1,hlt,hl2,hltb]
    refine awpLoop_intro (α := {q : LL × List Fl × List Nat × Nat × Nat × List (MKey × Nat × V) // Step noS noS L T noS noS q.1 T ∧
        q.1[L.length]? = some [.int .i64 M.room, .int .i64 (M.used : Int), .mref a, .mref (L.length + 1), chsV w.fs w.tk M.chs, .bool M.down, .bool M.doomed, .int .i64 lf] ∧
        q.1[L.length + 1]? = some [.mapc none q.2.2.2.2.1 q.2.2.2.2.2] ∧ NFn q.2.1 q.2.2.2.2.2 (seenN M.kept l2 q.2.2.1) ∧
        q.1[L.length + 2]? = some [.iterc b ck2 q.2.2.1 q.2.2.2.1] ∧ ck2 ≤ q.2.2.2.1 ∧
        FilesAt 5 n (fun i => i = L.length ∨ i = L.length + 1 ∨ i = L.length + 2) q.1 q.2.1 M.files})
      (fun q => ⟨[.box w.o 0, .any, nilP, .box L.length 0, .any, .any, .any, .any, .any, .any, .any, .any, .any, .any, .any, .any, .any, .any, .any, .any, .any, .iter (L.length + 2), .any, .any, .any, .any, .any, .any, .any, .any, .any, .any, .any, .any, .any, .any, .any, .any, .any, .any, .any, .any, .any, .any, .any, .any, .any, .any, .any, .any, .any, .any, .any, .any, .any, .any, .any, .any, .any, .any, .any, .any, .any, .any, .any, .any], q.1.1, T⟩) (fun q => (l2.filter fun e => !q.1.2.2.1.contains e.2.1).length)
      ⟨(L ++ [[.int .i64 M.room, .int .i64 (M.used : Int), .mref a, .mref (L.length + 1), chsV w.fs w.tk M.chs, .bool M.down, .bool M.doomed, .int .i64 lf]] ++ [[.mapc none 0 []]] ++ [[.iterc b ck2 [] ck2]], fs, [], ck2, 0, []), ?_, ?_, ?_, ?_, ?_, ?_, ?_⟩ ?_ ?_ ?_
    · exact (((Step.refl noS noS L T).app _).app _).app _
    · rw [at_app (by simp), at_app (by simp), at_new rfl]
    · rw [at_app (by simp), at_new (by simp)]
    · rw [seenN_nil]; exact NFn.nil _
    · exact at_new (by simp) _
    · exact Nat.le_refl _
    · exact (hfs.less (fun i hi => .inr (by omega))).step ((((Step.refl noS noS L T).app _).app _).app _) (fun i hi => hi.elim)
    · simp (maxSteps:=2000000) only[bitvec_to_nat,seval,↓tcd,leLL_self,nilP,hc1,hc2]
    · rintro ⟨⟨L1, fs1, seen, last, ck3, l3⟩, hst, hc, hmk, hN, hit, hck, hF⟩
      simp only at hst hc hmk hN hit hck hF
      have hb1 : L1[b]? = some [.mapc none ck2 l2] := by rw [hst.keep b hltb (fun h => h)]; exact hl2
      have hcl := lt_at hc
      have hmkl := lt_at hmk
      have hitl := lt_at hit
      have hbl := lt_at hb1
      simp (maxSteps:=2000000) only[bitvec_to_nat,seval,↓tcd,hc,hmk,hit,hb1,hcl,hmkl,hitl,hbl,nilP]
      have hca : ∀ X, (List.set L1 (L.length + 2) X)[L.length]? = L1[L.length]? := fun X => at_other (by omega) X
      have hba : ∀ X, (List.set L1 (L.length + 2) X)[b]? = L1[b]? := fun X => at_other (by omega) X
      rw [hc] at hca
      rw [hb1] at hba
      refine ⟨hck, fun hkn hsn => ⟨fun hall => ?_, fun e he hes => ?_⟩⟩
      · have hN1 := hN.names (seenN_all hnm2 hall)
        have h1' : ∀ X, (List.set L1 L.length X)[w.o]? = L[w.o]? := fun X => by rw [at_other (by omega)]; exact hst.keep _ hlt (fun h => h)
        rw [h1] at h1'
        have hlt1 : w.o < L1.length := by omega
        cases htk : w.tk with
        | none =>
          unfold ChsAt at hchs
          rw [htk] at hchs h1'
          have hch0 : M.chs = [] := hchs
          simp only [chsV] at h1'
          simp (maxSteps:=2000000) only[bitvec_to_nat,seval,↓tcd,h1',hcl,hlt1,nilP]
          have hF0 : FilesAt 5 n (fun i => i = L.length ∨ i = L.length + 1) L1 fs1 M.files := hF.less fun i hi => .inl (by omega)
          have hI : CInv M L T n (.mref a) lf ck3 l3 M.chs [] (List.set L1 L.length [.int .i64 M.room, .int .i64 (M.used : Int), .mref a, .mref (L.length + 1), .nils, .bool M.down, .bool M.doomed, .int .i64 lf]) T fs1 none :=
            ⟨by simp, (hst.set (.inr (Nat.le_refl _)) _).less (fun _ h => h.elim) (fun k h => by cases h), at_set hcl _, by rw [at_other (by omega)]; exact hmk, hN1, hch0, hF0.step (T := T) ((Step.refl (fun i => i = L.length ∨ i = L.length + 1) noS L1 T).set (o := L.length) (.inl (.inl rfl)) _) fun _ h => .inl h, hn⟩
          obtain ⟨fs2, hfs2⟩ : ∃ x, x = fs1 := ⟨_, rfl⟩
          rw [← hfs2] at hI
          generalize (List.set L1 L.length [.int .i64 M.room, .int .i64 (M.used : Int), .mref a, .mref (L.length + 1), .nils, .bool M.down, .bool M.doomed, .int .i64 lf]) = L2 at hI ⊢
          have c2 := hI.head
          have m2 := hI.map
          have c2l := lt_at c2
          have m2l := lt_at m2
          have hlen2 := hI.step.len
          refine awpLoop_intro (α := Unit) (fun q => ⟨[.box w.o 0, .any, nilP, .box L.length 0, .any, .any, .any, .any, .any, .any, .any, .any, .any, .any, .any, .any, .any, .any, .any, .any, .any, .any, .any, .any, .any, .any, .any, .any, .any, .any, .any, .any, .any, .any, .any, .any, .nils, .int .i64 0, .int .i64 0, .any, .any, .any, .any, .any, .any, .any, .any, .any, .any, .any, .any, .any, .any, .any, .any, .any, .any, .any, .any, .any, .any, .any, .any, .any, .any, .any], L2, T⟩) (fun q => 0) () ?_ ?_ ?_
          · simp (maxSteps:=2000000) only[bitvec_to_nat,seval,↓tcd,leLL_self,nilP]
          · rintro ⟨⟩
            simp (maxSteps:=2000000) only[bitvec_to_nat,seval,↓tcd,c2,m2,c2l,m2l,nilP]
            refine clone_at m2 ?_
            rw [hch0] at c2
            simp only [chsV] at c2
            have fin : ∀ (L3 : LL) (ck : Nat) (l : List (MKey × Nat × V)), Step (fun i => i = L2.length) noS (L2.set L.length [.int .i64 M.room, .int .i64 (M.used : Int), .mref L2.length, .mref (L.length + 1), chsV fs2 none M.chs, .bool M.down, .bool M.doomed, .int .i64 lf] ++ [[V.mapc none ck3 l3]]) T (fun i => i = L2.length) noS L3 T →
                L3[L2.length]? = some [.mapc none ck l] → NMap fs2 l M.now → ∃ v r L' T', V.box L.length 0 = v ∧ (L.length ≤ L'.length ∧ T.length ≤ T'.length) ∧ St.le ⟨[v], L3, T⟩ ⟨[r], L', T'⟩ ∧ K r L' T' := fun L3 ck l g hl hn => by
              obtain ⟨f1, f2, f3⟩ := hI.disk ok h2 g hl hn
              exact ret_of f2 (hK _ _ _ f1 f2 f3)
            simp only [chsV] at fin
            have hnm0 : ∀ X, (L2.set L.length X ++ [[V.mapc none ck3 l3]])[L2.length]? = some [V.mapc none ck3 l3] := fun X => at_new (by simp) _
            have hlo : ∀ X, L.length ≤ (List.set L2 L.length X ++ [[V.mapc none ck3 l3]]).length := fun X => by simp; omega
            simp (maxSteps:=2000000) only[bitvec_to_nat,seval,↓tcd,c2,c2l]
            refine awpLoop_intro (α := Unit) (fun q => ⟨[.any, .any, nilP, .box L.length 0, .any, .any, .any, .any, .any, .any, .any, .any, .any, .any, .any, .any, .any, .any, .any, .any, .any, .any, .any, .any, .any, .any, .any, .any, .any, .any, .any, .any, .any, .any, .any, .any, .any, .any, .any, .any, .any, .any, .any, .any, .any, .any, .any, .any, .any, .any, .any, .any, .any, .any, .any, .nils, .int .i64 0, .int .i64 0, .any, .any, .any, .any, .any, .any, .any, .any], L2.set L.length [.int .i64 M.room, .int .i64 (M.used : Int), .mref L2.length, .mref (L.length + 1), .nils, .bool M.down, .bool M.doomed, .int .i64 lf] ++ [[V.mapc none ck3 l3]], T⟩) (fun q => 0) () ?_ ?_ ?_
            · simp (maxSteps:=2000000) only[bitvec_to_nat,seval,↓tcd,leLL_self,nilP]
            · rintro ⟨⟩
              simp (maxSteps:=2000000) only[bitvec_to_nat,seval,↓tcd,nilP]
              exact fin _ _ _ (Step.refl _ _ _ _) (hnm0 _) (by unfold MD.now; rw [hch0]; exact hI.names)
            · exact fun _ => ⟨hlo _, Nat.le_refl _⟩
          · exact fun _ => ⟨hlen2, Nat.le_refl _⟩
        | some k =>
          unfold ChsAt at hchs
          rw [htk] at hchs h1'
          simp only [chsV] at hchs h1'
          simp (maxSteps:=2000000) only[bitvec_to_nat,seval,↓tcd,h1',hcl,hlt1,hchs,nilP,List.length_map]
          have hF0 : FilesAt 5 n (fun i => i = L.length ∨ i = L.length + 1) L1 fs1 M.files := hF.less fun i hi => .inl (by omega)
          refine awpLoop_intro (α := {q : List Chg × List Chg × LL × TT × List Fl × Option Nat // CInv M L T n (.mref a) lf ck3 l3 q.1 q.2.1 q.2.2.1 q.2.2.2.1 q.2.2.2.2.1 q.2.2.2.2.2})
            (fun q => ⟨[.box w.o 0, .any, nilP, .box L.length 0, .any, .any, .any, .any, .any, .any, .any, .any, .any, .any, .any, .any, .any, .any, .any, .any, .any, .any, .any, .any, .any, .any, .any, .any, .any, .any, .any, .any, .any, .any, .any, .any, .list 3 (M.chs.map (chgV w.fs)) none, .int .i64 (M.chs.length : Int), .int .i64 (q.1.1.length : Int), .any, .any, .any, .any, .any, .any, .any, .any, .any, .any, .any, .any, .any, .any, .any, .any, .any, .any, .any, .any, .any, .any, .any, .any, .any, .any, .any], q.1.2.2.1, q.1.2.2.2.1⟩) (fun q => q.1.2.1.length)
            ⟨([], M.chs, List.set L1 L.length [.int .i64 M.room, .int .i64 (M.used : Int), .mref a, .mref (L.length + 1), .nils, .bool M.down, .bool M.doomed, .int .i64 lf], T, fs1, none), rfl, ?_, at_set hcl _, ?_, hN1, rfl, ?_, hn⟩ ?_ ?_ ?_
          · exact (hst.set (.inr (Nat.le_refl _)) _).less (fun _ h => h.elim) (fun k h => by cases h)
          · rw [at_other (by omega)]; exact hmk
          · exact hF0.step (T := T) ((Step.refl (fun i => i = L.length ∨ i = L.length + 1) noS L1 T).set (o := L.length) (.inl (.inl rfl)) _) fun _ h => .inl h
          · simp (maxSteps:=2000000) only[bitvec_to_nat,Nat.reduceAdd,Nat.reduceSub,Nat.reduceMul,Nat.reduceLT,Nat.reduceLeDiff,Nat.reduceEqDiff,Nat.reduceBEq,Nat.reduceBNe,Int.reduceToNat,Int.reduceLE,Int.reduceLT,Int.reduceEq,Int.reduceNe,Int.reduceNeg,Nat.reducePow,Int.reducePow,reduceIte,reduceCtorEq,↓tcd,leLL_self,nilP]
            simp
          · rintro ⟨⟨pre, cs, L2, T2, fs2, tk2⟩, hI⟩
            simp only at hI
            have hpre := hI.split
            have c2 := hI.head
            have m2 := hI.map
            have c2l := lt_at c2
            have m2l := lt_at m2
            cases cs with
            | nil =>
              rw [List.append_nil] at hpre
              subst hpre
              have hdc : decide ((M.chs.length : Int) < (M.chs.length : Int)) = false := decide_eq_false (by omega)
              simp (maxSteps:=2000000) only[bitvec_to_nat,seval,↓tcd,c2,m2,c2l,m2l,hdc,nilP]
              refine clone_at m2 ?_
              have fin : ∀ (L3 : LL) (ck : Nat) (l : List (MKey × Nat × V)), Step (fun i => i = L2.length) noS (L2.set L.length [.int .i64 M.room, .int .i64 (M.used : Int), .mref L2.length, .mref (L.length + 1), chsV fs2 tk2 M.chs, .bool M.down, .bool M.doomed, .int .i64 lf] ++ [[V.mapc none ck3 l3]]) T2 (fun i => i = L2.length) noS L3 T2 →
                  L3[L2.length]? = some [.mapc none ck l] → NMap fs2 l M.now → ∃ v r L' T', V.box L.length 0 = v ∧ (L.length ≤ L'.length ∧ T.length ≤ T'.length) ∧ St.le ⟨[v], L3, T2⟩ ⟨[r], L', T'⟩ ∧ K r L' T' := fun L3 ck l g hl hn => by
                obtain ⟨f1, f2, f3⟩ := hI.disk ok h2 g hl hn
                exact ret_of f2 (hK _ _ _ f1 f2 f3)
              have hnm0 : ∀ X, (L2.set L.length X ++ [[V.mapc none ck3 l3]])[L2.length]? = some [V.mapc none ck3 l3] := fun X => at_new (by simp) _
              have hc0 : ∀ X, (L2.set L.length X ++ [[V.mapc none ck3 l3]])[L.length]? = some X := fun X => by rw [at_app (by simpa using c2l), at_set c2l]
              have hl0 : ∀ X, (List.set L2 L.length X ++ [[V.mapc none ck3 l3]]).length = L2.length + 1 := fun X => by simp
              have hlo : ∀ X, L.length ≤ (List.set L2 L.length X ++ [[V.mapc none ck3 l3]]).length := fun X => by rw [hl0]; omega
              cases tk2 with
              | none =>
                have hch0 : M.chs = [] := hI.row
                simp only [chsV] at c2 fin
                simp (maxSteps:=2000000) only[bitvec_to_nat,seval,↓tcd,c2,c2l]
                refine awpLoop_intro (α := Unit) (fun q => ⟨[.any, .any, nilP, .box L.length 0, .any, .any, .any, .any, .any, .any, .any, .any, .any, .any, .any, .any, .any, .any, .any, .any, .any, .any, .any, .any, .any, .any, .any, .any, .any, .any, .any, .any, .any, .any, .any, .any, .any, .any, .any, .any, .any, .any, .any, .any, .any, .any, .any, .any, .any, .any, .any, .any, .any, .any, .any, .nils, .int .i64 0, .int .i64 0, .any, .any, .any, .any, .any, .any, .any, .any], L2.set L.length [.int .i64 M.room, .int .i64 (M.used : Int), .mref L2.length, .mref (L.length + 1), .nils, .bool M.down, .bool M.doomed, .int .i64 lf] ++ [[V.mapc none ck3 l3]], T2⟩) (fun q => 0) () ?_ ?_ ?_
                · simp (maxSteps:=2000000) only[bitvec_to_nat,seval,↓tcd,leLL_self,nilP]
                · rintro ⟨⟩
                  simp (maxSteps:=2000000) only[bitvec_to_nat,seval,↓tcd,nilP]
                  exact fin _ _ _ (Step.refl _ _ _ _) (hnm0 _) (by unfold MD.now; rw [hch0]; exact hI.names)
                · intro _
                  refine ⟨?_, hI.step.tlen⟩
                  have q1 := hI.step.len
                  simp only [List.length_append, List.length_set, List.length_cons, List.length_nil]
                  show L.length ≤ _
                  omega
              | some kk =>
                simp only [chsV] at c2 fin
                simp (maxSteps:=2000000) only[bitvec_to_nat,seval,↓tcd,c2,c2l,List.length_map]
                refine awpLoop_intro (α := {q : List Chg × List Chg × LL // M.chs = q.1 ++ q.2.1 ∧ Step (fun i => i = L2.length) noS (L2.set L.length [.int .i64 M.room, .int .i64 (M.used : Int), .mref L2.length, .mref (L.length + 1), .list 3 (M.chs.map (chgV fs2)) (some kk), .bool M.down, .bool M.doomed, .int .i64 lf] ++ [[V.mapc none ck3 l3]]) T2 (fun i => i = L2.length) noS q.2.2 T2 ∧
                    ∃ ck l, q.2.2[L2.length]? = some [.mapc none ck l] ∧ NMap fs2 l (play M.kept q.1)})
                  (fun q => ⟨[.any, .any, nilP, .box L.length 0, .any, .any, .any, .any, .any, .any, .any, .any, .any, .any, .any, .any, .any, .any, .any, .any, .any, .any, .any, .any, .any, .any, .any, .any, .any, .any, .any, .any, .any, .any, .any, .any, .any, .any, .any, .any, .any, .any, .any, .any, .any, .any, .any, .any, .any, .any, .any, .any, .any, .any, .any, .list 3 (M.chs.map (chgV fs2)) none, .int .i64 (M.chs.length : Int), .int .i64 (q.1.1.length : Int), .any, .any, .any, .any, .any, .any, .any, .any], q.1.2.2, T2⟩) (fun q => q.1.2.1.length)
                  ⟨([], M.chs, L2.set L.length [.int .i64 M.room, .int .i64 (M.used : Int), .mref L2.length, .mref (L.length + 1), .list 3 (M.chs.map (chgV fs2)) (some kk), .bool M.down, .bool M.doomed, .int .i64 lf] ++ [[V.mapc none ck3 l3]]), rfl, Step.refl _ _ _ _, ck3, l3, hnm0 _, hI.names⟩ ?_ ?_ ?_
                · simp (maxSteps:=2000000) only[bitvec_to_nat,Nat.reduceAdd,Nat.reduceSub,Nat.reduceMul,Nat.reduceLT,Nat.reduceLeDiff,Nat.reduceEqDiff,Nat.reduceBEq,Nat.reduceBNe,Int.reduceToNat,Int.reduceLE,Int.reduceLT,Int.reduceEq,Int.reduceNe,Int.reduceNeg,Nat.reducePow,Int.reducePow,reduceIte,reduceCtorEq,↓tcd,leLL_self,nilP]
                  simp
                · rintro ⟨⟨p3, q3, L3⟩, hp3, hst3, ck4, l4, hn4, hN4⟩
                  simp only at hp3 hst3 hn4 hN4
                  have c3 : L3[L.length]? = some [.int .i64 M.room, .int .i64 (M.used : Int), .mref L2.length, .mref (L.length + 1), .list 3 (M.chs.map (chgV fs2)) (some kk), .bool M.down, .bool M.doomed, .int .i64 lf] := by
                    rw [hst3.keep L.length (by rw [hl0]; omega) (by omega)]; exact hc0 _
                  have c3l := lt_at c3
                  have n4l := lt_at hn4
                  cases q3 with
                  | nil =>
                    rw [List.append_nil] at hp3
                    have hdc3 : decide ((p3.length : Int) < (M.chs.length : Int)) = false := decide_eq_false (by rw [hp3]; omega)
                    simp (maxSteps:=2000000) only[bitvec_to_nat,seval,↓tcd,hdc3,nilP]
                    exact fin L3 ck4 l4 hst3 hn4 (by unfold MD.now; rw [hp3]; exact hN4)
                  | cons c q3 =>
                    have hdc3 : decide ((p3.length : Int) < (M.chs.length : Int)) = true := decide_eq_true (by rw [hp3]; simp; omega)
                    have hgd : (List.map (chgV fs2) M.chs).getD p3.length .any = .agg [.str c.frm, .str c.to, madeV fs2 c] := by
                      rw [hp3, List.map_append, List.getD_eq_getElem?_getD, List.getElem?_append_right (by simp), List.length_map]
                      simp [chgV]
                    have hpl : p3.length ≤ 1099511627776 := by
                      have : p3.length ≤ M.chs.length := by rw [hp3]; simp
                      have := hsm.chs
                      omega
                    have hi : IntKind.i64.wrap ((p3.length : Int) + 1) = ((p3 ++ [c]).length : Int) := by
                      rw [i64w (by omega) (by omega)]; simp
                    simp (maxSteps:=2000000) only[bitvec_to_nat,seval,↓tcd,c3,c3l,hdc3,hgd,nilP,Int.toNat_natCast,List.length_map]
                    refine ⟨⟨by omega, of_decide_eq_true hdc3⟩, ?_⟩
                    unfold onP
                    have hcan : CanAll (play M.kept p3) (c :: q3) := canAll_app (hp3 ▸ ok.can)
                    refine ⟨fs2, c, play M.kept p3, L2.length, ck4, l4, rfl, by rw [at_app n4l]; exact hn4, hN4, hcan.1, fun L5 ck5 l5 hl5 hn5 hst5 => ?_⟩
                    simp (maxSteps:=2000000) only[bitvec_to_nat,seval,↓tcd,nilP]
                    have hst6 := (hst3.app [[V.str c.frm, V.str c.to, madeV fs2 c]]).via hst5 (fun i hi => .inl hi) (fun _ h => .inl h)
                    refine ⟨⟨(p3 ++ [c], q3, L5), by rw [hp3]; simp, hst6, ck5, l5, hl5, by rw [show play M.kept (p3 ++ [c]) = chg (play M.kept p3) c from play_snoc _ _ _]; exact hn5⟩, ?_, by simp⟩
                    simp (maxSteps:=2000000) only[bitvec_to_nat,seval,↓tcd,leLL_self,hi,nilP]
                · exact fun q => ⟨Nat.le_trans (hlo _) q.2.2.1.len, Nat.le_trans hI.step.tlen q.2.2.1.tlen⟩
            | cons c cs =>
              have hdc : decide ((pre.length : Int) < (M.chs.length : Int)) = true := decide_eq_true (by rw [hpre]; simp; omega)
              have hgd : (List.map (chgV w.fs) M.chs).getD pre.length .any = .agg [.str c.frm, .str c.to, madeV w.fs c] := by
                rw [hpre, List.map_append, List.getD_eq_getElem?_getD, List.getElem?_append_right (by simp), List.length_map]
                simp [chgV]
              have hpl : pre.length ≤ 1099511627776 := by
                have : pre.length ≤ M.chs.length := by rw [hpre]; simp
                have := hsm.chs
                omega
              have hi : IntKind.i64.wrap ((pre.length : Int) + 1) = ((pre ++ [c]).length : Int) := by
                rw [i64w (by omega) (by omega)]; simp
              have hlen1 : (L2 ++ [[V.str c.frm, V.str c.to, madeV w.fs c]]).length = L2.length + 1 := by simp
              have c3 : (L2 ++ [[V.str c.frm, V.str c.to, madeV w.fs c]])[L.length]? = some [.int .i64 M.room, .int .i64 (M.used : Int), .mref a, .mref (L.length + 1), chsV fs2 tk2 pre, .bool M.down, .bool M.doomed, .int .i64 lf] := by rw [at_app c2l]; exact c2
              have x3 : (L2 ++ [[V.str c.frm, V.str c.to, madeV w.fs c]])[L2.length]? = some [V.str c.frm, V.str c.to, madeV w.fs c] := at_new rfl _
              have hold : ∀ L4, Step noS noS (L2 ++ [[V.str c.frm, V.str c.to, madeV w.fs c]]) T2 noS noS L4 T2 → L4[L.length]? = some [.int .i64 M.room, .int .i64 (M.used : Int), .mref a, .mref (L.length + 1), chsV fs2 tk2 pre, .bool M.down, .bool M.doomed, .int .i64 lf] ∧ L4[L2.length]? = some [V.str c.frm, V.str c.to, madeV w.fs c] :=
                fun L4 g => ⟨by rw [g.keep _ (by omega) (fun h => h)]; exact c3, by rw [g.keep _ (by omega) (fun h => h)]; exact x3⟩
              have hfile : c.frm = [] → ∃ fa ob, locV w.fs c.file = .box fa 0 ∧ (L2 ++ [[V.str c.frm, V.str c.to, madeV w.fs c]])[fa]? = some [bytesV 5 ob (M.file c.file).1, .int .i64 ((M.file c.file).2 : Int)] ∧ RowAt (L2 ++ [[V.str c.frm, V.str c.to, madeV w.fs c]]) ob (M.file c.file).1 := fun hc0 => by
                obtain ⟨fa, ob, g1, g2, g3, g4, g5⟩ := file_at hd (made_lt ok (c := c) (f := c.file) (by rw [hpre]; simp) (by simp [made, hc0]))
                have hk : ∀ i, i < L.length → (L2 ++ [[V.str c.frm, V.str c.to, madeV w.fs c]])[i]? = L[i]? := fun i hi => by rw [at_app (by omega)]; exact hI.step.keep i hi (fun h => h)
                exact ⟨fa, ob, g2, by rw [hk fa (lt_at g4)]; exact g4, row_keep g5 hk⟩
              cases tk2 with
              | none =>
                simp only [chsV] at c2 c3 hold
                simp (maxSteps:=2000000) only[bitvec_to_nat,seval,↓tcd,c2,m2,c2l,m2l,hdc,hgd,nilP,Int.toNat_natCast,List.length_map]
                refine ⟨⟨by omega, of_decide_eq_true hdc⟩, by kernel_rfl, ?_⟩
                unfold ccloneP
                refine ⟨w.fs, c, rfl, fun hc0 L4 hst4 => ?_, fun hc0 => ?_⟩
                · obtain ⟨c4, x4⟩ := hold L4 hst4
                  have c4l := lt_at c4
                  have x4l := lt_at x4
                  simp (maxSteps:=2000000) only[bitvec_to_nat,seval,↓tcd,c4,c4l,x4,x4l,nilP]
                  have hfin := hI.first hst4 (hI.old hst4 hc0)
                  refine ⟨by decide, ⟨(pre ++ [c], cs, _, _, _, _), hfin⟩, ?_, by simp⟩
                  simp (maxSteps:=2000000) only[bitvec_to_nat,seval,↓tcd,leLL_self,hi,nilP]
                · obtain ⟨fa, ob, k1, k2, k3⟩ := hfile hc0
                  refine ⟨fa, ob, _, _, k1, k2, k3, file_small hsm _, fun x L4 hx hrx hfx hnx hst4 => ?_⟩
                  obtain ⟨c4, x4⟩ := hold L4 hst4
                  have c4l := lt_at c4
                  have x4l := lt_at x4
                  simp (maxSteps:=2000000) only[bitvec_to_nat,seval,↓tcd,c4,c4l,x4,x4l,nilP]
                  have hfin := hI.first hst4 (hI.made ok hst4 hc0 hx hrx hfx hnx)
                  refine ⟨by decide, ⟨(pre ++ [c], cs, _, _, _, _), hfin⟩, ?_, by simp⟩
                  simp (maxSteps:=2000000) only[bitvec_to_nat,seval,↓tcd,leLL_self,hi,nilP]
              | some kk =>
                have hk2 : T2[kk]? = some (pre.length, 88) := hI.row
                simp only [chsV] at c2 c3 hold
                simp (maxSteps:=2000000) only[bitvec_to_nat,seval,↓tcd,c2,m2,c2l,m2l,hdc,hgd,nilP,Int.toNat_natCast,List.length_map]
                refine ⟨⟨by omega, of_decide_eq_true hdc⟩, by kernel_rfl, ?_⟩
                unfold ccloneP
                refine ⟨w.fs, c, rfl, fun hc0 L4 hst4 => ?_, fun hc0 => ?_⟩
                · obtain ⟨c4, x4⟩ := hold L4 hst4
                  have c4l := lt_at c4
                  have x4l := lt_at x4
                  simp (maxSteps:=2000000) only[bitvec_to_nat,seval,↓tcd,c4,c4l,x4,x4l,nilP,hk2,List.length_map]
                  have hfin := hI.next hst4 (hI.old hst4 hc0)
                  refine ⟨by unfold maxBytes; omega, ⟨(pre ++ [c], cs, _, _, _, _), hfin⟩, ?_, by simp⟩
                  simp (maxSteps:=2000000) only[bitvec_to_nat,seval,↓tcd,leLL_self,hi,nilP]
                · obtain ⟨fa, ob, k1, k2, k3⟩ := hfile hc0
                  refine ⟨fa, ob, _, _, k1, k2, k3, file_small hsm _, fun x L4 hx hrx hfx hnx hst4 => ?_⟩
                  obtain ⟨c4, x4⟩ := hold L4 hst4
                  have c4l := lt_at c4
                  have x4l := lt_at x4
                  simp (maxSteps:=2000000) only[bitvec_to_nat,seval,↓tcd,c4,c4l,x4,x4l,nilP,hk2,List.length_map]
                  have hfin := hI.next hst4 (hI.made ok hst4 hc0 hx hrx hfx hnx)
                  refine ⟨by unfold maxBytes; omega, ⟨(pre ++ [c], cs, _, _, _, _), hfin⟩, ?_, by simp⟩
                  simp (maxSteps:=2000000) only[bitvec_to_nat,seval,↓tcd,leLL_self,hi,nilP]
          · exact fun q => ⟨q.2.step.len, q.2.step.tlen⟩
      · obtain ⟨k0, sp, v⟩ := e
        simp only at hes
        obtain ⟨nm, rfl⟩ := hnm2.2.1 k0 (List.mem_map.2 ⟨_, he, rfl⟩)
        have hv := mfind_mem hnm2.1 he
        simp only [hnm2.2.2 nm] at hv
        obtain ⟨f, hf, rfl⟩ := Option.map_eq_some_iff.1 hv
        have hflt : f < M.files.length := ok.lt f (List.mem_append_left _ (List.mem_map.2 ⟨_, nfind_mem hf, rfl⟩))
        obtain ⟨fa, ob, g1, g2, g3, g4, g5⟩ := file_at hd hflt
        have hgl : (seen ++ [sp]).getLast? = some sp := by simp
        have hmst : mstamp l2 sp = some (MKey.str nm, sp, locV w.fs f) := mstamp_mem hsn he
        rw [g2] at hmst
        rw [g2]
        simp (maxSteps:=2000000) only[bitvec_to_nat,seval,↓tcd,hgl,hmst,hba,hca,hcl,hmkl,hitl,hbl,nilP]
        have q0 : (List.set L1 (L.length + 2) [V.iterc b ck2 (seen ++ [sp]) ck2]).length = L1.length := by simp
        have qk : ∀ i, i < L.length → (List.set L1 (L.length + 2) [V.iterc b ck2 (seen ++ [sp]) ck2])[i]? = L[i]? := fun i hi => by rw [at_other (by omega)]; exact hst.keep i hi (fun h => h)
        refine ⟨by kernel_rfl, ?_⟩
        unfold fcloneP
        refine ⟨fa, ob, (M.file f).1, ((M.file f).2 : Int), rfl, by rw [qk fa (lt_at g4)]; exact g4, row_keep g5 qk, file_small hsm f, fun x L2 hx hrx hfx hnx hst2 => ?_⟩
        rw [q0] at hfx
        have hst3 : Step noS noS L T noS noS L2 T := (hst.set (.inr (by omega)) _).via hst2 (fun _ h => .inl h) (fun _ h => .inl h)
        have c2 : L2[L.length]? = some [.int .i64 M.room, .int .i64 (M.used : Int), .mref a, .mref (L.length + 1), chsV w.fs w.tk M.chs, .bool M.down, .bool M.doomed, .int .i64 lf] := by rw [hst2.keep _ (by omega) (fun h => h)]; exact hca _
        have m2 : L2[L.length + 1]? = some [.mapc none ck3 l3] := by rw [hst2.keep _ (by omega) (fun h => h), at_other (by omega)]; exact hmk
        have i2 : L2[L.length + 2]? = some [V.iterc b ck2 (seen ++ [sp]) ck2] := by rw [hst2.keep _ (by omega) (fun h => h)]; exact at_set hitl _
        have c2l := lt_at c2
        have m2l := lt_at m2
        have c3 : ∀ X, (List.set L2 (L.length + 1) X)[L.length]? = L2[L.length]? := fun X => at_other (by omega) X
        rw [c2] at c3
        simp (maxSteps:=2000000) only[bitvec_to_nat,seval,↓tcd,c2,m2,c2l,m2l,c3,nilP]
        have hS : ∀ i, (i = L.length ∨ i = L.length + 1 ∨ i = L.length + 2) → i < L1.length := fun i hi => by omega
        have hF1 := hF.step (T := T) ((Step.refl (fun i => i = L.length ∨ i = L.length + 1 ∨ i = L.length + 2) noS L1 T).set (o := L.length + 2) (.inl (.inr (.inr rfl))) [V.iterc b ck2 (seen ++ [sp]) ck2]) fun _ h => .inl h
        have hF2 := hF1.new (L' := L2) (f := f) (x := x) (fun i hi => hst2.keep i hi (fun h => h)) (file_some hflt) hx hrx (fun i hi => by rw [q0]; exact hfx i hi) hnx (by rw [q0]; omega) (fun i hi => by rw [q0]; exact hS i hi)
        have hF3 := hF2.step (T := T) ((Step.refl (fun i => i = L.length ∨ i = L.length + 1 ∨ i = L.length + 2) noS L2 T).set (o := L.length + 1) (.inl (.inr (.inl rfl))) [V.mapc none (mclock ck3 l3 (MKey.str nm)) (mput ck3 l3 (MKey.str nm) (V.box x.1 0))]) fun _ h => .inl h
        have hN3 := hN.put ck3 nm (f := f) (x := x) (by rw [hF.len]; exact hflt) (seenN_other (kept_once ok) hsn he hes hkn rfl hf)
        refine ⟨⟨(List.set L2 (L.length + 1) [V.mapc none (mclock ck3 l3 (MKey.str nm)) (mput ck3 l3 (MKey.str nm) (V.box x.1 0))], fs1.set f x, seen ++ [sp], ck2, mclock ck3 l3 (MKey.str nm), mput ck3 l3 (MKey.str nm) (V.box x.1 0)),
          hst3.set (.inr (by omega)) _, c3 _, at_set m2l _, ?_, ?_, Nat.le_refl _, hF3⟩, ?_, seen_lt he hes⟩
        · rw [seenN_put hsn hkn he rfl hf]; exact hN3
        · rw [at_other (by omega)]; exact i2
        · simp (maxSteps:=2000000) only[bitvec_to_nat,seval,↓tcd,leLL_self,nilP]
    · exact fun q => ⟨q.2.1.len, q.2.1.tlen⟩
def cloneDP : PM := fun args L T K => ∃ M w, args = [.box w.o 0] ∧ dAt L T M w ∧ Small M ∧ ∀ L' T' w', dAt L' T' M w' → Step noS noS L T w'.S w'.R L' T' → K (.box w'.o 0) L' T'
theorem cloneD_ok : PSound Try.prog 24 cloneDP := by
  refine PSound.ghostIn cloneD0_ok fun args L T K hm => ?_
  obtain ⟨M, w, rfl, hd, hsm, hK⟩ := hm
  have g := (Step.refl noS noS L T).app (gh 5 M.files L.length).1
  refine ⟨(gh 5 M.files L.length).1, M, w, L.length, (gh 5 M.files L.length).2, rfl, hd.frame g (fun _ _ h => h) (fun _ _ h => h), hsm, gh_ok M.files L, hd.lt, g.len, fun L' T' w' hd' hst hS => ?_⟩
  refine hK L' T' w' hd' ⟨Nat.le_trans g.len hst.len, fun i hi hni => ?_, fun i hi => .inr (hS i hi), hst.tlen, hst.tkeep, hst.town⟩
  rw [hst.keep i (Nat.lt_of_lt_of_le hi g.len) (fun h => h), g.keep i hi (fun h => h)]
end Go.Proofs.Ytpncnionnfomeaa.Disk
