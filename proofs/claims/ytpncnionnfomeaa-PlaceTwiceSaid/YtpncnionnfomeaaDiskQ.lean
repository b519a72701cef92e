import Derived.Test.YtpncnionnfomeaaAwX
import Derived.Test.YtpncnionnfomeaaAwU
import Derived.Test.YtpncnionnfomeaaDisk2
import Derived.Test.YtpncnionnfomeaaDiskD
namespace Go.Proofs.Ytpncnionnfomeaa.Disk
open Go Go.Proofs Go.Proofs.Ytpncnionnfomeaa.Aw Go.Proofs.Ytpncnionnfomeaa.Num Go.Proofs.Ytpncnionnfomeaa.DiskM Go.Proofs.Ytpncnionnfomeaa.DiskA Go.Proofs.Ytpncnionnfomeaa.DiskK Go.Proofs.Ytpncnionnfomeaa.DiskC Go.Proofs.Ytpncnionnfomeaa.DiskD
set_option linter.unusedSimpArgs false
set_option linter.unusedVariables false
def Q1 : Fns := { fn := fun f => G0.fn f, mu := fun d => bif d == 7 then .grow else .no, hp := fun f => G0.hp f, ord := fun i => none, it := fun f => G0.it f }
theorem Q1_fn (f : FuncId) : Q1.fn f = (G0.fn f) := rfl
theorem Q1_mu (d : Tmp) : Q1.mu d = (bif d == 7 then .grow else .no) := rfl
theorem Q1_hp (f : FuncId) : Q1.hp f = (G0.hp f) := rfl
theorem Q1_ord (i : Nat) : Q1.ord i = (none) := rfl
theorem Q1_it (f : FuncId) : Q1.it f = (G0.it f) := rfl
theorem Q1_hy (b : Nat) : Q1.hy b = none := rfl
theorem Q1ok : FnsOk Try.prog Q1 := FnsOk.same G0ok rfl rfl
attribute [bitvec_to_nat] Q1_fn Q1_mu Q1_hp Q1_ord Q1_it Q1_hy
def cloneP0 : PM := fun args L T K => ∃ ob b, args = [bytesA 5 ob b] ∧ RowAt L ob b ∧ b.length ≤ 1099511627776 ∧ (b = [] → K .nils L T ∧ K .zero L T) ∧ (b ≠ [] → K (.vrow 5 1 L.length b.length) (L ++ [b.map byteV]) T)
theorem clone0_ok : PSound Try.prog 66 cloneP0 := by
  refine psound tysOk Q1ok mix Try.func66 rfl ?_
  intro args L T K hm
  obtain ⟨ob, b, rfl, hr, hlen, hK0, hK1⟩ := hm
  cases ob with
  | none =>
    have hb : b = [] := hr
    subst hb
    unfold bytesA
    simp (maxSteps:=2000000) only[bitvec_to_nat,seval,↓tcd,Try.f66]
    refine awpMay_intro (fun _ => ?_) (fun _ => ⟨by decide, ?_⟩)
    · exact ret_of (Step.refl noS noS L T) (hK0 rfl).1
    · exact ret_of (Step.refl noS noS L T) (hK0 rfl).2
  | some ob =>
    obtain ⟨cs, hcs, hcs0, hb⟩ := hr
    have hfit : b.length ≤ cs.length := by
      have := congrArg List.length hb
      simp only [List.length_take, List.length_map] at this
      omega
    unfold bytesA
    simp (maxSteps:=2000000) only[bitvec_to_nat,seval,↓tcd,Try.f66,hcs,hb]
    refine awpMay_intro (fun h0 => ?_) (fun _ => ⟨hfit, by unfold maxBytes; omega, fun h0 => ?_, fun h0 => ?_⟩)
    · exact ret_of (Step.refl noS noS L T) (hK0 (List.eq_nil_of_length_eq_zero h0)).1
    · exact ret_of (Step.refl noS noS L T) (hK0 (List.eq_nil_of_length_eq_zero h0)).2
    · exact ret_of ((Step.refl noS noS L T).app [b.map byteV]) (hK1 (fun e => by rw [e] at h0; exact absurd h0 (by decide)))
theorem PSound.empty {P : Program} {f : FuncId} {m m' : PM} (h : PSound P f m)
    (hm : ∀ args L T K, m' args L T K → m args L T fun v L' T' => ∃ G v', K v' (L' ++ G) T' ∧ (v' = v ∨ v = .zero ∧ ∃ em sz g, v' = .vrow em sz g 0)) : PSound P f m' := by
  intro B p0 K L T args vs Kont hM hk hsz hrel
  refine (h B p0 K L T args vs _ hM (hm _ _ _ _ hk) hsz hrel).mono fun e w' ⟨v, K', r, L', T', he, hw, hx, hM', hr, G, v', hk', hv⟩ => ?_
  obtain ⟨K2, w2, x2, M2⟩ := hM'.ghosts G
  refine ⟨v, K2, v', L' ++ G, T', he, w2.trans hw, hx.trans x2, M2, ?_, hk'⟩
  rcases hv with rfl | ⟨rfl, em, sz, g, rfl⟩
  · exact hr.ext x2
  · cases hr with
    | zero A => exact .vrow em sz g 0 A 0 (Nat.le_refl _) (Nat.zero_le _) (.inl ⟨rfl, rfl⟩)
def cloneP2 : PM := fun args L T K => ∃ ob b, args = [bytesA 5 ob b] ∧ RowAt L ob b ∧ b.length ≤ 1099511627776 ∧ ∀ ob' L', RowAt L' ob' b → (∀ r, ob' = some r → L.length ≤ r) → Step noS noS L T noS noS L' T → K (bytesV 5 ob' b) L' T
theorem clone2_ok : PSound Try.prog 66 cloneP2 := by
  refine PSound.empty clone0_ok fun args L T K hm => ?_
  obtain ⟨ob, b, rfl, hr, hlen, hK⟩ := hm
  refine ⟨ob, b, rfl, hr, hlen, fun hb => ⟨⟨[], .nils, ?_, .inl rfl⟩, ⟨[[.any]], .vrow 5 1 L.length 0, ?_, .inr ⟨rfl, _, _, _, rfl⟩⟩⟩, fun hb => ⟨[], _, ?_, .inl rfl⟩⟩
  · subst hb
    rw [List.append_nil]
    exact hK none L rfl (fun r h => by cases h) (Step.refl _ _ _ _)
  · subst hb
    exact hK (some L.length) _ ⟨[.any], at_new rfl _, by simp, rfl⟩ (fun r h => by cases h; exact Nat.le_refl _) ((Step.refl _ _ _ _).app _)
  · rw [List.append_nil]
    exact hK (some L.length) _ ⟨b.map byteV, at_new rfl _, by simpa using hb, List.take_of_length_le (by simp)⟩ (fun r h => by cases h; exact Nat.le_refl _) ((Step.refl _ _ _ _).app _)
def Q2 : Fns := { fn := fun f => G0.fn f, mu := fun d => .no, hp := fun f => if f = 66 then some cloneP2 else G0.hp f, ord := fun i => if i = 1 then some [(0, 0), (1, 0), (2, 0), (3, 3), (5, 0), (6, 0), (7, 0), (8, 3), (4, 1), (9, 0), (10, 1), (11, 0)] else none, it := fun f => G0.it f }
theorem Q2_fn (f : FuncId) : Q2.fn f = (G0.fn f) := rfl
theorem Q2_mu (d : Tmp) : Q2.mu d = (.no) := rfl
theorem Q2_hp (f : FuncId) : Q2.hp f = (if f = 66 then some cloneP2 else G0.hp f) := rfl
theorem Q2_ord (i : Nat) : Q2.ord i = (if i = 1 then some [(0, 0), (1, 0), (2, 0), (3, 3), (5, 0), (6, 0), (7, 0), (8, 3), (4, 1), (9, 0), (10, 1), (11, 0)] else none) := rfl
theorem Q2_it (f : FuncId) : Q2.it f = (G0.it f) := rfl
theorem Q2_hy (b : Nat) : Q2.hy b = none := rfl
theorem Q2ok : FnsOk Try.prog Q2 := FnsOk.same (FnsOk.consP G0ok _ _ clone2_ok Try.func66 (by decide) (fun h => by cases h)) rfl rfl
attribute [bitvec_to_nat] Q2_fn Q2_mu Q2_hp Q2_ord Q2_it Q2_hy
def fcloneP : PM := fun args L T K => ∃ a ob b kept, args = [.box a 0] ∧ L[a]? = some [bytesV 5 ob b, .int .i64 kept] ∧ RowAt L ob b ∧ b.length ≤ 1099511627776 ∧
  ∀ (x : Fl) L', L'[x.1]? = some [bytesV 5 x.2 b, .int .i64 kept] → RowAt L' x.2 b → (∀ i ∈ cellsOf x, L.length ≤ i) → (cellsOf x).Nodup → Step noS noS L T noS noS L' T → K (.box x.1 0) L' T
theorem fclone_ok : PSound Try.prog 55 fcloneP := by
  refine psound tysOk Q2ok mix Try.func55 rfl ?_
  intro args L T K hm
  obtain ⟨a, ob, b, kept, rfl, hl, hr, hlen, hK⟩ := hm
  cases ob with
  | none =>
    simp only [bytesV] at hl
    have hlt := lt_at hl
    simp (maxSteps:=2000000) only[bitvec_to_nat,seval,↓tcd,Try.f55,hl,hlt]
    refine ⟨by kernel_rfl, ?_⟩
    unfold cloneP2
    refine ⟨none, b, rfl, hr, hlen, fun ob' L' hr' hf hst => ?_⟩
    have hl' : L'[a]? = some [.nils, .int .i64 kept] := by rw [hst.keep a hlt (fun h => h)]; exact hl
    have hlt' := lt_at hl'
    cases ob' with
    | none =>
      simp only [bytesV]
      simp (maxSteps:=2000000) only[bitvec_to_nat,seval,↓tcd,hl',hlt']
      refine ret_of (hst.app [[.nils, .int .i64 kept]]) (hK (L'.length, none) _ (at_new rfl _) hr' (fun i hi => ?_) (by simp [cellsOf]) (hst.app _))
      simp only [cellsOf, Option.toList_none, List.mem_cons, List.not_mem_nil, or_false] at hi
      rw [hi]; exact hst.len
    | some r =>
      simp only [bytesV]
      obtain ⟨cs, hcs, h1, h2⟩ := hr'
      have hrl := lt_at hcs
      simp (maxSteps:=2000000) only[bitvec_to_nat,seval,↓tcd,hl',hlt']
      refine ret_of (hst.app [[.vrow 5 1 r b.length, .int .i64 kept]]) (hK (L'.length, some r) _ (at_new rfl _) ⟨cs, by rw [at_app hrl]; exact hcs, h1, h2⟩ (fun i hi => ?_) (by simp [cellsOf]; omega) (hst.app _))
      simp only [cellsOf, Option.toList_some, List.mem_cons, List.not_mem_nil, or_false] at hi
      rcases hi with rfl | rfl
      · exact hst.len
      · exact hf _ rfl
  | some ob =>
    simp only [bytesV] at hl
    have hlt := lt_at hl
    simp (maxSteps:=2000000) only[bitvec_to_nat,seval,↓tcd,Try.f55,hl,hlt]
    refine ⟨by kernel_rfl, ?_⟩
    unfold cloneP2
    refine ⟨some ob, b, rfl, hr, hlen, fun ob' L' hr' hf hst => ?_⟩
    have hl' : L'[a]? = some [.vrow 5 1 ob b.length, .int .i64 kept] := by rw [hst.keep a hlt (fun h => h)]; exact hl
    have hlt' := lt_at hl'
    cases ob' with
    | none =>
      simp only [bytesV]
      simp (maxSteps:=2000000) only[bitvec_to_nat,seval,↓tcd,hl',hlt']
      refine ret_of (hst.app [[.nils, .int .i64 kept]]) (hK (L'.length, none) _ (at_new rfl _) hr' (fun i hi => ?_) (by simp [cellsOf]) (hst.app _))
      simp only [cellsOf, Option.toList_none, List.mem_cons, List.not_mem_nil, or_false] at hi
      rw [hi]; exact hst.len
    | some r =>
      simp only [bytesV]
      obtain ⟨cs, hcs, h1, h2⟩ := hr'
      have hrl := lt_at hcs
      simp (maxSteps:=2000000) only[bitvec_to_nat,seval,↓tcd,hl',hlt']
      refine ret_of (hst.app [[.vrow 5 1 r b.length, .int .i64 kept]]) (hK (L'.length, some r) _ (at_new rfl _) ⟨cs, by rw [at_app hrl]; exact hcs, h1, h2⟩ (fun i hi => ?_) (by simp [cellsOf]; omega) (hst.app _))
      simp only [cellsOf, Option.toList_some, List.mem_cons, List.not_mem_nil, or_false] at hi
      rcases hi with rfl | rfl
      · exact hst.len
      · exact hf _ rfl
theorem rowAt_app {L : LL} {ob : Option Nat} {b : List UInt8} (h : RowAt L ob b) (X : LL) : RowAt (L ++ X) ob b := by
  unfold RowAt at h ⊢
  split at h
  · exact h
  · obtain ⟨cs, h1, h2⟩ := h
    exact ⟨cs, at_more h1, h2⟩
def Q3 : Fns := { fn := fun f => G0.fn f, mu := fun d => .no, hp := fun f => if f = 55 then some fcloneP else G0.hp f, ord := fun i => none, it := fun f => G0.it f }
theorem Q3_fn (f : FuncId) : Q3.fn f = (G0.fn f) := rfl
theorem Q3_mu (d : Tmp) : Q3.mu d = (.no) := rfl
theorem Q3_hp (f : FuncId) : Q3.hp f = (if f = 55 then some fcloneP else G0.hp f) := rfl
theorem Q3_ord (i : Nat) : Q3.ord i = (none) := rfl
theorem Q3_it (f : FuncId) : Q3.it f = (G0.it f) := rfl
theorem Q3_hy (b : Nat) : Q3.hy b = none := rfl
theorem Q3ok : FnsOk Try.prog Q3 := FnsOk.same (FnsOk.consP G0ok _ _ fclone_ok Try.func55 (by decide) (fun h => by cases h)) rfl rfl
attribute [bitvec_to_nat] Q3_fn Q3_mu Q3_hp Q3_ord Q3_it Q3_hy
def ccloneP : PM := fun args L T K => ∃ fs c, args = [chgV fs c] ∧
  (c.frm ≠ [] → ∀ L', Step noS noS L T noS noS L' T → K (.agg [.str c.frm, .str c.to, nilP]) L' T) ∧
  (c.frm = [] → ∃ a ob b kept, locV fs c.file = .box a 0 ∧ L[a]? = some [bytesV 5 ob b, .int .i64 kept] ∧ RowAt L ob b ∧ b.length ≤ 1099511627776 ∧
    ∀ (x : Fl) L', L'[x.1]? = some [bytesV 5 x.2 b, .int .i64 kept] → RowAt L' x.2 b → (∀ i ∈ cellsOf x, L.length ≤ i) → (cellsOf x).Nodup → Step noS noS L T noS noS L' T → K (.agg [.str c.frm, .str c.to, .box x.1 0]) L' T)
theorem cclone_ok : PSound Try.prog 56 ccloneP := by
  refine psound tysOk Q3ok mix Try.func56 rfl ?_
  intro args L T K hm
  obtain ⟨fs, c, rfl, h0, h1⟩ := hm
  unfold chgV madeV
  by_cases hc : c.frm = []
  · obtain ⟨a, ob, b, kept, e, hl, hr, hlen, hK⟩ := h1 hc
    rw [if_pos hc, e]
    simp (maxSteps:=2000000) only[bitvec_to_nat,seval,↓tcd,Try.f56]
    refine ⟨a, ob, b, kept, rfl, at_more (at_more hl), rowAt_app (rowAt_app hr _) _, hlen, fun x L' hx hrx hfx hnx hst => ?_⟩
    have hlen2 : (L ++ [[V.str c.frm, V.str c.to, V.box a 0]] ++ [[V.str [], V.str [], V.raw (Value.pointer none)]]).length = L.length + 2 := by simp
    have k1 : L'[L.length]? = some [.str c.frm, .str c.to, .box a 0] := by
      rw [hst.keep L.length (by rw [hlen2]; omega) (fun h => h), at_app (by simp), at_new rfl]
    have k2 : L'[L.length + 1]? = some [V.str [], V.str [], V.raw (Value.pointer none)] := by
      rw [hst.keep (L.length + 1) (by rw [hlen2]; omega) (fun h => h), at_new (by simp)]
    have l1 := lt_at k1
    have l2 := lt_at k2
    have e1 : (L ++ [[V.str c.frm, V.str c.to, V.box a 0]]).length = L.length + 1 := by simp
    have k3 : ∀ X, (List.set L' L.length X)[L.length + 1]? = some [V.str [], V.str [], V.raw (Value.pointer none)] := fun X => by rw [at_other (by omega)]; exact k2
    have hne : ∀ i ∈ cellsOf x, L.length ≠ i ∧ L.length + 1 ≠ i := fun i hi => by have := hfx i hi; omega
    simp (maxSteps:=2000000) only[bitvec_to_nat,seval,↓tcd,k1,k3,l1,l2,e1]
    have hs0 : Step noS noS L T noS noS L' T := ((Step.refl noS noS L T).app ([[V.str c.frm, V.str c.to, V.box a 0]] ++ [[V.str [], V.str [], V.raw (Value.pointer none)]])).via (by rw [← List.append_assoc]; exact hst) (fun _ h => .inl h) (fun _ h => .inl h)
    have hs1 := (hs0.set (.inr (Nat.le_refl L.length)) [V.str c.frm, V.str c.to, V.box x.1 0]).set (.inr (Nat.le_succ L.length)) [V.str c.frm, V.str c.to, V.box x.1 0]
    have hx0 := hne x.1 (by simp [cellsOf])
    refine ret_of hs1 (hK x _ (by rw [at_other hx0.2, at_other hx0.1]; exact hx) ?_ (fun i hi => by have := hfx i hi; omega) hnx hs1)
    unfold RowAt at hrx ⊢
    split
    · rename_i ho; rw [ho] at hrx; exact hrx
    · rename_i r ho
      rw [ho] at hrx
      have hr0 := hne r (by simp [cellsOf, ho])
      rw [at_other hr0.2, at_other hr0.1]
      exact hrx
  · have hK := h0 hc
    rw [if_neg hc]
    simp (maxSteps:=2000000) only[bitvec_to_nat,seval,↓tcd,Try.f56,nilP]
    have hs1 := ((Step.refl noS noS L T).app [[V.str c.frm, V.str c.to, V.raw (Value.pointer none)]]).app [[V.str c.frm, V.str c.to, V.raw (Value.pointer none)]]
    exact ret_of hs1 (hK _ hs1)
end Go.Proofs.Ytpncnionnfomeaa.Disk
