import Derived.Test.YtckmcglkjfkghaaDoorAwX
import Derived.Test.YtckmcglkjfkghaaDoorEdge2
import Derived.Test.YtckmcglkjfkghaaDoorConvP
import Derived.Shelf.Strconv.AppendUint10
import Derived.Lib.ItoaNum
import Derived.Lib.LaidTab
import Derived.Lib.Walk
import Derived.WalkKit
import Derived.BigCall
namespace Go.Proofs.YtckmcglkjfkghaaDoor.Edge
open Go Go.Proofs Go.Proofs.YtckmcglkjfkghaaDoor.Aw Go.Proofs.YtckmcglkjfkghaaDoor.Num Go.Proofs.YtckmcglkjfkghaaDoor.VaryM Go.Proofs.YtckmcglkjfkghaaDoor.LineM Go.Proofs.YtckmcglkjfkghaaDoor.EdgeM Go.RowKit Go.Shelf
open Go.Proofs.YtckmcglkjfkghaaDoor.Vary (fixM fixF unfixM unfixF)
open Go.Proofs.YtckmcglkjfkghaaDoor.Line (cloneM wordsM)
set_option linter.unusedSimpArgs false
set_option linter.unusedVariables false
theorem dec_eq (n : Nat) : Lib.decDigits n = decF n := by
  induction n using Nat.strongRecOn with
  | _ n ih =>
    rw [Lib.decDigits, decF]
    split
    · rfl
    · rw [ih (n / 10) (by omega)]
theorem tab10 {w : World} (h : Tabs Tryd.prog w) : Lib.TabIs Tryd.prog w "internal/strconv.uint64pow10" .u64 Lib.pow10Tab := by
  have := h ("internal/strconv.uint64pow10", .u64, Lib.pow10Tab) (by unfold tabs Lib.pow10Tab; decide)
  exact this
theorem row_bytes {B : World} {p0 : Bs} {K : Kw} {L : LL} {T : TT} (hm : Mem Tryd.prog B p0 K L T) {w' : World} (hB : Below K.w.heap.size K.w w') {v : Value} {ds : List UInt8} {e : TypeId} (hrow : w'.ownsRow K.w.heap.size e 1 v ds.length (Lib.byteCells ds)) :
    ∃ K', K'.w = w' ∧ Ext K K' ∧ Mem Tryd.prog B p0 K' L T ∧ Rel K' (.bytes ds none) v := by
  obtain ⟨he, hm'⟩ := hm.grow (q := fun b o => K.w.heap.size ≤ b ∧ b < w'.heap.size) hB (fun b o h => h)
  refine ⟨_, rfl, he, hm', ?_⟩
  obtain ⟨h1, h2⟩ := hrow
  rcases h2 with ⟨rfl, hz⟩ | ⟨g, cap, cur, rfl, hg, hh, hc, hcm, hsz, hcur⟩
  · have : ds = [] := List.eq_nil_of_length_eq_zero hz
    subst this
    exact .bytes [] none none 0 (by simp) (by simp) (by simp) trivial
  · have hcell : ∀ j (hj : j < ds.length), cur[j]? = some (.int .u8 (ds[j].toNat : Nat)) := fun j hj => by
      have := congrArg (·[j]?) hcur
      simp only [Nat.mul_one, Lib.byteCells, List.getElem?_map] at this
      rw [List.getElem?_take_of_lt hj, List.getElem?_eq_getElem hj] at this
      simpa using this
    have hgl : g < w'.heap.size := by
      obtain ⟨hl, _⟩ := Array.getElem?_eq_some_iff.1 hh
      exact hl
    refine .bytes ds none (some ⟨g, 0, none⟩) cap hc hcm (fun j hj => ⟨_, rfl, ?_⟩) trivial
    have hcl : w'.cell? ⟨g, j, none⟩ = some (.int .u8 (ds[j].toNat : Nat)) := by
      simp only [World.cell?, hh]
      rw [if_neg (by simp), hcell j hj]
    rw [show (⟨g, 0, none⟩ : Addr).add j = ⟨g, j, none⟩ by unfold Addr.add; split; (rename_i h; subst h; rfl); simp]
    exact ⟨.inr ⟨hg, hgl⟩, hcl⟩
theorem rel_opt {K : Kw} {o : Option (List UInt8)} {v : Value} (h : Rel K (optV o) v) : ∃ A c, v = .tuple #[.slice A (o.getD []).length c, .bool o.isSome] ∧ Rel K (.bytes (o.getD []) none) (.slice A (o.getD []).length c) := by
  cases h with
  | tuple l vs hl hj =>
  have h0 := hj 0 (by simp)
  have h1 := hj 1 (by simp)
  simp only [List.getElem_cons_zero, List.getElem_cons_succ] at h0 h1
  have h2 : vs.size = 2 := hl
  obtain ⟨x, y, rfl⟩ : ∃ x y, vs = #[x, y] := ⟨vs[0], vs[1], by apply Array.ext; simp [h2]; intro i h3 h4; simp at h4; match i with | 0 => rfl | 1 => rfl⟩
  simp only [List.getElem_toArray, List.getElem_cons_zero, List.getElem_cons_succ] at h0 h1
  cases h1
  have h0' := h0
  cases h0' with
  | bytes l t A c hc hm hr ht => exact ⟨A, c, rfl, h0⟩
theorem opt_rel {K : Kw} {o : Option (List UInt8)} {u : Value} (h : Rel K (.bytes (o.getD []) none) u) : Rel K (optV o) (.tuple #[u, .bool o.isSome]) :=
  .tuple _ #[u, .bool o.isSome] rfl fun j hj => by
    match j, hj with
    | 0, _ => exact h
    | 1, _ => exact .bool _
theorem rel_unfix {K : Kw} {n : Nat} {l : List UInt8} {k : Int} {v : Value} (h : Rel K (.tuple [.int .u64 (n : Int), .bytes l none, .int .i64 k]) v) : ∃ A c, v = .tuple #[.int .u64 n, .slice A l.length c, .int .i64 k] := by
  cases h with
  | tuple _ vs hl hj =>
  have h0 := hj 0 (by simp)
  have h1 := hj 1 (by simp)
  have h2' := hj 2 (by simp)
  simp only [List.getElem_cons_zero, List.getElem_cons_succ] at h0 h1 h2'
  have h2 : vs.size = 3 := hl
  obtain ⟨x, y, z, rfl⟩ : ∃ x y z, vs = #[x, y, z] := ⟨vs[0], vs[1], vs[2], by apply Array.ext; simp [h2]; intro i h3 h4; simp at h4; match i with | 0 => rfl | 1 => rfl | 2 => rfl⟩
  simp only [List.getElem_toArray, List.getElem_cons_zero, List.getElem_cons_succ] at h0 h1 h2'
  cases h0
  cases h2'
  cases h1 with
  | bytes l t A c hc hm hr ht => exact ⟨A, c, rfl⟩
theorem add0 (g j : Nat) : (⟨g, 0, none⟩ : Addr).add j = ⟨g, j, none⟩ := by
  unfold Addr.add
  split
  · rename_i h; subst h; rfl
  · simp
theorem appU (w : World) (htt : Tabs Tryd.prog w) (n : Nat) (hn : n < 18446744073709551616) :
    Calls Tryd.prog 19 #[.slice none 0 0, .int .u64 n, .int .i64 10] w fun e w' => ∃ v, e = .returned v ∧ w'.ownsRow w.heap.size 5 1 v (decF n).length (Lib.byteCells (decF n)) ∧ Below w.heap.size w w' := by
  have hown : w.ownsRow w.heap.size 5 1 (.slice none 0 0) 0 [] := ⟨rfl, .inl ⟨rfl, rfl⟩⟩
  have hc : Calls Tryd.prog 26 #[.slice none 0 0, .int .u64 n, .int .i64 10] w fun e w' => ∃ v, e = .returned v ∧ w'.ownsRow w.heap.size 5 1 v (decF n).length (Lib.byteCells (decF n)) ∧ Below w.heap.size w w' := by
    by_cases h : n < 100
    · refine (Any.internal_strconv_AppendUint_10_small Tryd.dAppU w.heap.size 0 n h _ [] w hown (Nat.le_refl _) (by omega)).mono ?_
      rintro e w' ⟨v, rfl, h1, h2, _⟩
      rw [dec_eq, Nat.zero_add, List.nil_append] at h1
      exact ⟨v, rfl, h1, h2⟩
    · refine (Any.internal_strconv_AppendUint_10_big Tryd.dAppU w.heap.size 0 n (by omega) hn _ [] w hown (Nat.le_refl _) (by omega) (tab10 htt)).mono ?_
      rintro e w' ⟨v, rfl, h1, h2, _⟩
      rw [dec_eq, Nat.zero_add, List.nil_append] at h1
      exact ⟨v, rfl, h1, h2⟩
  go_enter Tryd.func19, Tryd.ntmps19
  go_wp2_with (go_at_call 26; refine hc.mono ?_; rintro e w' ⟨v, rfl, h1, h2⟩)
  go_ret
  exact ⟨v, rfl, h1, h2⟩
theorem unfix_lt (b : List UInt8) : (unfixF b 4).1 < 18446744073709551616 := by
  unfold unfixF
  rw [if_pos (by omega)]
  split
  · decide
  · have := beVal_lt (b.take (4 : Int).toNat) 0
    have h2 : (b.take (4 : Int).toNat).length ≤ 4 := by rw [List.length_take]; exact Nat.min_le_left _ _
    have h3 : 256 ^ (b.take (4 : Int).toNat).length ≤ 256 ^ 4 := Nat.pow_le_pow_right (by omega) h2
    simp only
    omega
theorem unfix4 (b : List UInt8) : unfixF b 4 = if b.length < 4 then (0, [], 5) else (beVal 0 (b.take 4), b.drop 4, 0) := by
  unfold unfixF
  rw [if_pos (by omega)]
  by_cases h : b.length < 4
  · rw [if_pos (by omega), if_pos h]
  · rw [if_neg (by omega), if_neg h]; rfl
theorem nil_rel {K : Kw} : Rel K (.bytes ((none : Option (List UInt8)).getD []) none) (.slice none 0 0) := .bytes [] none none 0 (by simp) (by simp) (by simp) trivial
def textM : FM
  | [.bytes b _, .bool num] => some (b.length ≤ 549755813888, optV (textF b num), [])
  | _ => none
set_option maxHeartbeats 4000000 in
set_option maxRecDepth 100000 in
theorem text_ok : FSound Tryd.prog 9 textM := by
  intro w prot args vs p r fr htt hth hm hp hsz hrel
  unfold textM at hm
  split at hm
  · rename_i b t num
    cases hm
    obtain ⟨x, y, rfl⟩ : ∃ x y, vs = #[x, y] := by
      have h2 : vs.size = 2 := hsz
      exact ⟨vs[0], vs[1], by apply Array.ext; simp [h2]; intro i h3 h4; simp at h4; match i with | 0 => rfl | 1 => rfl⟩
    have r0 := hrel 0 (by simp) (by simp)
    have r1 := hrel 1 (by simp) (by simp)
    simp only [List.getElem_cons_zero, List.getElem_cons_succ, List.getElem_toArray] at r0 r1
    cases r1
    have hmem0 : Mem Tryd.prog w (Bs.pure w prot) ⟨w, prot, [], []⟩ [] [] := ⟨Below.refl _ _, fun _ _ _ => Iff.rfl, hth, ⟨rfl, fun o cs h => (by simp at h)⟩, fun b hb => (by cases hb), fun o b cs h => (by simp at h), fun o o' b h => (by simp at h), rfl, fun k v n e h => (by simp at h), fun k k' t t' b h => (by simp at h), fun k t b h => (by simp at h), keeps_pure _ _ _, htt⟩
    cases num
    · have hpl := plain_ok w prot [.bytes b t] #[x] _ _ _ htt hth rfl (show b.length ≤ 1099511627776 by omega) rfl (fun j h h' => by
        rcases j with _ | j
        · exact r0
        · exact absurd h (by simp))
      go_enter Tryd.func9, Tryd.ntmps9
      go_wp2_with (go_at_call 14; refine hpl.mono ?_; rintro e w' ⟨v, K', rfl, hw, hmem, hr⟩; obtain ⟨A, c, rfl, hu⟩ := rel_opt hr)
      go_ret2
      exact ⟨_, K', rfl, hw, hmem, opt_rel hu⟩
    · have hun := Vary.unfix_ok w prot [.bytes b t, .int .i64 4] #[x, .int .i64 4] _ _ _ htt hth rfl (show b.length ≤ 549755813888 by omega) rfl (fun j h h' => by
        rcases j with _ | _ | j
        · exact r0
        · exact .int _ _
        · exact absurd h (by simp))
      go_enter Tryd.func9, Tryd.ntmps9
      go_wp2_with (first
        | (go_at_call 18; refine hun.mono ?_; rintro e w' ⟨v, K', rfl, hw, hmem, hr⟩; obtain ⟨A, c, rfl⟩ := rel_unfix hr)
        | (go_at_call 19; refine (appU _ (hw ▸ hmem.tabsK) _ (unfix_lt b)).mono ?_; rintro e w2 ⟨v, rfl, hrow, hbel⟩))
      · rename_i h1 h2
        go_ret2
        have ht : textF b true = none := by
          rw [unfix4] at h2
          unfold textF
          rw [if_pos rfl, if_neg]
          intro e
          split at h2
          · simp at h2
          · simp only [List.length_drop] at h2; omega
        rw [ht]
        exact ⟨_, K', rfl, hw, hmem, opt_rel (o := none) nil_rel⟩
      · rename_i h1 h2
        go_ret2
        subst hw
        have ht : textF b true = some (decF (unfixF b 4).1) := by
          rw [unfix4] at h1 h2 ⊢
          unfold textF
          split at h1
          · simp at h1
          · rename_i h4
            rw [if_neg h4] at h2
            simp only [List.length_drop] at h2
            rw [if_pos rfl, if_pos (by omega), if_neg h4, List.take_of_length_le (by omega)]
        obtain ⟨K2, hw2, he2, hm2, hr2⟩ := row_bytes hmem hbel hrow
        rw [ht]
        exact ⟨_, K2, rfl, hw2, hm2, opt_rel (o := some _) hr2⟩
      · rename_i h1
        go_ret2
        have ht : textF b true = none := by
          rw [unfix4] at h1
          unfold textF
          rw [if_pos rfl, if_neg]
          intro e
          rw [if_neg (by omega)] at h1
          exact h1 rfl
        rw [ht]
        exact ⟨_, K', rfl, hw, hmem, opt_rel (o := none) nil_rel⟩
  · cases hm
def rdigM (k : Nat) : FM
  | [.int .u64 n] => some (0 ≤ n ∧ n < k, .bytes (decF n.toNat) (some 0), [((decF n.toNat).length, 5)])
  | _ => none
def Gr (k : Nat) : Fns := { fn := fun f => if f = 21 then some (rdigM k) else G2.fn f, mu := fun d => .no, hp := fun f => G2.hp f, ord := fun i => none, it := fun f => G2.it f }
theorem Gr_fn (k : Nat) (f : FuncId) : (Gr k).fn f = (if f = 21 then some (rdigM k) else G2.fn f) := rfl
theorem Gr_mu (k : Nat) (d : Tmp) : (Gr k).mu d = .no := rfl
theorem Gr_hp (k : Nat) (f : FuncId) : (Gr k).hp f = G2.hp f := rfl
theorem Gr_ord (k i : Nat) : (Gr k).ord i = none := rfl
theorem Gr_it (k : Nat) (f : FuncId) : (Gr k).it f = G2.it f := rfl
theorem Gr_hy (k b : Nat) : (Gr k).hy b = none := rfl
attribute [bitvec_to_nat] Gr_fn Gr_mu Gr_hp Gr_ord Gr_it Gr_hy
theorem rdig_step (k : Nat) (hk : k ≤ 4294967295) (h : FSound Tryd.prog 21 (rdigM k)) : FSound Tryd.prog 21 (rdigM (k + 1)) := by
  have hG : FnsOk Tryd.prog (Gr k) := FnsOk.same (FnsOk.cons G2ok _ _ h Tryd.func21 (by decide) (fun h => by cases h)) rfl rfl
  refine fsound tysOk hG mix Tryd.func21 rfl ?_
  intro args p r fr hm hp
  unfold rdigM at hm
  split at hm
  · rename_i n
    cases hm
    obtain ⟨h0, h1⟩ := hp
    obtain ⟨n, rfl⟩ := Int.eq_ofNat_of_zero_le h0
    simp (maxSteps:=2000000) only[bitvec_to_nat,seval,↓tcd,Tryd.f21,rdigM,Int.toNat_natCast]
    have hq : IntKind.u64.wrap ((n : Int).tdiv 10) = ((n / 10 : Nat) : Int) := by rw [Int.tdiv_eq_ediv_of_nonneg (by omega), u64w (by omega) (by omega)]; omega
    have hr : IntKind.u64.wrap (48 + (n : Int).tmod 10) = 48 + ((n % 10 : Nat) : Int) := by rw [Int.tmod_eq_emod_of_nonneg (by omega), u64w (by omega) (by omega)]; omega
    rw [hq, hr, Int.toNat_natCast, u8of _ (by omega)]
    refine awpIf_intro (fun h => ?_) (fun h => ?_) <;> simp only [decide_eq_true_eq, decide_eq_false_iff_not] at h
    · rw [u64w (by omega) (by omega), u8of _ (by omega), decF_small (by omega)]
      exact ⟨u8wrap_in _, 0, rfl, rfl, rfl⟩
    · have hl := decF_len 9 (n / 10) (by omega)
      rw [decF_big (n := n) (by omega)]
      exact ⟨⟨by omega, by omega⟩, u8wrap_in _, mb _ (by omega), 0, rfl, rfl, rfl⟩
  · cases hm
theorem rdig_all : ∀ k, k ≤ 4294967296 → FSound Tryd.prog 21 (rdigM k)
  | 0, _ => by
    intro w prot args vs p r fr htt hth hm hp hsz hrel
    unfold rdigM at hm
    split at hm
    · cases hm
      exact absurd hp.2 (by omega)
    · cases hm
  | k + 1, h => rdig_step k (by omega) (rdig_all k (by omega))
abbrev rdigAllM : FM := rdigM 4294967296
theorem rdig_ok : FSound Tryd.prog 21 rdigAllM := rdig_all _ (Nat.le_refl _)
def G2r : Fns := { fn := fun f => if f = 8 then some rlabelM else if f = 21 then some rdigAllM else if f = 20 then some unfixM else G2.fn f, mu := fun d => .no, hp := fun f => G2.hp f, ord := fun i => none, it := fun f => G2.it f }
theorem G2r_fn (f : FuncId) : G2r.fn f = (if f = 8 then some rlabelM else if f = 21 then some rdigAllM else if f = 20 then some unfixM else G2.fn f) := rfl
theorem G2r_mu (d : Tmp) : G2r.mu d = (.no) := rfl
theorem G2r_hp (f : FuncId) : G2r.hp f = (G2.hp f) := rfl
theorem G2r_ord (i : Nat) : G2r.ord i = (none) := rfl
theorem G2r_it (f : FuncId) : G2r.it f = (G2.it f) := rfl
theorem G2r_hy (b : Nat) : G2r.hy b = none := rfl
theorem G2rok : FnsOk Tryd.prog G2r := FnsOk.same (FnsOk.cons (FnsOk.cons (FnsOk.cons G2ok _ _ Vary.runfix_ok Tryd.func20 (by decide) (fun h => by cases h)) _ _ rdig_ok Tryd.func21 (by decide) (fun h => by cases h)) _ _ rlabel_ok Tryd.func8 (by decide) (fun h => by cases h)) rfl rfl
attribute [bitvec_to_nat] G2r_fn G2r_mu G2r_hp G2r_ord G2r_it G2r_hy
theorem rtext_ok : FSound Tryd.prog 10 textM := by
  refine fsoundV tysOk G2rok mix Tryd.func10 rfl ?_
  intro args p r fr hm hp
  unfold textM at hm
  split at hm
  · rename_i b t num
    cases hm
    refine ⟨rfl, ?_⟩
    simp (maxSteps:=2000000) only[bitvec_to_nat,seval,↓tcd,Tryd.f10,rlabelM,rdigAllM,rdigM,unfixM,optV,retPostV,Int.toNat_natCast]
    refine awpIf_intro (fun hn => ?_) (fun hn => ?_)
    · subst hn
      refine ⟨hp, ?_⟩
      have hlt4 : b.length = 4 → (unfixF b 4).1 < 4294967296 := fun e => by
        rw [unfix4, if_neg (by omega)]
        exact beVal4_lt (by rw [List.length_take]; omega)
      have no : ¬ b.length = 4 → textF b true = none := fun e => by unfold textF; rw [if_pos rfl, if_neg e]
      refine awpIf_intro (fun h => awpIf_intro (fun h2 => ?_) (fun h2 => ?_)) (fun h => ?_) <;> simp only [decide_eq_true_eq, decide_eq_false_iff_not] at h
      · simp only [decide_eq_true_eq] at h2
        have h4 : b.length = 4 := by omega
        have := hlt4 h4
        have ht : textF b true = some (decF (unfixF b 4).1) := by
          unfold textF
          rw [if_pos rfl, if_pos h4, unfix4, if_neg (by omega), List.take_of_length_le (by omega)]
        rw [ht]
        exact ⟨⟨by omega, by omega⟩, retV_opt rfl⟩
      · simp only [decide_eq_false_iff_not] at h2
        rw [no (by omega)]
        exact retV_none rfl
      · rw [no (fun e => h (by rw [unfix4, if_neg (by omega)]))]
        exact retV_none rfl
    · subst hn
      have e : textF b false = labelF b false := by unfold textF labelF; rfl
      rw [e]
      exact ⟨hp, retV_bytes, retV_bool, trivial⟩
  · cases hm
end Go.Proofs.YtckmcglkjfkghaaDoor.Edge
