import Derived.Test.YtckmcglkjfkghaaDoorAw12
namespace Go.Proofs.YtckmcglkjfkghaaDoor.Aw
open Go Go.RowKit
set_option linter.unusedVariables false
set_option linter.unusedSimpArgs false
inductive Anc (ops : Array Oper) : Nat → Nat → Prop
  | one {i : Nat} {o : Oper} {e : Edge} (ho : ops[i]? = some o) (he : e ∈ o.after) (hb : Region.binds .any e = true) : Anc ops i e.on
  | more {i j : Nat} {o : Oper} {e : Edge} (ho : ops[i]? = some o) (he : e ∈ o.after) (hb : Region.binds .any e = true) (h : Anc ops e.on j) : Anc ops i j
def edgeMask (acc : List Nat) (m : Nat) (e : Edge) : Nat := bif Region.binds .any e then m ||| ((1 <<< e.on) ||| acc.getD e.on 0) else m
def opMask (acc : List Nat) (o : Oper) : Nat := o.after.toList.foldl (edgeMask acc) 0
def masksFrom : List Oper → List Nat → List Nat
  | [], acc => acc
  | o :: r, acc => masksFrom r (acc ++ [opMask acc o])
theorem bit_one (k j : Nat) : (1 <<< k).testBit j = decide (k = j) := by rw [Nat.one_shiftLeft, Nat.testBit_two_pow]
theorem opMask_spec (acc : List Nat) (o : Oper) (j : Nat) : (opMask acc o).testBit j = true ↔ ∃ e ∈ o.after, Region.binds .any e = true ∧ (e.on = j ∨ (acc.getD e.on 0).testBit j = true) := by
  have key : ∀ (l : List Edge) (m : Nat), (l.foldl (edgeMask acc) m).testBit j = true ↔ m.testBit j = true ∨ ∃ e ∈ l, Region.binds .any e = true ∧ (e.on = j ∨ (acc.getD e.on 0).testBit j = true) := by
    intro l
    induction l with
    | nil => intro m; simp
    | cons e l ih =>
      intro m
      rw [List.foldl_cons, ih]
      unfold edgeMask
      cases hb : Region.binds .any e
      · simp only [cond_false, List.mem_cons, exists_eq_or_imp, hb]
        simp
      · simp only [cond_true, Nat.testBit_or, bit_one, Bool.or_eq_true, decide_eq_true_eq, List.mem_cons, exists_eq_or_imp, hb, true_and]
        rw [or_assoc]
  unfold opMask
  rw [key]
  simp
theorem masksFrom_length : ∀ (l : List Oper) (acc : List Nat), (masksFrom l acc).length = acc.length + l.length
  | [], acc => by simp [masksFrom]
  | o :: r, acc => by rw [masksFrom, masksFrom_length r]; simp; omega
theorem masksFrom_old : ∀ (l : List Oper) (acc : List Nat) (i : Nat), i < acc.length → (masksFrom l acc)[i]? = acc[i]?
  | [], acc, i, h => rfl
  | o :: r, acc, i, h => by rw [masksFrom, masksFrom_old r _ i (by simp; omega), List.getElem?_append_left h]
theorem masks_spec (ops : Array Oper) : ∀ (l : List Oper) (acc : List Nat), (∀ i o, l[i]? = some o → ops[acc.length + i]? = some o) → (∀ i m, acc[i]? = some m → ∀ j, m.testBit j = true → Anc ops i j) →
    (∀ i (m : Nat), (masksFrom l acc)[i]? = some m → ∀ j, m.testBit j = true → Anc ops i j) ∧
    ∀ i o m, l[i]? = some o → (masksFrom l acc)[acc.length + i]? = some m → ∀ e ∈ o.after, Region.binds .any e = true → m.testBit e.on = true
  | [], acc, ho, hacc => ⟨hacc, fun i o m h => by simp at h⟩
  | o :: r, acc, ho, hacc => by
    have hacc' : ∀ i m, (acc ++ [opMask acc o])[i]? = some m → ∀ j, m.testBit j = true → Anc ops i j := by
      intro i m hi j hj
      by_cases hlt : i < acc.length
      · rw [List.getElem?_append_left hlt] at hi
        exact hacc i m hi j hj
      · rw [List.getElem?_append_right (by omega)] at hi
        have h0 := (List.getElem?_eq_some_iff.1 hi).1
        have e0 : i - acc.length = 0 := by simpa using h0
        rw [e0] at hi
        simp only [List.getElem?_cons_zero, Option.some.injEq] at hi
        subst hi
        have ei : i = acc.length := by omega
        subst ei
        have hop := ho 0 o rfl
        obtain ⟨e, he, hb, h⟩ := (opMask_spec acc o j).1 hj
        rcases h with rfl | h
        · exact .one hop he hb
        · refine .more hop he hb ?_
          rw [List.getD_eq_getElem?_getD] at h
          cases hm : acc[e.on]? with
          | none => rw [hm] at h; simp at h
          | some m => rw [hm] at h; exact hacc e.on m hm j h
    obtain ⟨h1, h2⟩ := masks_spec ops r (acc ++ [opMask acc o]) (fun i o' h => by
      have := ho (i + 1) o' (by simpa using h)
      rw [List.length_append, List.length_singleton, Nat.add_assoc, Nat.add_comm 1 i]
      exact this) hacc'
    refine ⟨h1, fun i o' m hi hm e he hb => ?_⟩
    cases i with
    | zero =>
      simp only [List.getElem?_cons_zero, Option.some.injEq] at hi
      subst hi
      rw [Nat.add_zero, masksFrom, masksFrom_old r _ _ (by simp), List.getElem?_append_right (Nat.le_refl _)] at hm
      simp only [Nat.sub_self, List.getElem?_cons_zero, Option.some.injEq] at hm
      rw [← hm]
      exact (opMask_spec acc o e.on).2 ⟨e, he, hb, .inl rfl⟩
    | succ i =>
      refine h2 i o' m (by simpa using hi) ?_ e he hb
      rw [masksFrom] at hm
      simpa [Nat.add_assoc, Nat.add_comm, Nat.add_left_comm] using hm
def Closed (ops : Array Oper) (listed : Array Bool) : Prop := ∀ i o, ops[i]? = some o → listed.getD i false = true → ∀ e ∈ o.after, Region.binds .any e = true → listed.getD e.on false = true
theorem Anc.listed {ops : Array Oper} {listed : Array Bool} (hc : Closed ops listed) {i j : Nat} (h : Anc ops i j) : listed.getD i false = true → listed.getD j false = true := by
  induction h with
  | one ho he hb => exact fun hl => hc _ _ ho hl _ he hb
  | more ho he hb h ih => exact fun hl => ih (hc _ _ ho hl _ he hb)
theorem Anc.ready {ops : Array Oper} {listed : Array Bool} (hc : Closed ops listed) {i j : Nat} (h : Anc ops i j) {o : Oper} (ho : ops[i]? = some o) (hr : ∀ e ∈ o.after, Region.binds .any e = true → listed.getD e.on false = true) : listed.getD j false = true := by
  cases h with
  | one ho' he hb => rw [ho] at ho'; cases ho'; exact hr _ he hb
  | more ho' he hb h => rw [ho] at ho'; cases ho'; exact h.listed hc (hr _ he hb)
def isE (c : Nat) : Bool := c == 1 || c == 4
def goOk (ms : List Nat) : List (Nat × Nat) → Nat → Nat → Nat → Nat → Bool
  | [], _, _, _, _ => true
  | (i, c) :: r, seen, es, ds, ss =>
    let m := ms.getD i 0
    !seen.testBit i && ((m ||| seen) == seen) && ((es ||| m) == m) && (!(isE c) || ((ds ||| m) == m)) && (!(c == 4) || ((ss ||| m) == m)) &&
    goOk ms r (seen ||| (1 <<< i)) (bif isE c then es ||| (1 <<< i) else es) (bif c == 2 then ds ||| (1 <<< i) else ds) (bif c == 3 then ss ||| (1 <<< i) else ss)
def opOk (ops : Array Oper) (n : Nat) (q : List (Nat × Nat)) (i : Nat) : Bool :=
  match ops[i]? with
  | some o => (match o.dst with | some d => decide (d < n) && ((List.range ops.size).all fun j => j == i || ((ops[j]?).bind (·.dst) != some d)) | none => q.contains (i, 1) || q.contains (i, 4)) && (o.looksAt ops).all (depOk ops i o)
  | none => false
def ordOk (ops : Array Oper) (n : Nat) (q : List (Nat × Nat)) : Bool :=
  (q.all fun x => decide (x.1 < ops.size)) && ((List.range ops.size).all fun i => q.any fun x => x.1 == i) && goOk (masksFrom ops.toList []) q 0 0 0 0 && (List.range ops.size).all (opOk ops n q)
def dstOf (ops : Array Oper) (i : Nat) : Option Tmp := (ops[i]?).bind (·.dst)
structure OrdF (ops : Array Oper) (n : Nat) (q : List (Nat × Nat)) : Prop where
  nodup : ∀ pre i c r, q = pre ++ (i, c) :: r → ∀ c', (i, c') ∉ pre
  lt : ∀ x ∈ q, x.1 < ops.size
  all : ∀ i, i < ops.size → ∃ c, (i, c) ∈ q
  dst : ∀ x ∈ q, (∃ d, dstOf ops x.1 = some d ∧ d < n ∧ ∀ j, j ≠ x.1 → dstOf ops j ≠ some d) ∨ (dstOf ops x.1 = none ∧ isE x.2 = true)
  looks : ∀ i o, ops[i]? = some o → ∀ t ∈ o.looksAt ops, ∀ j, dstOf ops j = some t → j ≠ i ∧ ∃ e ∈ o.after, Region.binds .any e = true ∧ e.on = j
  topo : ∀ pre i c r, q = pre ++ (i, c) :: r → ∀ o, ops[i]? = some o → ∀ e ∈ o.after, Region.binds .any e = true → ∃ c', (e.on, c') ∈ pre
  effs : ∀ pre i c r, q = pre ++ (i, c) :: r → ∀ e ce, isE ce = true → (e, ce) ∈ pre → Anc ops i e
  reads : ∀ pre i c r, isE c = true → q = pre ++ (i, c) :: r → ∀ e, (e, 2) ∈ pre → Anc ops i e
  waits : ∀ pre i r, q = pre ++ (i, 4) :: r → ∀ e, (e, 3) ∈ pre → Anc ops i e
theorem or_sub {a b : Nat} (h : (a ||| b) = b) {j : Nat} (hj : a.testBit j = true) : b.testBit j = true := by
  rw [← h, Nat.testBit_or, hj]; rfl
theorem goOk_spec (ms : List Nat) : ∀ (q : List (Nat × Nat)) (seen es ds ss : Nat), goOk ms q seen es ds ss = true → ∀ pre i c r, q = pre ++ (i, c) :: r →
    (∀ j, (ms.getD i 0).testBit j = true → seen.testBit j = true ∨ ∃ c', (j, c') ∈ pre) ∧ (∀ e, (es.testBit e = true ∨ ∃ ce, isE ce = true ∧ (e, ce) ∈ pre) → (ms.getD i 0).testBit e = true) ∧
    (isE c = true → ∀ e, ds.testBit e = true ∨ (e, 2) ∈ pre → (ms.getD i 0).testBit e = true) ∧ (c = 4 → ∀ e, ss.testBit e = true ∨ (e, 3) ∈ pre → (ms.getD i 0).testBit e = true) ∧ ∀ c', seen.testBit i = false ∧ (i, c') ∉ pre
  | [], seen, es, ds, ss, _, pre, i, c, r, hq => by simp at hq
  | (i0, c0) :: q, seen, es, ds, ss, h, pre, i, c, r, hq => by
    simp only [goOk, Bool.and_eq_true, beq_iff_eq, Bool.or_eq_true, Bool.not_eq_true'] at h
    obtain ⟨⟨⟨⟨⟨h0, h1⟩, h2⟩, h3⟩, h3s⟩, h4⟩ := h
    cases pre with
    | nil =>
      simp only [List.nil_append, List.cons.injEq, Prod.mk.injEq] at hq
      obtain ⟨⟨rfl, rfl⟩, rfl⟩ := hq
      refine ⟨fun j hj => .inl (or_sub h1 hj), fun e he => ?_, fun hc e he => ?_, fun hc e he => ?_, fun c' => ⟨h0, by simp⟩⟩
      · rcases he with he | ⟨_, _, he⟩
        · exact or_sub h2 he
        · cases he
      · rcases he with he | he
        · refine or_sub (h3.resolve_left ?_) he
          simp [hc]
        · cases he
      · rcases he with he | he
        · refine or_sub (h3s.resolve_left ?_) he
          simp [hc]
        · cases he
    | cons x pre =>
      simp only [List.cons_append, List.cons.injEq] at hq
      obtain ⟨rfl, rfl⟩ := hq
      obtain ⟨g1, g2, g3, g3s, g4⟩ := goOk_spec ms _ _ _ _ _ h4 pre i c r rfl
      have g5 : seen.testBit i = false ∧ i0 ≠ i := by
        have := (g4 0).1
        rw [Nat.testBit_or, Bool.or_eq_false_iff, bit_one, decide_eq_false_iff_not] at this
        exact this
      refine ⟨fun j hj => ?_, fun e he => ?_, fun hc e he => ?_, fun hc e he => ?_, fun c' => ⟨g5.1, fun hm => ?_⟩⟩
      · rcases g1 j hj with h | ⟨c', h⟩
        · rw [Nat.testBit_or, Bool.or_eq_true, bit_one, decide_eq_true_eq] at h
          rcases h with h | rfl
          · exact .inl h
          · exact .inr ⟨c0, by simp⟩
        · exact .inr ⟨c', by simp [h]⟩
      · refine g2 e ?_
        rcases he with he | ⟨ce, hce, he⟩
        · left; cases isE c0 <;> simp [he]
        · rcases List.mem_cons.1 he with he | he
          · simp only [Prod.mk.injEq] at he
            obtain ⟨rfl, rfl⟩ := he
            left; simp [bit_one, hce]
          · exact .inr ⟨ce, hce, he⟩
      · refine g3 hc e ?_
        rcases he with he | he
        · left; cases c0 == 2 <;> simp [he]
        · rcases List.mem_cons.1 he with he | he
          · simp only [Prod.mk.injEq] at he
            obtain ⟨rfl, rfl⟩ := he
            left; simp [bit_one]
          · exact .inr he
      · refine g3s hc e ?_
        rcases he with he | he
        · left; cases c0 == 3 <;> simp [he]
        · rcases List.mem_cons.1 he with he | he
          · simp only [Prod.mk.injEq] at he
            obtain ⟨rfl, rfl⟩ := he
            left; simp [bit_one]
          · exact .inr he
      · rcases List.mem_cons.1 hm with hm | hm
        · simp only [Prod.mk.injEq] at hm
          exact g5.2 hm.1.symm
        · exact (g4 c').2 hm
theorem OrdF.cls {ops : Array Oper} {n : Nat} {q : List (Nat × Nat)} (hnd : ∀ pre i c r, q = pre ++ (i, c) :: r → ∀ c', (i, c') ∉ pre) {i c c' : Nat} (h : (i, c) ∈ q) (h' : (i, c') ∈ q) : c = c' := by
  obtain ⟨pre, r, e⟩ := List.append_of_mem h
  rw [e] at h'
  rcases List.mem_append.1 h' with h' | h'
  · exact absurd h' (hnd pre i c r e c')
  · rcases List.mem_cons.1 h' with h' | h'
    · simp only [Prod.mk.injEq] at h'; exact h'.2.symm
    · obtain ⟨pre2, r2, e2⟩ := List.append_of_mem h'
      exact absurd (by simp : (i, c) ∈ pre ++ (i, c) :: pre2) (hnd (pre ++ (i, c) :: pre2) i c' r2 (by rw [e, e2]; simp) c)
theorem ordOk_spec {ops : Array Oper} {n : Nat} {q : List (Nat × Nat)} (h : ordOk ops n q = true) : OrdF ops n q := by
  simp only [ordOk, Bool.and_eq_true] at h
  obtain ⟨⟨⟨hlen, hall⟩, hgo⟩, hop⟩ := h
  have hall' : ∀ i, i < ops.size → ∃ c, (i, c) ∈ q := by
    intro i hi
    have := List.all_eq_true.1 hall i (List.mem_range.2 hi)
    obtain ⟨x, hx, e⟩ := List.any_eq_true.1 this
    exact ⟨x.2, by have : x.1 = i := by simpa using e
                   rw [← this]; exact hx⟩
  have hlt : ∀ x ∈ q, x.1 < ops.size := fun x hx => by simpa using List.all_eq_true.1 hlen x hx
  have hnd : ∀ pre i c r, q = pre ++ (i, c) :: r → ∀ c', (i, c') ∉ pre := fun pre i c r e c' => ((goOk_spec _ q 0 0 0 0 hgo pre i c r e).2.2.2.2 c').2
  obtain ⟨m1, m2⟩ := masks_spec ops ops.toList [] (fun i o h => by simpa using h) (fun i m h => by simp at h)
  have hms : (masksFrom ops.toList []).length = ops.size := by rw [masksFrom_length]; simp
  have hget : ∀ i, i < ops.size → (masksFrom ops.toList [])[i]? = some ((masksFrom ops.toList []).getD i 0) := fun i hi => by
    rw [List.getD_eq_getElem?_getD, List.getElem?_eq_getElem (by omega)]; rfl
  have split_mem : ∀ {pre : List (Nat × Nat)} {i c : Nat} {r : List (Nat × Nat)}, q = pre ++ (i, c) :: r → i < ops.size := fun {pre i c r} e => hlt (i, c) (by rw [e]; simp)
  refine ⟨hnd, hlt, hall', fun x hx => ?_, fun i o ho t ht j hj => ?_, fun pre i c r e o ho ed he hb => ?_, fun pre i c r e ed ce hce he => ?_, fun pre i c r hc e ed he => ?_, fun pre i r e ed he => ?_⟩
  · have h1 := List.all_eq_true.1 hop x.1 (List.mem_range.2 (hlt x hx))
    unfold opOk at h1
    have hxl := hlt x hx
    have ho : ops[x.1]? = some ops[x.1] := Array.getElem?_eq_getElem hxl
    rw [ho] at h1
    simp only [Bool.and_eq_true] at h1
    unfold dstOf
    rw [ho]
    cases hd : ops[x.1].dst with
    | some d =>
      simp only [hd, Bool.and_eq_true, decide_eq_true_eq] at h1
      refine .inl ⟨d, by simp [hd], h1.1.1, fun j hne he => ?_⟩
      by_cases hjl : j < ops.size
      · have := List.all_eq_true.1 h1.1.2 j (List.mem_range.2 hjl)
        simp [hne, he] at this
      · rw [Array.getElem?_eq_none (by omega)] at he; cases he
    | none =>
      simp only [hd] at h1
      refine .inr ⟨by simp [hd], ?_⟩
      have hmem : (x.1, 1) ∈ q ∨ (x.1, 4) ∈ q := by simpa using h1.1
      rcases hmem with hmem | hmem
      · rw [OrdF.cls hnd (ops := ops) (n := n) (i := x.1) hx hmem]; rfl
      · rw [OrdF.cls hnd (ops := ops) (n := n) (i := x.1) hx hmem]; rfl
  · have hi : i < ops.size := (Array.getElem?_eq_some_iff.1 ho).1
    have h1 := List.all_eq_true.1 hop i (List.mem_range.2 hi)
    unfold opOk at h1
    rw [ho] at h1
    simp only [Bool.and_eq_true] at h1
    have h2 := List.all_eq_true.1 h1.2 t ht
    unfold depOk at h2
    have hjl : j < ops.size := by
      rcases Nat.lt_or_ge j ops.size with h | h
      · exact h
      · unfold dstOf at hj; rw [Array.getElem?_eq_none (by omega)] at hj; cases hj
    have h3 := List.all_eq_true.1 h2 j (List.mem_range.2 hjl)
    unfold dstOf at hj
    rw [hj] at h3
    simp only [bne_self_eq_false, Bool.false_or, Bool.and_eq_true, decide_eq_true_eq, Array.any_eq_true, beq_iff_eq] at h3
    obtain ⟨h4, k, hk, h5, h6⟩ := h3
    exact ⟨by omega, _, Array.getElem_mem hk, h5, h6⟩
  · have hi := split_mem e
    have hm := m2 i o _ (by simpa using ho) (by simpa using hget i hi) ed he hb
    rcases (goOk_spec _ q 0 0 0 0 hgo pre i c r e).1 _ hm with h | h
    · simp at h
    · exact h
  · have hi := split_mem e
    exact m1 i _ (hget i hi) ed ((goOk_spec _ q 0 0 0 0 hgo pre i c r e).2.1 ed (.inr ⟨ce, hce, he⟩))
  · have hi := split_mem e
    exact m1 i _ (hget i hi) ed ((goOk_spec _ q 0 0 0 0 hgo pre i c r e).2.2.1 hc ed (.inr he))
  · have hi := split_mem e
    exact m1 i _ (hget i hi) ed ((goOk_spec _ q 0 0 0 0 hgo pre i 4 r e).2.2.2.1 rfl ed (.inr he))
end Go.Proofs.YtckmcglkjfkghaaDoor.Aw
