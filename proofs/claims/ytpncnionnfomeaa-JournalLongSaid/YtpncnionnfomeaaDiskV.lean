import Derived.Test.YtpncnionnfomeaaAwX
import Derived.Test.YtpncnionnfomeaaDiskR
namespace Go.Proofs.Ytpncnionnfomeaa.DiskL
open Go Go.Proofs Go.Proofs.Ytpncnionnfomeaa.Aw Go.Proofs.Ytpncnionnfomeaa.Num Go.Proofs.Ytpncnionnfomeaa.DiskM Go.Proofs.Ytpncnionnfomeaa.DiskA Go.Proofs.Ytpncnionnfomeaa.DiskK Go.Proofs.Ytpncnionnfomeaa.DiskC Go.Proofs.Ytpncnionnfomeaa.Disk
set_option linter.unusedSimpArgs false
set_option linter.unusedVariables false
def usedP : PM := obsP fun M => .int .i64 (M.used : Int)
theorem small_ok {a : Act} (h : a.small) (hn : a.n ≤ 9223372036854775807) : a.Ok := ⟨by have := h.1; omega, hn, by have := h.2.2.2; omega⟩
theorem few_mem {l : List Act} {a : Act} (h : a ∈ few l) : a.small ∧ a ∈ l := by
  unfold few at h
  obtain ⟨h1, h2⟩ := List.mem_filter.1 h
  exact ⟨of_decide_eq_true h2, List.mem_of_mem_take h1⟩
theorem few_len (l : List Act) : (few l).length ≤ 100 := by
  unfold few
  refine Nat.le_trans (List.length_filter_le _ _) ?_
  rw [List.length_take]; omega
def Live (M : MD) : Prop := M.down = false ∧ M.doomed = false
theorem begin_live {M : MD} (h : Live M) : M.begin = (M, true) := by simp [MD.begin, h.1, h.2]
theorem onFile_live {M : MD} (h : Live M) (n : Name) (X : MD → Nat → MD × Nat) (hX : ∀ f, Live (X M f).1) : Live (M.onFile n X).1 := by
  rcases onFile_cases M n X with e | e | ⟨f, _, _, e⟩
  · rw [e, begin_live h]; exact h
  · rw [e, begin_live h]; exact h
  · rw [e, begin_live h]; exact hX f
theorem act_live {M : MD} (h : Live M) {a : Act} (ha : a.kind.toNat % 13 ≠ 10) : Live (act M a).1 := by
  have hb := begin_live h
  unfold act
  split
  · simp only [MD.create, hb]
    split
    · exact h
    · split
      · exact h
      · split
        · exact h
        · exact h
  · exact onFile_live h _ _ fun f => h
  · exact onFile_live h _ _ fun f => h
  · refine onFile_live h _ _ fun f => ?_
    split
    · exact h
    · exact h
  · exact onFile_live h _ _ fun f => h
  · simp only [MD.syncNames, hb]
    split
    · exact h
    · exact h
  · simp only [MD.names, hb]
    split
    · exact h
    · exact h
  · rename_i hc; exact absurd hc ha
  · exact ⟨rfl, rfl⟩
  · simp only [MD.grow]
    split
    · exact h
    · exact h
  · refine onFile_live h _ _ fun f => ?_
    split
    · exact h
    · exact h
theorem act_sz {k : Nat} {M : MD} (h : Sz k M) (ok : M.Ok) {a : Act} (ha : a.small) : Sz (k + 1) (act M a).1 := by
  by_cases hk : a.kind.toNat % 13 = 12
  · have e : act M a = M.grow a.n := by simp only [act, hk]
    rw [e]
    unfold MD.grow
    split
    · exact h.mono (Nat.le_succ _)
    · exact (h.mono (Nat.le_succ _)).same rfl rfl rfl
  · exact (did_act h ok ha hk).sz
theorem names_live {M : MD} (h : Live M) : M.names = (M, 0) ∧ M.namesL = M.now.map (·.1) := by
  simp [MD.names, MD.namesL, begin_live h]
theorem read_live {M : MD} (h : Live M) {n : Name} : M.read n = (M, if (nfind M.now n).isSome then 0 else 2) := by
  unfold MD.read MD.onFile
  rw [begin_live h]
  cases nfind M.now n <;> simp
theorem create_live {M : MD} (h : Live M) (n : Name) : M.create n = if ¬ right n then (M, 1) else if (nfind M.now n).isSome then (M, 4) else (M.newFile.does ⟨[], n, M.files.length⟩, 0) := by
  unfold MD.create
  rw [begin_live h]
  simp [MD.newFile]
theorem remove_live {M : MD} (h : Live M) (n : Name) : M.remove n = if (nfind M.now n).isSome then (M.does ⟨n, [], 0⟩, 0) else (M, 2) := by
  unfold MD.remove MD.onFile
  rw [begin_live h]
  cases nfind M.now n <;> simp
theorem nins_len (l : Names) (n : Name) (f : Nat) : (nins l n f).length = l.length + 1 := by
  induction l with
  | nil => rfl
  | cons e r ih => unfold nins; split <;> simp [ih]
theorem find_iff {M : MD} (n : Name) : (nfind M.now n).isSome = true ↔ n ∈ M.now.map (·.1) := by
  constructor
  · intro h
    obtain ⟨f, hf⟩ := Option.isSome_iff_exists.1 h
    exact List.mem_map.2 ⟨_, nfind_mem hf, rfl⟩
  · intro h
    cases hf : nfind M.now n with
    | none => exact absurd h (nfind_none.1 hf)
    | some f => rfl
theorem made_now {M : MD} (ok : M.Ok) {n : Name} (hr : right n) (hn : n ∉ M.now.map (·.1)) : (M.newFile.does ⟨[], n, M.files.length⟩).now = nwith M.now n M.files.length ∧ (nwith M.now n M.files.length).length = M.now.length + 1 := by
  have h0 : n ≠ [] := hr.1
  refine ⟨?_, ?_⟩
  · rw [does_now]
    show chg M.now ⟨[], n, M.files.length⟩ = _
    simp [chg, cleft, cfile, h0]
  · unfold nwith
    rw [nins_len, without_eq (nfind_none.2 hn)]
theorem gone_now {M : MD} {n : Name} (hn : n ≠ []) : (M.does ⟨n, [], 0⟩).now = nwithout M.now n := by
  rw [does_now]
  simp [chg, cleft, hn]
def textsN : FM
  | [.list 1 a none, .list 1 b none] => some (∃ x y : List Name, a = x.map .str ∧ b = y.map .str ∧ x.length ≤ 9223372036854775807 ∧ x = y, .bool true, [])
  | _ => none
theorem doomF_some {n : Int} (h : n ≤ 9223372036854775807) : doomF [.int .i64 n] = some fun M => ((M.doom n).1, codeV (M.doom n).2) := if_pos h
theorem small_crash {M : MD} (h : Small M) (ok : M.Ok) (w : Wreck) : Small (M.crash w) := by
  obtain ⟨a1, a2, a3, a4, a5⟩ := at_ok ok w
  have hcu := crash_used M w
  have hle := crs_sum_le ok w (M.at w) 0
  have hsu := h.used
  refine ⟨by show ([] : List Chg).length ≤ _; simp, by omega, fun x hx => ?_, ?_⟩
  · have hx' : x ∈ crs M w (M.at w) 0 := by
      have : x ∈ (M.crash w).files := hx
      rw [crash_eq] at this
      exact this
    have : ∀ (l : Names) (j : Nat), x ∈ crs M w l j → x.1.length ≤ 1099511627776 := by
      intro l
      induction l with
      | nil => intro j hj; cases hj
      | cons e r ih =>
        intro j hj
        rcases List.mem_cons.1 hj with rfl | hj
        · have q := (DiskC.crashF_ok (wr := w) (i := j) (file_cut ok e.2)).2
          have := file_small h e.2
          omega
        · exact ih _ hj
    exact this _ _ hx'
  · rw [crash_eq]
    show (crs M w (M.at w) 0).length ≤ _
    rw [crs_len]
    have q1 := nodup_len (r := List.range M.files.length) a3 fun f hf => by
      obtain ⟨e, he, rfl⟩ := List.mem_map.1 hf
      exact List.mem_range.2 (a4 e he)
    rw [List.length_map, List.length_range] at q1
    have := h.nf; omega
theorem crash_live (M : MD) (w : Wreck) : Live (M.crash w) := ⟨rfl, rfl⟩
theorem small_new (room : Int) : Small (DiskM.new room) := ⟨by simp [DiskM.new], by show (0 : Nat) ≤ _; omega, by simp [DiskM.new], by simp [DiskM.new]⟩
theorem sz_new (room : Int) : Sz 0 (DiskM.new room) := ⟨by simp [DiskM.new], by simp [DiskM.new], Nat.le_refl 0, by simp [DiskM.new]⟩
end Go.Proofs.Ytpncnionnfomeaa.DiskL
