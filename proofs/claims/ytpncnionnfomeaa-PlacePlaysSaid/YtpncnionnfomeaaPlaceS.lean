import Derived.Test.YtpncnionnfomeaaAwX
import Derived.Test.YtpncnionnfomeaaPlaceR
namespace Go.Proofs.Ytpncnionnfomeaa.PlaceR
open Go Go.Proofs Go.Proofs.Ytpncnionnfomeaa.Aw Go.Proofs.Ytpncnionnfomeaa.Num Go.Proofs.Ytpncnionnfomeaa.DiskM Go.Proofs.Ytpncnionnfomeaa.DiskA Go.Proofs.Ytpncnionnfomeaa.DiskK Go.Proofs.Ytpncnionnfomeaa.DiskC Go.Proofs.Ytpncnionnfomeaa.Disk Go.Proofs.Ytpncnionnfomeaa.DiskL
open Go.Proofs.Ytpncnionnfomeaa.Ref (RefAt rS opRP)
open Go.Proofs.Ytpncnionnfomeaa.Place (dropF dropPre)
set_option linter.unusedSimpArgs false
set_option linter.unusedVariables false
def dropRFP : PM := fun args L T K => ∃ M o fo ns, args = [.box o 0, .list 1 (ns.map .str) none] ∧ ns.length ≤ 1099511627776 ∧ RefAt L M o fo ∧ dropPre ns false M ∧
  ∀ L' T' fo', RefAt L' (dropF ns false M).1 o fo' → Step (rS o fo) noS L T (rS o fo') noS L' T' → K (codeV (dropF ns false M).2) L' T'
set_option maxHeartbeats 4000000 in
theorem dropRF_ok : PSound Try.prog 42 dropRFP := by
  refine psound tysOk R1ok mix Try.func42 rfl ?_
  intro args L T K hm
  obtain ⟨M, o, fo, ns, rfl, hl, hd, hp, hK⟩ := hm
  simp (maxSteps:=2000000) only[bitvec_to_nat,seval,↓tcd,Try.f42,List.length_map]
  obtain ⟨F, hF⟩ : ∃ x, dropF ns false M = x := ⟨_, rfl⟩
  rw [hF] at hK
  refine awpLoop_intro (α := {q : Nat × LL × TT × MD × Nat × Bool // q.1 ≤ ns.length ∧ RefAt q.2.1 q.2.2.2.1 o q.2.2.2.2.1 ∧ Step (rS o fo) noS L T (rS o q.2.2.2.2.1) noS q.2.1 q.2.2.1 ∧ F = dropF (ns.drop q.1) q.2.2.2.2.2 q.2.2.2.1 ∧ dropPre (ns.drop q.1) q.2.2.2.2.2 q.2.2.2.1})
    (fun q => ⟨[.box o 0, .list 1 (ns.map .str) none, .any, .any, .int .i64 0, .bool q.1.2.2.2.2.2, .int .i64 (q.1.1 : Int), .any, .any, .any, .any, .any, .any, .any, .any, .any, .any, .any, .any, .any, .any, .any, .any, .any, .any, .any, .any, .any, .any, .any, .any, .any, .any, .any, .any, .any], q.1.2.1, q.1.2.2.1⟩) (fun q => ns.length - q.1.1)
    ⟨(0, L, T, M, fo, false), Nat.zero_le _, hd, Step.refl _ _ _ _, hF.symm, hp⟩ ?_ ?_ (fun q => ⟨q.2.2.2.1.len, q.2.2.2.1.tlen⟩)
  · simp (maxSteps:=2000000) only[bitvec_to_nat,seval,↓tcd,leLL_self]
    all_goals simp
  · rintro ⟨⟨k, L3, T3, M3, fo3, g⟩, hk, hd3, hst3, hF3, hp3⟩
    simp only at hk hd3 hst3 hF3 hp3
    by_cases hlt : k < ns.length
    · have hld : decide ((k : Int) < (ns.length : Int)) = true := decide_eq_true (by omega)
      have hgd : (ns.map V.str).getD k .any = .str ns[k] := by
        rw [List.getD_eq_getElem?_getD, List.getElem?_map, List.getElem?_eq_getElem hlt]; rfl
      have hi1 : IntKind.i64.wrap ((k : Int) + 1) = ((k + 1 : Nat) : Int) := by rw [i64w (by omega) (by omega)]; omega
      have hdk : ns.drop k = ns[k] :: ns.drop (k + 1) := List.drop_eq_getElem_cons hlt
      rw [hdk] at hF3 hp3
      obtain ⟨z1, z2⟩ := hp3
      simp (maxSteps:=2000000) only[bitvec_to_nat,seval,↓tcd,hld,hgd,List.length_map,Int.toNat_natCast,hi1]
      refine ⟨⟨by omega, by omega⟩, opr_o rfl hd3 z1 fun L4 T4 fo4 hd4 hst4 => ?_⟩
      have hF4 : F = if (M3.remove ns[k]).2 = 0 ∨ (M3.remove ns[k]).2 = 2 then dropF (ns.drop (k + 1)) (g || decide ((M3.remove ns[k]).2 = 0)) (M3.remove ns[k]).1 else M3.remove ns[k] := hF3
      obtain ⟨c4, hc4⟩ : ∃ c, (M3.remove ns[k]).2 = c := ⟨_, rfl⟩
      obtain ⟨M4, hM4⟩ : ∃ c, (M3.remove ns[k]).1 = c := ⟨_, rfl⟩
      have x4 : M3.remove ns[k] = (M4, c4) := by rw [← hM4, ← hc4]
      rw [x4] at hF4 z2
      simp only [hc4, hM4, code_V] at hd4 hF4 z2 ⊢
      have hst5 := hst3.trans hst4
      by_cases h0 : c4 = 0
      · have d0 : decide ((c4 : Int) = 0) = true := decide_eq_true (by omega)
        rw [if_pos (.inl h0), decide_eq_true h0, Bool.or_true] at hF4
        replace z2 := z2 (.inl h0)
        rw [decide_eq_true h0, Bool.or_true] at z2
        cases g
        · simp (maxSteps:=2000000) only[bitvec_to_nat,seval,↓tcd,d0,hi1]
          refine ⟨⟨(k + 1, L4, T4, M4, fo4, true), hlt, hd4, hst5, hF4, z2⟩, ?_, by simp only; omega⟩
          simp (maxSteps:=2000000) only[bitvec_to_nat,seval,↓tcd,leLL_self]
        · simp (maxSteps:=2000000) only[bitvec_to_nat,seval,↓tcd,d0,hi1]
          refine ⟨⟨(k + 1, L4, T4, M4, fo4, true), hlt, hd4, hst5, hF4, z2⟩, ?_, by simp only; omega⟩
          simp (maxSteps:=2000000) only[bitvec_to_nat,seval,↓tcd,leLL_self]
      · have d0 : decide ((c4 : Int) = 0) = false := decide_eq_false (by omega)
        by_cases h2 : c4 = 2
        · have d2 : decide ((c4 : Int) = 2) = true := decide_eq_true (by omega)
          rw [if_pos (.inr h2), decide_eq_false h0, Bool.or_false] at hF4
          replace z2 := z2 (.inr h2)
          rw [decide_eq_false h0, Bool.or_false] at z2
          cases g
          · simp (maxSteps:=2000000) only[bitvec_to_nat,seval,↓tcd,d0,d2,hi1]
            refine ⟨⟨(k + 1, L4, T4, M4, fo4, false), hlt, hd4, hst5, hF4, z2⟩, ?_, by simp only; omega⟩
            simp (maxSteps:=2000000) only[bitvec_to_nat,seval,↓tcd,leLL_self]
          · simp (maxSteps:=2000000) only[bitvec_to_nat,seval,↓tcd,d0,d2,hi1]
            refine ⟨⟨(k + 1, L4, T4, M4, fo4, true), hlt, hd4, hst5, hF4, z2⟩, ?_, by simp only; omega⟩
            simp (maxSteps:=2000000) only[bitvec_to_nat,seval,↓tcd,leLL_self]
        · have d2 : decide ((c4 : Int) = 2) = false := decide_eq_false (by omega)
          rw [if_neg (fun h => h.elim h0 h2)] at hF4
          rw [hF4] at hK
          simp (maxSteps:=2000000) only[bitvec_to_nat,seval,↓tcd,d0,d2]
          exact ret_of hst5 (hK _ _ fo4 hd4 hst5)
    · have hld : decide ((k : Int) < (ns.length : Int)) = false := decide_eq_false (by omega)
      have hdk : ns.drop k = [] := List.drop_eq_nil_of_le (by omega)
      rw [hdk] at hF3 hp3
      simp (maxSteps:=2000000) only[bitvec_to_nat,seval,↓tcd,hld,List.length_map]
      cases g
      · have hF4 : F = (M3, 0) := hF3
        rw [hF4] at hK
        simp (maxSteps:=2000000) only[bitvec_to_nat,seval,↓tcd]
        exact ret_of hst3 (hK _ _ fo3 hd3 hst3)
      · have hF4 : F = M3.syncNames := hF3
        rw [hF4] at hK
        simp (maxSteps:=2000000) only[bitvec_to_nat,seval,↓tcd]
        refine opr_o rfl hd3 (hp3 rfl) fun L4 T4 fo4 hd4 hst4 => ?_
        simp (maxSteps:=2000000) only[bitvec_to_nat,seval,↓tcd]
        exact ret_of (hst3.trans hst4) (hK _ _ fo4 hd4 (hst3.trans hst4))
end Go.Proofs.Ytpncnionnfomeaa.PlaceR
