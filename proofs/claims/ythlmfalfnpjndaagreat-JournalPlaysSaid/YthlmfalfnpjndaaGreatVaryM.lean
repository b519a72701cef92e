import Derived.Test.YthlmfalfnpjndaaGreatAw13
import Derived.Test.YthlmfalfnpjndaaGreatNum
namespace Go.Proofs.YthlmfalfnpjndaaGreat.VaryM
open Go
set_option linter.unusedVariables false
set_option linter.unusedSimpArgs false
def leb (n : Nat) : List UInt8 := if h : n < 128 then [UInt8.ofNat n] else UInt8.ofNat (n % 128 + 128) :: leb (n / 128)
termination_by n
decreasing_by omega
def be : Nat → Nat → List UInt8
 | 0,_ => []
 | k + 1,n => UInt8.ofNat (n / 256 ^ k % 256) :: be k n
theorem be_length (k n : Nat) : (be k n).length = k := by induction k with | zero => rfl | succ k ih => simp [be,ih]
theorem be_get (k n : Nat) : ∀ j,j < k → (be k n)[j]? = some (UInt8.ofNat (n / 256 ^ (k - 1 - j) % 256)) := by
 induction k with
 | zero => intro j h; omega
 | succ k ih =>
  intro j h
  cases j with
  | zero => simp [be]
  | succ j =>
   simp only [be,List.getElem?_cons_succ]
   rw [ih j (by omega)]
   congr 5
   omega
theorem be_take (k n j : Nat) (h : j < k) : (be k n).take (j + 1) = (be k n).take j ++ [UInt8.ofNat (n / 256 ^ (k - 1 - j) % 256)] := by
 rw [List.take_add_one,be_get k n j h]
 rfl
def beVal : Nat → List UInt8 → Nat
 | acc,[] => acc
 | acc,c :: l => beVal (acc * 256 + c.toNat) l
theorem beVal_append (l m : List UInt8) : ∀ acc,beVal acc (l ++ m) = beVal (beVal acc l) m := by
 induction l with
 | nil => intro acc; rfl
 | cons c l ih => intro acc; simp only [List.cons_append,beVal,ih]
theorem beVal_be (k n : Nat) : ∀ acc,beVal acc (be k n) = acc * 256 ^ k + n % 256 ^ k := by
 induction k with
 | zero => intro acc; simp [be,beVal,Nat.mod_one]
 | succ k ih =>
  intro acc
  have hc : (UInt8.ofNat (n / 256 ^ k % 256)).toNat = n / 256 ^ k % 256 := by rw [UInt8.toNat_ofNat']; omega
  simp only [be,beVal,ih,hc]
  have e : n % 256 ^ (k + 1) = n % 256 ^ k + 256 ^ k * (n / 256 ^ k % 256) := by rw [Nat.pow_succ,Nat.mod_mul]
  rw [e,Nat.add_mul,Nat.mul_assoc,Nat.pow_succ,Nat.mul_comm 256 (256 ^ k),Nat.mul_comm (256 ^ k) (n / 256 ^ k % 256)]
  omega
theorem beVal_lt (l : List UInt8) : ∀ acc,beVal acc l < (acc + 1) * 256 ^ l.length := by
 induction l with
 | nil => intro acc; simp [beVal]
 | cons c l ih =>
  intro acc
  have hc := c.toNat_lt
  have := ih (acc * 256 + c.toNat)
  have h2 : (acc * 256 + c.toNat + 1) * 256 ^ l.length ≤ ((acc + 1) * 256) * 256 ^ l.length := Nat.mul_le_mul_right _ (by omega)
  simp only [beVal,List.length_cons,Nat.pow_succ]
  rw [Nat.mul_assoc] at h2
  rw [Nat.mul_comm (256 ^ l.length) 256]
  omega
end Go.Proofs.YthlmfalfnpjndaaGreat.VaryM
namespace Go.Proofs.YthlmfalfnpjndaaGreat.CrcN
open Go Aw Num CrcM
set_option linter.unusedVariables false
set_option linter.unusedSimpArgs false
end Go.Proofs.YthlmfalfnpjndaaGreat.CrcN
namespace Go.Proofs.YthlmfalfnpjndaaGreat.FrameM
open Go Aw CrcM CrcN VaryM
set_option linter.unusedVariables false
set_option linter.unusedSimpArgs false
def crcW (x : List UInt8) : W := sum 0#32 x
theorem crc_W (x : List UInt8) : crc 0 x = n32 (crcW x) := rfl
def sealF (x : List UInt8) : List UInt8 := x ++ le32 (crcW x)
theorem sealF_length (x : List UInt8) : (sealF x).length = x.length + 4 := by simp [sealF,le32]
def unsealF (b : List UInt8) : List UInt8 × Int :=
 if b.length < 4 then ([],5) else if sealF (b.take (b.length - 4)) = b then (b.take (b.length - 4),0) else ([],6)
def frameF (x : List UInt8) : List UInt8 := sealF (be 4 x.length ++ x)
theorem frameF_length (x : List UInt8) : (frameF x).length = x.length + 8 := by simp [frameF,sealF_length,be_length]; omega
def lenF (b : List UInt8) : Nat := beVal 0 (b.take 4)
def takeFr (b : List UInt8) : List UInt8 × List UInt8 × Int :=
 if b.length < 4 then ([],[],5) else if 4096 < lenF b then ([],[],6) else if b.length < lenF b + 8 then ([],[],5)
 else if (unsealF (b.take (lenF b + 8))).2 ≠ 0 then ([],[],6) else ((b.take (lenF b + 4)).drop 4,b.drop (lenF b + 8),0)
theorem takeFr_ok {b : List UInt8} (h : (takeFr b).2.2 = 0) : (takeFr b).1.length ≤ 4096 ∧ b = frameF (takeFr b).1 ++ (takeFr b).2.1 := by
 unfold takeFr at h ⊢
 split at h
 · simp at h
 · rename_i h4
   rw [if_neg h4]
   split at h
   · simp at h
   · rename_i h5
     rw [if_neg h5]
     split at h
     · simp at h
     · rename_i h6
       rw [if_neg h6]
       split at h
       · simp at h
       · rename_i h7
         rw [if_neg h7]
         simp only
         have h8 : sealF (b.take (lenF b + 4)) = b.take (lenF b + 8) := by
          have hl : (b.take (lenF b + 8)).length = lenF b + 8 := by rw [List.length_take]; omega
          simp only [ne_eq,Decidable.not_not] at h7
          unfold unsealF at h7
          rw [hl,if_neg (by omega),List.take_take,show min (lenF b + 8 - 4) (lenF b + 8) = lenF b + 4 by omega] at h7
          split at h7
          · assumption
          · simp at h7
         have hx : ((b.take (lenF b + 4)).drop 4).length = lenF b := by simp; omega
         refine ⟨by omega,?_⟩
         have hbe : be 4 (lenF b) = b.take 4 := by
          have h1 := beVal_lt (b.take 4) 0
          have hl : (b.take 4).length = 4 := by rw [List.length_take]; omega
          have : ∀ l : List UInt8,l.length = 4 → be 4 (beVal 0 l) = l := by
           intro l hl
           match l,hl with
           | [p,q,r,s],_ =>
            have hp := p.toNat_lt; have hq := q.toNat_lt; have hr := r.toNat_lt; have hs := s.toNat_lt
            apply List.ext_getElem?
            intro j
            by_cases hj : j < 4
            · rw [be_get 4 _ j hj]
              have hv : beVal 0 [p,q,r,s] = ((p.toNat * 256 + q.toNat) * 256 + r.toNat) * 256 + s.toNat := by simp [beVal]
              rw [hv]
              match j,hj with
              | 0,_ => simp; first | done | (apply UInt8.toNat_inj.1; rw [UInt8.toNat_ofNat']; omega)
              | 1,_ => simp <;> first | done | (apply UInt8.toNat_inj.1; rw [UInt8.toNat_ofNat']; omega)
              | 2,_ => simp <;> first | done | (apply UInt8.toNat_inj.1; rw [UInt8.toNat_ofNat']; omega)
              | 3,_ => simp <;> first | done | (apply UInt8.toNat_inj.1; rw [UInt8.toNat_ofNat']; omega)
            · rw [List.getElem?_eq_none (by rw [be_length]; omega),List.getElem?_eq_none (by simp; omega)]
          exact this _ hl
         unfold frameF
         rw [hx,hbe]
         have e : b.take 4 ++ (b.take (lenF b + 4)).drop 4 = b.take (lenF b + 4) := by
          have := List.take_append_drop 4 (b.take (lenF b + 4))
          rw [List.take_take,show min 4 (lenF b + 4) = 4 by omega] at this
          exact this
         rw [e,h8,List.take_append_drop]
theorem takeFr_rest {b : List UInt8} (h : (takeFr b).2.2 = 0) : (takeFr b).2.1.length + (takeFr b).1.length + 8 = b.length := by
 have := (takeFr_ok h).2
 have h2 := congrArg List.length this
 rw [List.length_append,frameF_length] at h2
 omega
def allF (b : List UInt8) : List (List UInt8) × Nat :=
 if h : (takeFr b).2.2 = 0 then ((takeFr b).1 :: (allF (takeFr b).2.1).1,(takeFr b).1.length + 8 + (allF (takeFr b).2.1).2) else ([],0)
termination_by b.length
decreasing_by all_goals (have := takeFr_rest h; omega)
theorem allF_ok {b : List UInt8} (h : (takeFr b).2.2 = 0) : allF b = ((takeFr b).1 :: (allF (takeFr b).2.1).1,(takeFr b).1.length + 8 + (allF (takeFr b).2.1).2) := by
 rw [allF,dif_pos h]
theorem allF_none {b : List UInt8} (h : ¬ (takeFr b).2.2 = 0) : allF b = ([],0) := by rw [allF,dif_neg h]
theorem allF_le (b : List UInt8) : (allF b).2 ≤ b.length := by
 induction hn : b.length using Nat.strongRecOn generalizing b with
 | _ n ih =>
  by_cases h : (takeFr b).2.2 = 0
  · have h1 := takeFr_rest h
    have := ih _ (by omega) (takeFr b).2.1 rfl
    rw [allF_ok h]
    simp only
    omega
  · rw [allF_none h]; simp
theorem allF_len (b : List UInt8) : (allF b).1.length ≤ b.length := by
 induction hn : b.length using Nat.strongRecOn generalizing b with
 | _ n ih =>
  by_cases h : (takeFr b).2.2 = 0
  · have h1 := takeFr_rest h
    have := ih _ (by omega) (takeFr b).2.1 rfl
    rw [allF_ok h]
    simp only [List.length_cons]
    omega
  · rw [allF_none h]; simp
theorem takeFr_len (b : List UInt8) : (takeFr b).1.length ≤ b.length ∧ (takeFr b).2.1.length ≤ b.length := by
 unfold takeFr
 split
 · simp
 · split
   · simp
   · split
     · simp
     · split
       · simp
       · simp only [List.length_drop,List.length_take]; omega
def bv (x : List UInt8) : V := .bytes x none
def unbv : V → List UInt8
 | .bytes x _ => x
 | _ => []
theorem unbv_map (l : List (List UInt8)) : (l.map bv).map unbv = l := by
 induction l with
 | nil => rfl
 | cons x l ih => rw [List.map_cons,List.map_cons,ih]; rfl
theorem bv_clean (l : List (List UInt8)) : ∀ v ∈ l.map bv,v.clean := by
 intro v hv; simp only [List.mem_map] at hv; obtain ⟨x,_,rfl⟩ := hv; simp only [bv,V.clean]
theorem getD_bv {l : List (List UInt8)} {k : Nat} (h : k < l.length) : (l.map bv).getD k .any = .bytes (l.getD k []) none := by
 simp [List.getD_eq_getElem?_getD,List.getElem?_eq_getElem h,bv]
end Go.Proofs.YthlmfalfnpjndaaGreat.FrameM
namespace Go.Proofs.YthlmfalfnpjndaaGreat.FrameM
open Go Aw CrcM CrcN VaryM
set_option linter.unusedVariables false
set_option linter.unusedSimpArgs false
theorem seal_take (x : List UInt8) : (sealF x).take ((sealF x).length - 4) = x := by
 rw [sealF_length,show x.length + 4 - 4 = x.length by omega]
 unfold sealF
 rw [List.take_left]
theorem unseal_seal (x : List UInt8) : unsealF (sealF x) = (x,0) := by
 unfold unsealF
 rw [seal_take,if_neg (by rw [sealF_length]; omega),if_pos rfl]
theorem lenF_frame {x r : List UInt8} (h : x.length ≤ 4096) : lenF (frameF x ++ r) = x.length := by
 unfold lenF frameF sealF
 rw [List.append_assoc,List.append_assoc,List.take_append_of_le_length (by rw [be_length]; omega),List.take_of_length_le (by rw [be_length]; omega),beVal_be]
 omega
theorem take_frame {x : List UInt8} (r : List UInt8) (h : x.length ≤ 4096) : takeFr (frameF x ++ r) = (x,r,0) := by
 have hlf := lenF_frame (r := r) h
 have hl := frameF_length x
 unfold takeFr
 have hl2 : (frameF x ++ r).length = x.length + 8 + r.length := by rw [List.length_append,hl]
 have ht : (frameF x ++ r).take (x.length + 8) = frameF x := by rw [← hl,List.take_left]
 have hd : (frameF x ++ r).drop (x.length + 8) = r := by rw [← hl,List.drop_left]
 have hm : ((frameF x ++ r).take (x.length + 4)).drop 4 = x := by
  have e : frameF x ++ r = be 4 x.length ++ (x ++ (le32 (crcW (be 4 x.length ++ x)) ++ r)) := by
   unfold frameF sealF; simp
  have hb : (be 4 x.length).length = 4 := be_length _ _
  rw [e,List.drop_take,show x.length + 4 - 4 = x.length by omega]
  rw [List.drop_left' hb,List.take_left]
 rw [if_neg (by omega),hlf,if_neg (by omega),if_neg (by omega),ht,hd,hm]
 have hu : (unsealF (frameF x)).2 = 0 := by unfold frameF; rw [unseal_seal]
 rw [if_neg (by simp [hu])]
def framesF (l : List (List UInt8)) : List UInt8 := l.flatMap frameF
theorem framesF_cons (x : List UInt8) (l : List (List UInt8)) : framesF (x :: l) = frameF x ++ framesF l := List.flatMap_cons ..
theorem all_frames (l : List (List UInt8)) (r : List UInt8) (h : ∀ x ∈ l,x.length ≤ 4096) : allF (framesF l ++ r) = (l ++ (allF r).1,(framesF l).length + (allF r).2) := by
 induction l with
 | nil => simp [framesF]
 | cons x l ih =>
  have hx := h x (List.mem_cons_self)
  have ht : takeFr (framesF (x :: l) ++ r) = (x,framesF l ++ r,0) := by
   rw [framesF_cons,List.append_assoc,take_frame _ hx]
  rw [allF_ok (by rw [ht]),ht]
  simp only
  rw [ih fun y hy => h y (List.mem_cons_of_mem _ hy),framesF_cons]
  simp only [List.length_append,frameF_length,List.cons_append]
  congr 1
  omega
theorem all_nil : allF [] = ([],0) := by
 refine allF_none ?_
 show ¬ (takeFr []).2.2 = 0
 unfold takeFr
 rw [if_pos (by simp)]
 simp
theorem all_frames' (l : List (List UInt8)) (h : ∀ x ∈ l,x.length ≤ 4096) : allF (framesF l) = (l,(framesF l).length) := by
 have := all_frames l [] h
 rw [all_nil,List.append_nil,List.append_nil] at this
 exact this
end Go.Proofs.YthlmfalfnpjndaaGreat.FrameM
