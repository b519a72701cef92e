import Derived.Test.YthlmfalfnpjndaaGreatAw14
namespace Go.Proofs.YthlmfalfnpjndaaGreat.Num
open Go Aw
set_option linter.unusedVariables false
set_option linter.unusedSimpArgs false
theorem i64w {n : Int} (h0 : -9223372036854775808 ≤ n) (h1 : n ≤ 9223372036854775807) : IntKind.i64.wrap n = n := IntWalk.i64_in _ ⟨h0,h1⟩
theorem u64w {n : Int} (h0 : 0 ≤ n) (h1 : n ≤ 18446744073709551615) : IntKind.u64.wrap n = n := IntWalk.u64_in _ ⟨h0,h1⟩
theorem u32w {n : Int} (h0 : 0 ≤ n) (h1 : n ≤ 4294967295) : IntKind.u32.wrap n = n := IntWalk.u32_in _ ⟨h0,h1⟩
theorem u8wrap (n : Int) : IntKind.u8.wrap n = n % 256 := by rw [IntKind.wrap_u8]
theorem u64wrap (n : Int) : IntKind.u64.wrap n = n % 18446744073709551616 := by rw [IntKind.wrap_u64]
theorem ofInt_toNat (w : Nat) (n : Nat) : (BitVec.ofInt w (n : Int)).toNat = n % 2 ^ w := by simp [BitVec.toNat_ofInt]
theorem or_add {a b s : Nat} (h : a < 2 ^ s) : a ||| (b * 2 ^ s) = a + b * 2 ^ s := by
 have := Nat.shiftLeft_add_eq_or_of_lt h b
 rw [Nat.shiftLeft_eq] at this
 rw [Nat.or_comm,← this,Nat.add_comm]
theorem or128 : ∀ x : BitVec 8,(x ||| 128#8).toNat = x.toNat % 128 + 128 := by decide
theorem low7 (m : Nat) : orK .u8 (IntKind.u8.wrap (m : Int)) 128 = ((m % 128 + 128 : Nat) : Int) := by
 have h : BitVec.ofInt 8 128 = 128#8 := by decide
 have e : IntKind.u8.wrap (m : Int) = ((m % 256 : Nat) : Int) := by rw [u8wrap]; omega
 show IntKind.u8.wrap ↑(BitVec.ofInt 8 (IntKind.u8.wrap (m : Int)) ||| BitVec.ofInt 8 128).toNat = _
 rw [h,or128,e,ofInt_toNat,u8wrap]
 omega
theorem orK_comm (k : IntKind) (a b : Int) : orK k a b = orK k b a := by unfold orK; rw [BitVec.or_comm]
theorem or64_add {a b s : Nat} (ha : a < 2 ^ s) (hb : a + b * 2 ^ s < 18446744073709551616) : orK .u64 (a : Int) ((b * 2 ^ s : Nat) : Int) = ((a + b * 2 ^ s : Nat) : Int) := by
 show IntKind.u64.wrap ↑(BitVec.ofInt 64 (a : Int) ||| BitVec.ofInt 64 ((b * 2 ^ s : Nat) : Int)).toNat = _
 rw [BitVec.toNat_or,ofInt_toNat,ofInt_toNat,Nat.mod_eq_of_lt (by omega),Nat.mod_eq_of_lt (by omega),or_add ha,u64w] <;> omega
theorem shl64 (a : Nat) (s : Nat) (hs : s ≤ 64) : shlK .u64 (a : Int) (s : Int) = ((a * 2 ^ s % 18446744073709551616 : Nat) : Int) := by
 show IntKind.u64.wrap ((a : Int) * 2 ^ (min ((s : Int)).toNat 64)) = _
 have e : (2 : Int) ^ s = ((2 ^ s : Nat) : Int) := by simp
 rw [u64wrap,Int.toNat_natCast,Nat.min_eq_left hs,e,← Int.natCast_mul]
 generalize a * 2 ^ s = q
 omega
theorem shr64 (a : Nat) (s : Nat) (hs : s ≤ 64) : shrK .u64 (a : Int) (s : Int) = ((a / 2 ^ s : Nat) : Int) := by
 show (a : Int) / 2 ^ (min ((s : Int)).toNat 64) = _
 have e : (2 : Int) ^ s = ((2 ^ s : Nat) : Int) := by simp
 rw [Int.toNat_natCast,Nat.min_eq_left hs,e,← Int.natCast_ediv]
theorem mb (n : Nat) (h : n ≤ 140737488355328) : n ≤ maxBytes := by unfold maxBytes; omega
theorem pow256 (k : Nat) : 2 ^ (8 * k) = 256 ^ k := by rw [Nat.pow_mul]
theorem shr8 (m k : Nat) (h : k ≤ 8) : shrK .u64 (m : Int) (8 * (k : Int)) = ((m / 256 ^ k : Nat) : Int) := by
 have := shr64 m (8 * k) (by omega)
 rw [pow256] at this
 rw [← this]
 congr 1
theorem u8nat (q : Nat) : IntKind.u8.wrap (q : Int) = ((q % 256 : Nat) : Int) := by rw [u8wrap]; omega
end Go.Proofs.YthlmfalfnpjndaaGreat.Num
namespace Go.Proofs.YthlmfalfnpjndaaGreat.CrcM
set_option linter.unusedVariables false
set_option linter.unusedSimpArgs false
abbrev W := BitVec 32
def P : W := 2197175160#32
def step (x : W) : W := (x >>> 1) ^^^ (if x.getLsbD 0 then P else 0#32)
theorem step_xor (x y : W) : step (x ^^^ y) = step x ^^^ step y := by
 unfold step
 rw [BitVec.ushiftRight_xor_distrib,BitVec.getLsbD_xor]
 cases x.getLsbD 0 <;> cases y.getLsbD 0 <;> simp
 · rw [BitVec.xor_assoc]
 · rw [BitVec.xor_assoc,BitVec.xor_assoc,BitVec.xor_comm P]
 · rw [BitVec.xor_assoc,BitVec.xor_comm P (y >>> 1 ^^^ P),BitVec.xor_assoc,BitVec.xor_self]; simp
def steps : Nat → W → W
 | 0,x => x
 | n + 1,x => steps n (step x)
theorem steps_xor (n : Nat) : ∀ x y,steps n (x ^^^ y) = steps n x ^^^ steps n y := by
 induction n with
 | zero => intro x y; rfl
 | succ n ih => intro x y; rw [steps,step_xor,ih]; rfl
def feed : W → List UInt8 → W
 | s,[] => s
 | s,c :: l => feed (steps 8 (s ^^^ BitVec.ofNat 32 c.toNat)) l
def sum (init : W) (l : List UInt8) : W := feed (init ^^^ 4294967295#32) l ^^^ 4294967295#32
theorem feed_append (l m : List UInt8) : ∀ s,feed s (l ++ m) = feed (feed s l) m := by
 induction l with
 | nil => intro s; rfl
 | cons c l ih => intro s; exact ih _
theorem sum_append (init : W) (l m : List UInt8) : sum init (l ++ m) = sum (sum init l) m := by
 unfold sum
 rw [feed_append,BitVec.xor_assoc,BitVec.xor_self]; simp
theorem step_shl (x : W) (h : x.getLsbD 31 = false) : step (x <<< 1) = x := by
 unfold step
 have h0 : (x <<< 1).getLsbD 0 = false := by simp
 rw [h0]
 apply BitVec.eq_of_getLsbD_eq
 intro i hi
 by_cases h' : i = 31
 · subst h'; rw [h]; simp [BitVec.getLsbD_ushiftRight]
 · simp [BitVec.getLsbD_ushiftRight,BitVec.getLsbD_shiftLeft]; omega
theorem steps_shl (n : Nat) : ∀ (y : W),(∀ j,32 - n ≤ j → y.getLsbD j = false) → steps n (y <<< n) = y := by
 induction n with
 | zero => intro y _; simp [steps]
 | succ n ih =>
  intro y hy
  have e : y <<< (n + 1) = (y <<< n) <<< 1 := by rw [BitVec.shiftLeft_add]
  rw [steps,e,step_shl]
  · exact ih y fun j hj => by
     by_cases h' : 32 - n ≤ j
     · exact hy j (by omega)
     · omega
  · rw [BitVec.getLsbD_shiftLeft]
    by_cases h' : 31 < n
    · simp [h']
    · simp; intro _ ; exact hy _ (by omega)
theorem steps8 (x : W) : steps 8 x = steps 8 (x &&& 255#32) ^^^ (x >>> 8) := by
 have e : x = (x &&& 255#32) ^^^ ((x >>> 8) <<< 8) := by
  apply BitVec.eq_of_getLsbD_eq
  intro i hi
  have h255 : (255#32).getLsbD i = decide (i < 8) := by
   rw [show (255#32) = BitVec.ofNat 32 (2 ^ 8 - 1) from rfl,BitVec.getLsbD_ofNat,Nat.testBit_two_pow_sub_one]; simp [hi]
  simp only [BitVec.getLsbD_xor,BitVec.getLsbD_and,BitVec.getLsbD_shiftLeft,BitVec.getLsbD_ushiftRight,h255]
  by_cases h8 : i < 8
  · simp [h8]
  · simp [h8,hi]
    rw [show 8 + (i - 8) = i by omega,BitVec.getLsbD_eq_getElem hi]
 have h8 : steps 8 ((x >>> 8) <<< 8) = x >>> 8 := steps_shl 8 _ fun j hj => by
  rw [BitVec.getLsbD_ushiftRight]; exact BitVec.getLsbD_of_ge _ _ (by omega)
 conv => lhs; rw [e]
 rw [steps_xor,h8]
end Go.Proofs.YthlmfalfnpjndaaGreat.CrcM
namespace Go.Proofs.YthlmfalfnpjndaaGreat.CrcN
open Go Aw Num CrcM
set_option linter.unusedVariables false
set_option linter.unusedSimpArgs false
def n32 (x : W) : Int := (x.toNat : Int)
theorem n32_bound (x : W) : 0 ≤ n32 x ∧ n32 x ≤ 4294967295 := by unfold n32; have := x.isLt; omega
theorem n32_of {n : Int} (h0 : 0 ≤ n) (h1 : n ≤ 4294967295) : n = n32 (BitVec.ofInt 32 n) := by
 unfold n32; rw [BitVec.toNat_ofInt]; omega
theorem ofInt_n32 (x : W) : BitVec.ofInt 32 (n32 x) = x := by
 apply BitVec.eq_of_toNat_eq
 unfold n32; rw [BitVec.toNat_ofInt]; have := x.isLt; omega
theorem n32_P : (2197175160 : Int) = n32 P := by decide
theorem n32_ones : (4294967295 : Int) = n32 4294967295#32 := by decide
theorem xor32 (x y : W) : xorK .u32 (n32 x) (n32 y) = n32 (x ^^^ y) := by
 have e : ∀ z : W,BitVec.ofInt 32 (n32 z) = z := ofInt_n32
 show IntKind.u32.wrap ((BitVec.ofInt 32 (n32 x) ^^^ BitVec.ofInt 32 (n32 y)).toNat : Int) = _
 rw [e,e]
 have := (x ^^^ y).isLt
 exact u32w (by omega) (by omega)
theorem odd32 (x : W) : decide ((n32 x).tmod 2 = 1) = x.getLsbD 0 := by
 have h : (n32 x).tmod 2 = ((x.toNat % 2 : Nat) : Int) := by unfold n32; rw [Int.tmod_eq_emod_of_nonneg (by omega)]; omega
 rw [h,BitVec.getLsbD,Nat.testBit_zero]
 congr 1
 apply propext
 omega
theorem div32 (x : W) (n : Nat) : IntKind.u32.wrap ((n32 x).tdiv ((2 ^ n : Nat) : Int)) = n32 (x >>> n) := by
 have h : (n32 x).tdiv ((2 ^ n : Nat) : Int) = ((x.toNat / 2 ^ n : Nat) : Int) := by unfold n32; rw [Int.tdiv_eq_ediv_of_nonneg (by omega)]; exact (Int.natCast_ediv _ _).symm
 have h2 : x.toNat / 2 ^ n ≤ x.toNat := Nat.div_le_self _ _
 have := x.isLt
 have e : n32 (x >>> n) = ((x.toNat / 2 ^ n : Nat) : Int) := by unfold n32; rw [BitVec.toNat_ushiftRight,Nat.shiftRight_eq_div_pow]
 rw [h,e]
 generalize x.toNat / 2 ^ n = q at h2 ⊢
 exact u32w (by omega) (by omega)
theorem half32 (x : W) : IntKind.u32.wrap ((n32 x).tdiv 2) = n32 (x >>> 1) := div32 x 1
theorem div32_256 (x : W) : IntKind.u32.wrap ((n32 x).tdiv 256) = n32 (x >>> 8) := div32 x 8
theorem and255 (x : W) : (x &&& 255#32).toNat = x.toNat % 256 := by
 rw [BitVec.toNat_and]
 exact Nat.and_two_pow_sub_one_eq_mod x.toNat 8
theorem mod32_256 (x : W) : (n32 x).tmod 256 = n32 (x &&& 255#32) := by
 unfold n32
 rw [Int.tmod_eq_emod_of_nonneg (by omega),and255]
 omega
theorem step_eq (x : W) : CrcM.step x = if x.getLsbD 0 then (x >>> 1) ^^^ P else x >>> 1 := by
 unfold CrcM.step; split <;> simp
def w8 (b : UInt8) : W := BitVec.ofNat 32 b.toNat
theorem n32_w8 (b : UInt8) : ((b.toNat : Nat) : Int) = n32 (w8 b) := by
 unfold n32 w8; rw [BitVec.toNat_ofNat]; have := b.toNat_lt; omega
theorem wrap8 (b : UInt8) : IntKind.u32.wrap ((b.toNat : Nat) : Int) = n32 (w8 b) := by
 rw [← n32_w8]; have := b.toNat_lt; exact u32w (by omega) (by omega)
theorem w8_high (x : W) (b : UInt8) : (x ^^^ w8 b) >>> 8 = x >>> 8 := by
 apply BitVec.eq_of_getLsbD_eq
 intro i hi
 have : (w8 b).getLsbD (8 + i) = false := by
  unfold w8
  rw [BitVec.getLsbD_ofNat,Nat.testBit_lt_two_pow (Nat.lt_of_lt_of_le b.toNat_lt (Nat.pow_le_pow_right (by omega) (by omega : 8 ≤ 8 + i)))]
  simp
 simp [BitVec.getLsbD_ushiftRight,BitVec.getLsbD_xor,this]
theorem byte_step (x : W) (b : UInt8) : steps 8 (x ^^^ w8 b) = steps 8 ((x ^^^ w8 b) &&& 255#32) ^^^ (x >>> 8) := by
 rw [steps8,w8_high]
theorem byte_at (x : W) (b : UInt8) : xorK .u8 (IntKind.u8.wrap (n32 x)) ((b.toNat : Nat) : Int) = n32 ((x ^^^ w8 b) &&& 255#32) := by
 have e1 : IntKind.u8.wrap (n32 x) = ((x.toNat % 256 : Nat) : Int) := by rw [u8wrap]; unfold n32; omega
 show IntKind.u8.wrap ((BitVec.ofInt 8 (IntKind.u8.wrap (n32 x)) ^^^ BitVec.ofInt 8 ((b.toNat : Nat) : Int)).toNat : Int) = _
 have hb := b.toNat_lt
 rw [e1,BitVec.toNat_xor,ofInt_toNat,ofInt_toNat]
 unfold n32
 rw [and255,BitVec.toNat_xor]
 have e2 : (w8 b).toNat = b.toNat := by unfold w8; rw [BitVec.toNat_ofNat]; omega
 have e3 : (x.toNat ^^^ b.toNat) % 256 = (x.toNat % 256) ^^^ (b.toNat % 256) := Nat.xor_mod_two_pow (n := 8)
 rw [e2,e3,u8wrap,show (2 : Nat) ^ 8 = 256 from rfl,Nat.mod_mod]
 have : (x.toNat % 256) ^^^ (b.toNat % 256) < 256 := Nat.xor_lt_two_pow (n := 8) (Nat.mod_lt _ (by omega)) (Nat.mod_lt _ (by omega))
 omega
def ent (i : Nat) : Int := n32 (steps 8 (BitVec.ofNat 32 i))
def tbl : List V := (List.range 256).map fun i => .int .u32 (ent i)
theorem tbl_length : tbl.length = 256 := by simp [tbl]
theorem tbl_get {j : Nat} (h : j < 256) : tbl[j]? = some (.int .u32 (ent j)) := by simp [tbl,h]
theorem tbl_clean : ∀ v ∈ tbl,v.clean := by
 intro v hv; simp only [tbl,List.mem_map] at hv; obtain ⟨i,_,rfl⟩ := hv; simp only [V.clean]
def part (i : Nat) : List V := (List.range i).map (fun i => .int .u32 (ent i)) ++ List.replicate (256 - i) (.int .u32 0)
theorem part_zero : part 0 = rep 256 (.int .u32 0) := rfl
theorem part_full : part 256 = tbl := by unfold part tbl; rw [Nat.sub_self,List.replicate_zero,List.append_nil]
theorem part_length {i : Nat} (h : i ≤ 256) : (part i).length = 256 := by simp [part]; omega
theorem part_set {i : Nat} (h : i < 256) : setSeg (part i) i [.int .u32 (ent i)] = part (i + 1) := by
 unfold setSeg part
 have e1 : ((List.range i).map (fun i => V.int .u32 (ent i)) ++ List.replicate (256 - i) (V.int .u32 0)).take i = (List.range i).map (fun i => V.int .u32 (ent i)) := by
  rw [List.take_append_of_le_length (by simp)]; exact List.take_of_length_le (by simp)
 have e2 : ((List.range i).map (fun i => V.int .u32 (ent i)) ++ List.replicate (256 - i) (V.int .u32 0)).drop (i + 1) = List.replicate (255 - i) (V.int .u32 0) := by
  rw [List.drop_append,List.drop_eq_nil_of_le (by simp),List.nil_append,List.drop_replicate]
  congr 1
  simp only [List.length_map,List.length_range]
  omega
 simp only [List.length_singleton,e1,e2,List.range_succ,List.map_append,List.map_singleton]
 congr 2
 omega
theorem part_take {i : Nat} (h : i ≤ 256) : (part i).take 256 = part i := List.take_of_length_le (by rw [part_length h]; omega)
theorem rep_drop (v : V) : (rep 256 v).drop 256 = [] := List.drop_eq_nil_of_le (by rw [rep_length]; omega)
theorem part_put {i : Nat} (h : i < 256) : (part i).take i ++ [.int .u32 (ent i)] ++ (part i).drop (i + 1) = part (i + 1) := part_set h
theorem ent_eq {i : Nat} (h : i < 256) : n32 (steps 8 (BitVec.ofInt 32 (IntKind.u32.wrap (i : Int)))) = ent i := by
 rw [u32w (by omega) (by omega)]; unfold ent; rw [BitVec.ofInt_natCast]
theorem feed_cons (s : W) (b : UInt8) (l : List UInt8) : feed s (b :: l) = feed (steps 8 (s ^^^ w8 b)) l := rfl
theorem feed_take (s : W) {l : List UInt8} {k : Nat} (h : k < l.length) : feed s (l.take (k + 1)) = steps 8 (feed s (l.take k) ^^^ w8 (l.getD k 0)) := by
 rw [List.take_succ_eq_append_getElem h,feed_append,feed_cons]
 simp [feed,List.getD_eq_getElem?_getD,List.getElem?_eq_getElem h]
theorem tbl_at (x : W) : tbl[(n32 (x &&& 255#32)).toNat]? = some (.int .u32 (n32 (steps 8 (x &&& 255#32)))) := by
 have h : (x &&& 255#32).toNat < 256 := by rw [and255]; omega
 have e : (n32 (x &&& 255#32)).toNat = (x &&& 255#32).toNat := by unfold n32; simp
 rw [e,tbl_get h]
 unfold ent
 simp
theorem tbl_atD (x : W) : tbl.getD (n32 (x &&& 255#32)).toNat (.int .u32 0) = .int .u32 (n32 (steps 8 (x &&& 255#32))) := by
 rw [List.getD_eq_getElem?_getD,tbl_at x,Option.getD_some]
theorem at_bound (x : W) : 0 ≤ n32 (x &&& 255#32) ∧ n32 (x &&& 255#32) < 256 := by
 have h : (x &&& 255#32).toNat < 256 := by rw [and255]; omega
 unfold n32; omega
theorem at_nat (x : W) : (n32 (x &&& 255#32)).toNat < 256 := by have := at_bound x; omega
def crc (s : Int) (l : List UInt8) : Int := n32 (sum (BitVec.ofInt 32 s) l)
theorem crc_feed (s : W) (l : List UInt8) : xorK .u32 4294967295 (n32 (feed (4294967295#32 ^^^ s) l)) = crc (n32 s) l := by
 rw [n32_ones,xor32]; unfold crc sum; rw [ofInt_n32,BitVec.xor_comm (4294967295#32),BitVec.xor_comm s]
def byteAt (x : W) (k : Nat) : UInt8 := UInt8.ofNat (x.toNat / 2 ^ (8 * k))
def le32 (x : W) : List UInt8 := [byteAt x 0,byteAt x 1,byteAt x 2,byteAt x 3]
theorem byte0 (x : W) : UInt8.ofNat (IntKind.u8.wrap (n32 x)).toNat = byteAt x 0 := by
 have e1 : IntKind.u8.wrap (n32 x) = ((x.toNat % 256 : Nat) : Int) := by rw [u8wrap]; unfold n32; omega
 unfold byteAt
 rw [e1,Int.toNat_natCast,Nat.mul_zero,Nat.pow_zero,Nat.div_one]
 apply UInt8.toNat_inj.1
 rw [UInt8.toNat_ofNat',UInt8.toNat_ofNat',Nat.mod_mod]
theorem bytek (x : W) (k : Nat) (hk : 8 * k ≤ 32) : UInt8.ofNat (IntKind.u8.wrap (shrK .u32 (n32 x) ((8 * k : Nat) : Int))).toNat = byteAt x k := by
 have e0 : shrK .u32 (n32 x) ((8 * k : Nat) : Int) = ((x.toNat / 2 ^ (8 * k) : Nat) : Int) := by
  show (n32 x) / 2 ^ (min ((8 * k : Nat) : Int).toNat 32) = _
  rw [Int.toNat_natCast,Nat.min_eq_left hk]
  unfold n32
  rw [Int.natCast_ediv]
  simp
 have e1 : IntKind.u8.wrap (((x.toNat / 2 ^ (8 * k) : Nat) : Int)) = ((x.toNat / 2 ^ (8 * k) % 256 : Nat) : Int) := by
  rw [u8wrap]
  generalize x.toNat / 2 ^ (8 * k) = q
  omega
 unfold byteAt
 rw [e0,e1,Int.toNat_natCast]
 apply UInt8.toNat_inj.1
 rw [UInt8.toNat_ofNat',UInt8.toNat_ofNat',Nat.mod_mod]
theorem byte1 (x : W) : UInt8.ofNat (IntKind.u8.wrap (shrK .u32 (n32 x) 8)).toNat = byteAt x 1 := bytek x 1 (by omega)
theorem byte2 (x : W) : UInt8.ofNat (IntKind.u8.wrap (shrK .u32 (n32 x) 16)).toNat = byteAt x 2 := bytek x 2 (by omega)
theorem byte3 (x : W) : UInt8.ofNat (IntKind.u8.wrap (shrK .u32 (n32 x) 24)).toNat = byteAt x 3 := bytek x 3 (by omega)
theorem u8wrap_in (n : Int) : 0 ≤ IntKind.u8.wrap n ∧ IntKind.u8.wrap n < 256 := by rw [u8wrap]; omega
theorem byteAt_shift (x : W) (k j : Nat) : byteAt (x >>> (8 * k)) j = byteAt x (k + j) := by
 unfold byteAt
 rw [BitVec.toNat_ushiftRight,Nat.shiftRight_eq_div_pow,Nat.div_div_eq_div_mul,← Nat.pow_add,Nat.mul_add]
theorem rbyte0 (x : W) : UInt8.ofNat (IntKind.u8.wrap ((n32 x).tmod 256)).toNat = byteAt x 0 := by
 rw [← byte0 x]
 congr 2
 unfold n32
 rw [Int.tmod_eq_emod_of_nonneg (by omega),u8wrap,u8wrap]
 omega
theorem rbyte1 (x : W) : UInt8.ofNat (IntKind.u8.wrap ((IntKind.u32.wrap ((n32 x).tdiv 256)).tmod 256)).toNat = byteAt x 1 := by
 rw [div32_256,rbyte0]; exact byteAt_shift x 1 0
theorem rbyte2 (x : W) : UInt8.ofNat (IntKind.u8.wrap ((IntKind.u32.wrap ((n32 x).tdiv 65536)).tmod 256)).toNat = byteAt x 2 := by
 have := div32 x 16
 rw [show ((2 ^ 16 : Nat) : Int) = 65536 from rfl] at this
 rw [this,rbyte0]; exact byteAt_shift x 2 0
theorem rbyte3 (x : W) : UInt8.ofNat (IntKind.u8.wrap (IntKind.u32.wrap ((n32 x).tdiv 16777216))).toNat = byteAt x 3 := by
 have := div32 x 24
 rw [show ((2 ^ 24 : Nat) : Int) = 16777216 from rfl] at this
 rw [this,byte0]; exact byteAt_shift x 3 0
end Go.Proofs.YthlmfalfnpjndaaGreat.CrcN
