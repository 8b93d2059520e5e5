/- Plain mathematics of 32-bit words as sets of elements: no program is named here. -/
import Derived.WalkKit
import Derived.Laws.Bits64b
import Derived.Lib.TrailingZeros
namespace Go.Proofs.Ytbnjbnjgfjpegaa
open Go.RowKit

/-- the word with element i alone -/
def bitW (i : Nat) : Nat := 2 ^ i
/-- is element i in the word? -/
def hasB (x i : Nat) : Bool := x.testBit i
/-- a without b, 32 bits -/
def andN (a b : Nat) : Nat := a &&& (4294967295 ^^^ b)
def andW (a b : Nat) : Nat := a &&& b
def orW (a b : Nat) : Nat := a ||| b
/-- the word with the first n elements -/
def allW (n : Nat) : Nat := 2 ^ n - 1
/-- the place of the lowest element -/
def lowW (x : Nat) : Nat := Lib.ctz 64 x
/-- the word without its lowest element -/
def popW (x : Nat) : Nat := x &&& (x - 1)

/-- the i-th word -/
def wd (us : List Nat) (i : Nat) : Nat := us.getD i 0

theorem pow32 : (2 : Nat) ^ 32 = 4294967296 := by decide
theorem pow64 : (2 : Nat) ^ 64 = 18446744073709551616 := by decide
theorem bitW_lt {i : Nat} (h : i < 32) : bitW i < 4294967296 := by
  unfold bitW; rw [← pow32]; exact Nat.pow_lt_pow_right (by decide) h
theorem bitW_pos (i : Nat) : 0 < bitW i := Nat.two_pow_pos i
theorem hasB_bitW (i j : Nat) : hasB (bitW i) j = decide (i = j) := by unfold hasB bitW; exact Nat.testBit_two_pow
theorem hasB_and (a b j : Nat) : hasB (andW a b) j = (hasB a j && hasB b j) := by unfold hasB andW; exact Nat.testBit_and _ _ _
theorem hasB_or (a b j : Nat) : hasB (orW a b) j = (hasB a j || hasB b j) := by unfold hasB orW; exact Nat.testBit_or _ _ _
theorem andW_lt {a b : Nat} (h : a < 4294967296) : andW a b < 4294967296 := by
  unfold andW; exact Nat.lt_of_le_of_lt Nat.and_le_left h
theorem orW_lt {a b : Nat} (h : a < 4294967296) (h' : b < 4294967296) : orW a b < 4294967296 := by
  unfold orW; rw [← pow32] at *; exact Nat.or_lt_two_pow h h'
theorem andN_lt {a b : Nat} (h : a < 4294967296) : andN a b < 4294967296 := by
  unfold andN; exact Nat.lt_of_le_of_lt Nat.and_le_left h
theorem hasB_ge {x j : Nat} (h : x < 4294967296) (hj : 32 ≤ j) : hasB x j = false := by
  unfold hasB; apply Nat.testBit_lt_two_pow
  rw [← pow32] at h
  exact Nat.lt_of_lt_of_le h (Nat.pow_le_pow_right (by decide) hj)
theorem hasB_lt {x j : Nat} (h : x < 4294967296) (hj : hasB x j = true) : j < 32 := by
  apply Nat.lt_of_not_le; intro hle; rw [hasB_ge h hle] at hj; cases hj
theorem ones32 (j : Nat) : (4294967295 : Nat).testBit j = decide (j < 32) := by
  have : (4294967295 : Nat) = 2 ^ 32 - 1 := by decide
  rw [this, Nat.testBit_two_pow_sub_one]
theorem hasB_andN {a : Nat} (ha : a < 4294967296) (b j : Nat) : hasB (andN a b) j = (hasB a j && !hasB b j) := by
  unfold andN
  show (a &&& (4294967295 ^^^ b)).testBit j = (a.testBit j && !b.testBit j)
  rw [Nat.testBit_and, Nat.testBit_xor, ones32]
  by_cases hj : j < 32
  · simp [hj]
  · have : a.testBit j = false := hasB_ge ha (by omega)
    simp [this]
theorem hasB_all (n j : Nat) : hasB (allW n) j = decide (j < n) := by unfold hasB allW; exact Nat.testBit_two_pow_sub_one n j
theorem allW_lt {n : Nat} (h : n ≤ 32) : allW n < 4294967296 := by
  unfold allW; have := Nat.pow_le_pow_right (n := 2) (by decide) h; rw [pow32] at this; have := Nat.two_pow_pos n; omega
theorem word_ext {a b : Nat} (h : ∀ j, hasB a j = hasB b j) : a = b := Nat.eq_of_testBit_eq h
theorem hasB_zero (j : Nat) : hasB 0 j = false := by unfold hasB; exact Nat.zero_testBit j
theorem word_zero {a : Nat} : a = 0 ↔ ∀ j, hasB a j = false := by
  constructor
  · intro h j; rw [h, hasB_zero]
  · intro h; exact word_ext (fun j => by rw [h, hasB_zero])

/-! ### the model's words for these -/
theorem ofInt32 (a : Nat) (h : a < 4294967296) : (BitVec.ofInt 32 (a : Int)).toNat = a := by
  rw [BitVec.ofInt_natCast, BitVec.toNat_ofNat]; exact Nat.mod_eq_of_lt (by omega)
theorem wrap_u32 (n : Int) : IntKind.u32.wrap n = n % 4294967296 := by simp [IntKind.wrap, IntKind.signed, IntKind.bits]
theorem bits_and32 (a b : Nat) (ha : a < 4294967296) (hb : b < 4294967296) : bits .and .u32 (a : Int) (b : Int) = ((andW a b : Nat) : Int) := by
  have hx := andW_lt (b := b) ha
  show IntKind.u32.wrap ((BitVec.ofInt 32 (a : Int) &&& BitVec.ofInt 32 (b : Int)).toNat : Int) = _
  rw [BitVec.toNat_and, ofInt32 a ha, ofInt32 b hb, wrap_u32]; unfold andW at *; omega
theorem bits_or32 (a b : Nat) (ha : a < 4294967296) (hb : b < 4294967296) : bits .or .u32 (a : Int) (b : Int) = ((orW a b : Nat) : Int) := by
  have hx := orW_lt ha hb
  show IntKind.u32.wrap ((BitVec.ofInt 32 (a : Int) ||| BitVec.ofInt 32 (b : Int)).toNat : Int) = _
  rw [BitVec.toNat_or, ofInt32 a ha, ofInt32 b hb, wrap_u32]; unfold orW at *; omega
theorem bits_andN32 (a b : Nat) (ha : a < 4294967296) (hb : b < 4294967296) : bits .andNot .u32 (a : Int) (b : Int) = ((andN a b : Nat) : Int) := by
  have hx := andN_lt (b := b) ha
  show IntKind.u32.wrap ((BitVec.ofInt 32 (a : Int) &&& ~~~(BitVec.ofInt 32 (b : Int))).toNat : Int) = _
  have e : (4294967295 ^^^ b) = 2 ^ 32 - 1 - b := by
    apply Nat.eq_of_testBit_eq
    intro j
    rw [Nat.testBit_xor, ones32]
    have h2 : 2 ^ 32 - 1 - b = 2 ^ 32 - (b + 1) := by omega
    rw [h2, Nat.testBit_two_pow_sub_succ (by rw [pow32]; exact hb)]
    by_cases hj : j < 32
    · simp [hj]
    · have : b.testBit j = false := hasB_ge hb (by omega)
      simp [hj, this]
  rw [BitVec.toNat_and, BitVec.toNat_not, ofInt32 a ha, ofInt32 b hb, ← e, wrap_u32]; unfold andN at *; omega
theorem and_ne_zero (x i : Nat) : ((andW x (bitW i) : Nat) : Int) != 0 ↔ hasB x i = true := by
  have h : andW x (bitW i) = 0 ↔ hasB x i = false := by
    rw [word_zero]
    constructor
    · intro h; have := h i; rw [hasB_and, hasB_bitW] at this; simpa using this
    · intro h j; rw [hasB_and, hasB_bitW]; by_cases e : i = j
      · subst e; simp [h]
      · simp [e]
  rw [bne_iff_ne]
  constructor
  · intro hne; cases hb : hasB x i with
    | true => rfl
    | false => exact absurd (by rw [h.2 hb]; rfl) hne
  · intro hb hne
    have : andW x (bitW i) = 0 := by omega
    rw [h.1 this] at hb; cases hb
theorem and_bit_bne (x i : Nat) : (((andW x (bitW i) : Nat) : Int) != 0) = hasB x i := by
  rw [Bool.eq_iff_iff]; exact and_ne_zero x i

/-! ### the elements of a word, the least first -/
theorem pop_spec {x : Nat} (h0 : x ≠ 0) (h : x < 18446744073709551616) : ∀ j, hasB (popW x) j = (hasB x j && decide (j ≠ lowW x)) := by
  obtain ⟨m, hm, hk⟩ := Lib.ctzFrom_spec 64 x (by omega) (by rw [pow64]; exact h)
  have e : lowW x = Lib.ctzFrom 64 x := by simp [lowW, Lib.ctz, h0]
  rw [← e] at hm hk
  generalize lowW x = k at hm hk
  intro j
  have e2 : x - 1 = (2 * m) * 2 ^ k + (2 ^ k - 1) := by
    rw [hm]; have := Nat.two_pow_pos k
    rw [Nat.mul_add, Nat.mul_comm (2 ^ k)]; omega
  have e1 : x = (2 * m + 1) * 2 ^ k := by rw [hm, Nat.mul_comm]
  show (x &&& (x - 1)).testBit j = (x.testBit j && decide (j ≠ k))
  rw [Nat.testBit_and, e2]
  conv => lhs; rw [e1]
  conv => rhs; rw [e1]
  rw [Nat.testBit_mul_two_pow]
  by_cases hj : k ≤ j
  · obtain ⟨d, rfl⟩ : ∃ d, j = k + d := ⟨j - k, by omega⟩
    have hd : ((2 * m) * 2 ^ k + (2 ^ k - 1)).testBit (k + d) = (2 * m).testBit d := by
      have hlt : 2 ^ k - 1 < 2 ^ k := by have := Nat.two_pow_pos k; omega
      rw [Nat.mul_comm, Nat.testBit_two_pow_mul_add _ hlt, if_neg (by omega)]
      simp
    rw [hd]
    have hs : k + d - k = d := by omega
    rw [hs]
    cases d with
    | zero => simp [Nat.testBit_zero]
    | succ d =>
      rw [Nat.testBit_succ, Nat.testBit_succ]
      have d1 : (2 * m + 1) / 2 = m := by omega
      have d2 : (2 * m) / 2 = m := by omega
      rw [d1, d2]; simp
  · simp [hj]
theorem low_has {x : Nat} (h0 : x ≠ 0) (h : x < 18446744073709551616) : hasB x (lowW x) = true ∧ ∀ j, j < lowW x → hasB x j = false := by
  obtain ⟨m, hm, hk⟩ := Lib.ctzFrom_spec 64 x (by omega) (by rw [pow64]; exact h)
  have e : lowW x = Lib.ctzFrom 64 x := by simp [lowW, Lib.ctz, h0]
  rw [← e] at hm hk
  generalize lowW x = k at hm hk
  unfold hasB
  rw [hm, Nat.mul_comm]
  constructor
  · rw [Nat.testBit_mul_two_pow]; simp [Nat.testBit_zero]
  · intro j hj; rw [Nat.testBit_mul_two_pow]; simp; omega
theorem popW_lt {x : Nat} (h0 : x ≠ 0) : popW x < x := by
  unfold popW; have : x &&& (x - 1) ≤ x - 1 := Nat.and_le_right; omega
theorem lowW_lt {x : Nat} (h0 : x ≠ 0) (h : x < 18446744073709551616) : lowW x < 64 := (Lib.lowest_bit 64 x h0 (by rw [pow64]; exact h)).2

/-- the elements, rising; the first number bounds the search -/
def elemsF : Nat → Nat → List Nat
  | 0, _ => []
  | f + 1, x => if x = 0 then [] else lowW x :: elemsF f (popW x)
theorem elemsF_eq : ∀ (f g x : Nat), x ≤ f → x ≤ g → elemsF f x = elemsF g x
  | 0, 0, _, _, _ => rfl
  | 0, g + 1, x, h, _ => by
    have : x = 0 := by omega
    subst this; simp [elemsF]
  | f + 1, 0, x, _, h => by
    have : x = 0 := by omega
    subst this; simp [elemsF]
  | f + 1, g + 1, x, h, h' => by
    unfold elemsF
    by_cases h0 : x = 0
    · simp [h0]
    · have := popW_lt h0
      rw [if_neg h0, if_neg h0, elemsF_eq f g (popW x) (by omega) (by omega)]
def elems (x : Nat) : List Nat := elemsF x x
theorem elems_zero : elems 0 = [] := rfl
theorem elems_pos {x : Nat} (h : x ≠ 0) : elems x = lowW x :: elems (popW x) := by
  obtain ⟨y, rfl⟩ : ∃ y, x = y + 1 := ⟨x - 1, by omega⟩
  have hp := popW_lt h
  unfold elems
  rw [elemsF, if_neg h, elemsF_eq y (popW (y + 1)) (popW (y + 1)) (by omega) (Nat.le_refl _)]
theorem mem_elems {x : Nat} (h : x < 18446744073709551616) (j : Nat) : j ∈ elems x ↔ hasB x j = true := by
  induction x using Nat.strongRecOn with
  | _ x ih =>
    by_cases h0 : x = 0
    · subst h0; rw [elems_zero, hasB_zero]; simp
    · rw [elems_pos h0, List.mem_cons, ih (popW x) (popW_lt h0) (by have := popW_lt h0; omega), pop_spec h0 h]
      have hl := (low_has h0 h).1
      constructor
      · rintro (rfl | h1)
        · exact hl
        · simp at h1; exact h1.1
      · intro hj; by_cases e : j = lowW x
        · exact .inl e
        · right; simp [hj, e]
theorem sorted_elems {x : Nat} (h : x < 18446744073709551616) : (elems x).Pairwise (· < ·) := by
  induction x using Nat.strongRecOn with
  | _ x ih =>
    by_cases h0 : x = 0
    · subst h0; rw [elems_zero]; simp
    · rw [elems_pos h0, List.pairwise_cons]
      refine ⟨fun j hj => ?_, ih (popW x) (popW_lt h0) (by have := popW_lt h0; omega)⟩
      rw [mem_elems (by have := popW_lt h0; omega), pop_spec h0 h] at hj
      simp at hj
      apply Nat.lt_of_not_le
      intro hle
      have := (low_has h0 h).2 j (by omega)
      rw [this] at hj; simp at hj

/-- an element of x, with the word on it -/
abbrev El (x : Nat) := { j : Nat // hasB x j = true }
theorem elems_all {x : Nat} (h : x < 18446744073709551616) : ∀ j ∈ elems x, hasB x j = true := fun j hj => (mem_elems h j).1 hj
def elemsS (x : Nat) (h : x < 18446744073709551616) : List (El x) := (elems x).attachWith _ (elems_all h)
theorem elemsS_val (x : Nat) (h : x < 18446744073709551616) : (elemsS x h).map (·.1) = elems x := by
  unfold elemsS; simp
theorem mem_elemsS {x : Nat} (h : x < 18446744073709551616) (y : El x) : y ∈ elemsS x h := by
  unfold elemsS; rw [List.mem_attachWith]; exact (mem_elems h y.1).2 y.2
theorem map_val_inj {x : Nat} : ∀ {a b : List (El x)}, a.map (·.1) = b.map (·.1) → a = b
  | [], [], _ => rfl
  | [], _ :: _, h => by simp at h
  | _ :: _, [], h => by simp at h
  | a :: az, b :: bs, h => by
    simp only [List.map_cons, List.cons.injEq] at h
    rw [Subtype.ext h.1, map_val_inj h.2]

theorem prefix_of {x : Nat} (h64 : x < 18446744073709551616) {pre : List (El x)} {y : El x} {tl : List Nat} (h : elems x = pre.map (·.1) ++ y.1 :: tl) : pre ++ [y] <+: elemsS x h64 := by
  have e : (elemsS x h64).map (·.1) = (pre ++ [y]).map (·.1) ++ tl := by rw [elemsS_val, h, List.map_append, List.append_assoc]; rfl
  obtain ⟨l1, l2, h1, h2, h3⟩ := List.map_eq_append_iff.1 e
  rw [h1]; exact ⟨l2, by rw [map_val_inj h2]⟩

/-- the de Bruijn look-up's key -/
theorem tz_key (x a : Nat) (hx : x < 18446744073709551616) (hx0 : x ≠ 0) (hlow : x &&& (18446744073709551616 - x) = a) :
    IntKind.u64.wrap (bits BinOp.and IntKind.u64 (x : Int) (IntKind.u64.wrap (-(x : Int))) * 285870213051353865) / 288230376151711744 = ((a * 285870213051353865 % 18446744073709551616 / 288230376151711744 : Nat) : Int) := by
  have e1 : IntKind.u64.wrap (-(x : Int)) = ((18446744073709551616 - x : Nat) : Int) := by rw [IntKind.wrap_u64]; omega
  rw [e1, bits_and_u64_nat x _ hx (by omega), hlow, IntKind.wrap_u64]
  omega
end Go.Proofs.Ytbnjbnjgfjpegaa
