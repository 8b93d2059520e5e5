/- Summaries, without a program: what is wrong with one, what it makes of a time, two one behind the other, and their order. -/
import Derived.Test.YtbnjbnjgfjpegaaTimPlain
namespace Go.Proofs.Ytbnjbnjgfjpegaa
open Go.RowKit Go.Shelf

/-- a summary: what it keeps, what it adds, what it puts behind -/
structure Sm where
  k : Int
  d : Int
  z : List Int
def Sm.out (s : Sm) : Nat := s.k.toNat + s.z.length
/-- what is added, or put, at a place -/
def Sm.at (s : Sm) (i : Nat) : Int := if s.k ≤ (i : Int) then zd s.z (i - s.k.toNat) else if (i : Int) + 1 = s.k then s.d else 0
theorem Sm.at_put {s : Sm} {i : Nat} (h : s.k ≤ (i : Int)) : s.at i = zd s.z (i - s.k.toNat) := if_pos h
theorem Sm.at_add {s : Sm} {i : Nat} (h : (i : Int) + 1 = s.k) : s.at i = s.d := by unfold Sm.at; rw [if_neg (by omega), if_pos h]
theorem Sm.at_keep {s : Sm} {i : Nat} (h : (i : Int) + 1 < s.k) : s.at i = 0 := by unfold Sm.at; rw [if_neg (by omega), if_neg (by omega)]
/-- what is wrong with its form -/
def badS (s : Sm) (n : Int) : Prop := n < 1 ∨ 4 < n ∨ s.k < 1 ∨ n < s.k ∨ 4 < s.k + (s.z.length : Int)
def decBadS (s : Sm) (n : Int) : Decidable (badS s n) := by unfold badS; infer_instance
def codeS (s : Sm) (n : Int) : Int := if @decide (badS s n) (decBadS s n) then 1 else if outC s.d then 2 else if coordB s.z then 0 else 2
theorem codeS_large {s : Sm} {n : Int} (h : badS s n) : codeS s n = 1 := by unfold codeS; rw [if_pos (@decide_eq_true _ (decBadS s n) h)]
theorem codeS_else {s : Sm} {n : Int} (h : ¬ badS s n) : codeS s n = if outC s.d then 2 else if coordB s.z then 0 else 2 := by unfold codeS; rw [@decide_eq_false _ (decBadS s n) h]; rfl
theorem codeS_add {s : Sm} {n : Int} (h : ¬ badS s n) (h2 : outC s.d = true) : codeS s n = 2 := by rw [codeS_else h, h2]; rfl
theorem codeS_push {s : Sm} {n : Int} (h : ¬ badS s n) (h2 : coordB s.z = false) : codeS s n = 2 := by rw [codeS_else h, h2]; cases outC s.d <;> rfl
theorem codeS_ok {s : Sm} {n : Int} (h : ¬ badS s n) (h2 : outC s.d = false) (h3 : coordB s.z = true) : codeS s n = 0 := by rw [codeS_else h, h2, h3]; rfl
theorem codeS_zero {s : Sm} {n : Int} (h : codeS s n = 0) : ¬ badS s n ∧ outC s.d = false ∧ coordB s.z = true := by
  by_cases h1 : badS s n
  · rw [codeS_large h1] at h; exact absurd h (by decide)
  · refine ⟨h1, ?_⟩
    rw [codeS_else h1] at h
    cases h2 : outC s.d <;> cases h3 : coordB s.z <;> rw [h2, h3] at h <;> first | exact ⟨rfl, rfl⟩ | exact absurd h (by decide)
/-- what a good one is -/
structure Good (s : Sm) (n : Nat) : Prop where
  n1 : 1 ≤ n
  n4 : n ≤ 4
  k1 : 1 ≤ s.k
  kn : s.k ≤ (n : Int)
  o4 : s.k + (s.z.length : Int) ≤ 4
  d0 : 0 ≤ s.d
  dm : s.d ≤ 1048576
  zc : Coords s.z
theorem good_of {s : Sm} {n : Nat} (h : codeS s (n : Int) = 0) : Good s n := by
  obtain ⟨h1, h2, h3⟩ := codeS_zero h
  unfold badS at h1
  have h4 := outC_false.1 h2
  exact ⟨by omega, by omega, by omega, by omega, by omega, h4.1, h4.2, coordB_true.1 h3⟩
theorem Good.code {s : Sm} {n : Nat} (h : Good s n) : codeS s (n : Int) = 0 := by
  obtain ⟨a, b, c, d, e, f, g, i⟩ := h
  exact codeS_ok (by unfold badS; omega) (outC_false.2 ⟨f, g⟩) (coordB_true.2 i)
theorem Good.wide {s : Sm} {n : Nat} (h : Good s n) : Good s 4 := ⟨by omega, by omega, h.k1, by have := h.o4; omega, h.o4, h.d0, h.dm, h.zc⟩
theorem Good.out4 {s : Sm} {n : Nat} (h : Good s n) : s.out ≤ 4 ∧ 1 ≤ s.out ∧ (s.out : Int) = s.k + (s.z.length : Int) ∧ (s.k.toNat : Int) = s.k := by
  have := h.k1; have := h.o4; unfold Sm.out; omega
theorem Good.kout {s : Sm} {n : Nat} (h : Good s n) : s.k ≤ (s.out : Int) := by
  have := h.k1; unfold Sm.out; omega
theorem Good.at0 {s : Sm} {n : Nat} (h : Good s n) {i : Nat} (hi : i < s.out) : 0 ≤ s.at i ∧ s.at i ≤ 1048576 := by
  have hk := h.k1
  unfold Sm.out at hi
  by_cases h1 : s.k ≤ (i : Int)
  · rw [Sm.at_put h1]; exact outC_false.1 (h.zc _ (by omega))
  · by_cases h2 : (i : Int) + 1 = s.k
    · rw [Sm.at_add h2]; exact ⟨h.d0, h.dm⟩
    · rw [Sm.at_keep (by omega)]; omega
theorem Sm.ext' {s r : Sm} (h1 : s.k = r.k) (h2 : s.d = r.d) (h3 : s.z = r.z) : s = r := by
  cases s; cases r; simp_all
/-- two with as many numbers kept, made, and the same at each place, are one -/
theorem sm_ext {s r : Sm} (k1 : 1 ≤ s.k) (hk : s.k = r.k) (hl : s.out = r.out) (h : ∀ i, i < s.out → s.at i = r.at i) : s = r := by
  have hl' : s.z.length = r.z.length := by unfold Sm.out at hl; rw [hk] at hl; omega
  refine Sm.ext' hk ?_ (zd_ext hl' fun i hi => ?_)
  · have := h (s.k.toNat - 1) (by unfold Sm.out; omega)
    rwa [Sm.at_add (by omega), Sm.at_add (by omega)] at this
  · have := h (s.k.toNat + i) (by unfold Sm.out; omega)
    rw [Sm.at_put (by omega), Sm.at_put (by omega)] at this
    rwa [show s.k.toNat + i - s.k.toNat = i by omega, show s.k.toNat + i - r.k.toNat = i by omega] at this
/-- what it makes of a time -/
def makeS (s : Sm) (t : List Int) : List Int := (List.range s.out).map fun i => s.at i + if (i : Int) < s.k then zd t i else 0
theorem makeS_len (s : Sm) (t : List Int) : (makeS s t).length = s.out := by unfold makeS; simp
theorem zd_makeS {s : Sm} {t : List Int} {i : Nat} (h : i < s.out) : zd (makeS s t) i = s.at i + if (i : Int) < s.k then zd t i else 0 := by
  unfold makeS; exact zd_range (fun i => s.at i + if (i : Int) < s.k then zd t i else 0) h
/-- does the last number that it keeps become too great? -/
def overS (s : Sm) (t : List Int) : Bool := decide (1048576 < zd t (s.k.toNat - 1) + s.d)
theorem overS_true {s : Sm} {t : List Int} : overS s t = true ↔ 1048576 < zd t (s.k.toNat - 1) + s.d := by unfold overS; exact decide_eq_true_iff
theorem overS_false {s : Sm} {t : List Int} : overS s t = false ↔ zd t (s.k.toNat - 1) + s.d ≤ 1048576 := by unfold overS; rw [decide_eq_false_iff_not]; omega
def codeA (s : Sm) (t : List Int) : Int := if codeT t ≠ 0 then codeT t else if codeS s (t.length : Int) ≠ 0 then codeS s (t.length : Int) else if overS s t then 6 else 0
theorem codeA_t {s : Sm} {t : List Int} (h : codeT t ≠ 0) : codeA s t = codeT t := if_pos h
theorem codeA_s {s : Sm} {t : List Int} (h : codeT t = 0) (h2 : codeS s (t.length : Int) ≠ 0) : codeA s t = codeS s (t.length : Int) := by unfold codeA; rw [if_neg (by omega), if_pos h2]
theorem codeA_e {s : Sm} {t : List Int} (h : codeT t = 0) (h2 : codeS s (t.length : Int) = 0) : codeA s t = if overS s t then 6 else 0 := by unfold codeA; rw [if_neg (by omega), if_neg (by omega)]
theorem codeA_over {s : Sm} {t : List Int} (h : codeT t = 0) (h2 : codeS s (t.length : Int) = 0) (h3 : overS s t = true) : codeA s t = 6 := by rw [codeA_e h h2, h3]; rfl
theorem codeA_ok {s : Sm} {t : List Int} (h : codeT t = 0) (h2 : codeS s (t.length : Int) = 0) (h3 : overS s t = false) : codeA s t = 0 := by rw [codeA_e h h2, h3]; rfl
theorem codeA_zero {s : Sm} {t : List Int} (h : codeA s t = 0) : codeT t = 0 ∧ codeS s (t.length : Int) = 0 ∧ overS s t = false := by
  by_cases h1 : codeT t = 0
  · by_cases h2 : codeS s (t.length : Int) = 0
    · cases h3 : overS s t
      · exact ⟨h1, h2, rfl⟩
      · rw [codeA_over h1 h2 h3] at h; exact absurd h (by decide)
    · rw [codeA_s h1 h2] at h; exact absurd h h2
  · rw [codeA_t h1] at h; exact absurd h h1
theorem zd_time {t : List Int} (h : codeT t = 0) {i : Nat} (hi : i < t.length) : 0 ≤ zd t i ∧ zd t i ≤ 1048576 := outC_false.1 ((codeT_zero h).2.2 i hi)
/-- what is made is a time -/
theorem makeS_code {s : Sm} {t : List Int} (h : codeA s t = 0) : codeT (makeS s t) = 0 := by
  obtain ⟨h1, h2, h3⟩ := codeA_zero h
  have g := good_of h2
  have o := g.out4
  have h3 := overS_false.1 h3
  refine codeT_mk (by rw [makeS_len]; omega) (by rw [makeS_len]; omega) fun i hi => ?_
  rw [makeS_len] at hi
  rw [zd_makeS hi, outC_false]
  have ha := g.at0 hi
  have hkn := g.kn
  by_cases hk : (i : Int) < s.k
  · rw [if_pos hk]
    have ht := zd_time h1 (i := i) (by omega)
    by_cases hl : (i : Int) + 1 = s.k
    · rw [Sm.at_add hl] at ha ⊢
      rw [show s.k.toNat - 1 = i by omega] at h3
      omega
    · rw [Sm.at_keep (by omega)]; omega
  · rw [if_neg hk]; omega
/-- one behind the other: at each place -/
def mixS (s r : Sm) (i : Nat) : Int := r.at i + if (i : Int) < r.k then s.at i else 0
def thenS (s r : Sm) : Sm := ⟨min s.k r.k, if r.k < s.k then r.d else if r.k = s.k then r.d + s.d else s.d, (List.range (r.out - (min s.k r.k).toNat)).map fun j => mixS s r (j + (min s.k r.k).toNat)⟩
theorem thenS_k (s r : Sm) : (thenS s r).k = min s.k r.k := rfl
theorem thenS_zlen (s r : Sm) : (thenS s r).z.length = r.out - (min s.k r.k).toNat := by unfold thenS; simp
theorem thenS_out {s r : Sm} (_h : 1 ≤ s.k) (h2 : 1 ≤ r.k) : (thenS s r).out = r.out := by
  unfold Sm.out; rw [thenS_k, thenS_zlen]; unfold Sm.out; omega
theorem zd_thenS {s r : Sm} {j : Nat} (h : j < r.out - (min s.k r.k).toNat) : zd (thenS s r).z j = mixS s r (j + (min s.k r.k).toNat) := by
  unfold thenS; exact zd_range (fun j => mixS s r (j + (min s.k r.k).toNat)) h
theorem thenS_d (s r : Sm) : (thenS s r).d = if r.k < s.k then r.d else if r.k = s.k then r.d + s.d else s.d := rfl
theorem thenS_at {s r : Sm} (_h1 : 1 ≤ s.k) (_h2 : 1 ≤ r.k) {i : Nat} (h : i < r.out) : (thenS s r).at i = mixS s r i := by
  by_cases hk : min s.k r.k ≤ (i : Int)
  · rw [Sm.at_put (by rw [thenS_k]; exact hk), thenS_k, zd_thenS (by omega), show i - (min s.k r.k).toNat + (min s.k r.k).toNat = i by omega]
  · by_cases hl : (i : Int) + 1 = min s.k r.k
    · rw [Sm.at_add (by rw [thenS_k]; exact hl), thenS_d]
      unfold mixS
      rw [if_pos (show (i : Int) < r.k by omega)]
      by_cases c1 : r.k < s.k
      · rw [if_pos c1, Sm.at_add (s := r) (by omega), Sm.at_keep (s := s) (by omega)]; omega
      · by_cases c2 : r.k = s.k
        · rw [if_neg c1, if_pos c2, Sm.at_add (s := r) (by omega), Sm.at_add (s := s) (by omega)]
        · rw [if_neg c1, if_neg c2, Sm.at_keep (s := r) (by omega), Sm.at_add (s := s) (by omega)]; omega
    · rw [Sm.at_keep (by rw [thenS_k]; omega)]
      unfold mixS
      rw [if_pos (show (i : Int) < r.k by omega), Sm.at_keep (s := r) (by omega), Sm.at_keep (s := s) (by omega)]; rfl
/-- what is wrong with two, one behind the other -/
def codeN (s r : Sm) : Int := if codeS s 4 ≠ 0 then codeS s 4 else if codeS r (s.out : Int) ≠ 0 then codeS r (s.out : Int) else if codeS (thenS s r) 4 ≠ 0 then 6 else 0
theorem codeN_s {s r : Sm} (h : codeS s 4 ≠ 0) : codeN s r = codeS s 4 := if_pos h
theorem codeN_r {s r : Sm} (h : codeS s 4 = 0) (h2 : codeS r (s.out : Int) ≠ 0) : codeN s r = codeS r (s.out : Int) := by unfold codeN; rw [if_neg (by omega), if_pos h2]
theorem codeN_over {s r : Sm} (h : codeS s 4 = 0) (h2 : codeS r (s.out : Int) = 0) (h3 : codeS (thenS s r) 4 ≠ 0) : codeN s r = 6 := by unfold codeN; rw [if_neg (by omega), if_neg (by omega), if_pos h3]
theorem codeN_ok {s r : Sm} (h : codeS s 4 = 0) (h2 : codeS r (s.out : Int) = 0) (h3 : codeS (thenS s r) 4 = 0) : codeN s r = 0 := by unfold codeN; rw [if_neg (by omega), if_neg (by omega), if_neg (by omega)]
theorem codeN_zero {s r : Sm} (h : codeN s r = 0) : codeS s 4 = 0 ∧ codeS r (s.out : Int) = 0 ∧ codeS (thenS s r) 4 = 0 := by
  by_cases h1 : codeS s 4 = 0
  · by_cases h2 : codeS r (s.out : Int) = 0
    · by_cases h3 : codeS (thenS s r) 4 = 0
      · exact ⟨h1, h2, h3⟩
      · rw [codeN_over h1 h2 h3] at h; exact absurd h (by decide)
    · rw [codeN_r h1 h2] at h; exact absurd h h2
  · rw [codeN_s h1] at h; exact absurd h h1
structure Goods (s r : Sm) : Prop where
  s4 : Good s 4
  ro : Good r s.out
  t4 : Good (thenS s r) 4
theorem goods_of {s r : Sm} (h : codeN s r = 0) : Goods s r := by
  obtain ⟨h1, h2, h3⟩ := codeN_zero h
  exact ⟨good_of (n := 4) h1, good_of h2, good_of (n := 4) h3⟩
theorem Goods.code {s r : Sm} (h : Goods s r) : codeN s r = 0 := codeN_ok h.s4.code h.ro.code h.t4.code
/-- it is in order just if no place is too great -/
theorem then_good {s r : Sm} (hs : Good s 4) (hr : Good r s.out) (h : ∀ i, i < r.out → mixS s r i ≤ 1048576) : Good (thenS s r) 4 := by
  have o := hr.out4
  have k1 := hs.k1
  have k2 := hr.k1
  have hk := hr.kn
  have hx : ∀ i, i < r.out → 0 ≤ mixS s r i := fun i hi => by
    have ha := hr.at0 hi
    unfold mixS
    by_cases c : (i : Int) < r.k
    · rw [if_pos c]; have := hs.at0 (i := i) (by omega); omega
    · rw [if_neg c]; omega
  have hd := thenS_at (s := s) (r := r) k1 k2 (i := (min s.k r.k).toNat - 1) (by omega)
  rw [Sm.at_add (by rw [thenS_k]; omega)] at hd
  have h1 := h ((min s.k r.k).toNat - 1) (by omega)
  have h2 := hx ((min s.k r.k).toNat - 1) (by omega)
  refine ⟨by omega, by omega, by rw [thenS_k]; omega, by rw [thenS_k]; omega, by rw [thenS_k, thenS_zlen]; omega, by omega, by omega, fun j hj => ?_⟩
  rw [thenS_zlen] at hj
  rw [zd_thenS hj, outC_false]
  exact ⟨hx _ (by omega), h _ (by omega)⟩
/-- no number greater at its place -/
def LeqM (s r : Sm) : Prop := ∀ i, i < s.out → s.at i ≤ r.at i ∧ ¬ ((i : Int) < s.k ∧ r.k ≤ (i : Int))
def decLeqM (s r : Sm) : Decidable (LeqM s r) := by unfold LeqM; infer_instance
def preM (s r : Sm) : Prop := codeS s 4 = 0 ∧ codeS r 4 = 0 ∧ s.out = r.out
def decPreM (s r : Sm) : Decidable (preM s r) := by unfold preM; infer_instance
def leqM (s r : Sm) : Bool := @decide (preM s r) (decPreM s r) && @decide (LeqM s r) (decLeqM s r)
theorem leqM_true {s r : Sm} : leqM s r = true ↔ preM s r ∧ LeqM s r := by
  unfold leqM; rw [Bool.and_eq_true, @decide_eq_true_iff _ (decPreM s r), @decide_eq_true_iff _ (decLeqM s r)]
theorem leqM_bad {s r : Sm} (h : ¬ preM s r) : leqM s r = false := by
  rw [Bool.eq_false_iff]; intro h'; exact h (leqM_true.1 h').1
theorem leqM_no {s r : Sm} {i : Nat} (hi : i < s.out) (h : r.at i < s.at i ∨ ((i : Int) < s.k ∧ r.k ≤ (i : Int))) : leqM s r = false := by
  rw [Bool.eq_false_iff]; intro h'; have := (leqM_true.1 h').2 i hi
  rcases h with h | h
  · omega
  · exact this.2 h
theorem leqM_keep {s r : Sm} (h : preM s r) (hl : LeqM s r) : s.k ≤ r.k := by
  obtain ⟨h1, h2, h3⟩ := h
  have g1 := good_of (n := 4) h1
  have g2 := good_of (n := 4) h2
  have o1 := g1.out4
  have o2 := g2.out4
  apply Classical.byContradiction
  intro hn
  have := (hl r.k.toNat (by have := g1.k1; have := g2.k1; unfold Sm.out at o1 h3 ⊢; omega)).2
  exact this ⟨by omega, by omega⟩
theorem leqM_refl {s : Sm} (h : codeS s 4 = 0) : leqM s s = true :=
  leqM_true.2 ⟨⟨h, h, rfl⟩, fun i _ => ⟨Int.le_refl _, fun hh => by omega⟩⟩

/- The theorems. -/
theorem make_mono {s : Sm} {t u : List Int} (hl : leqT t u = true) (h : codeA s u = 0) : codeA s t = 0 ∧ leqT (makeS s t) (makeS s u) = true := by
  obtain ⟨hp, hz⟩ := leqT_true.1 hl
  obtain ⟨ht, hu, he⟩ := codeP_zero hp
  obtain ⟨_, h2, h3⟩ := codeA_zero h
  have g := good_of h2
  have hk := g.kn
  have k1 := g.k1
  have h3 := overS_false.1 h3
  have hA : codeA s t = 0 := by
    refine codeA_ok ht (by rw [he]; exact h2) (overS_false.2 ?_)
    have := hz (s.k.toNat - 1) (by omega)
    omega
  refine ⟨hA, leqT_true.2 ⟨codeP_ok (makeS_code hA) (makeS_code h) (by rw [makeS_len, makeS_len]), fun i hi => ?_⟩⟩
  rw [makeS_len] at hi
  rw [zd_makeS hi, zd_makeS hi]
  by_cases c : (i : Int) < s.k
  · rw [if_pos c, if_pos c]; have := hz i (by omega); omega
  · rw [if_neg c, if_neg c]; omega
theorem make_then {s r : Sm} {t : List Int} (h : codeA s t = 0) (h2 : codeA r (makeS s t) = 0) : codeN s r = 0 ∧ codeA (thenS s r) t = 0 ∧ makeS r (makeS s t) = makeS (thenS s r) t := by
  obtain ⟨ht, hs, ho⟩ := codeA_zero h
  obtain ⟨hm, hr, hp⟩ := codeA_zero h2
  rw [makeS_len] at hr
  have gs := good_of hs
  have gr := good_of hr
  have os := gs.out4
  have or' := gr.out4
  have ks := gs.k1
  have kr := gr.k1
  have kn := gr.kn
  have tn := gs.kn
  have hmix : ∀ i, i < r.out → zd (makeS r (makeS s t)) i = mixS s r i + if (i : Int) < min s.k r.k then zd t i else 0 := fun i hi => by
    rw [zd_makeS hi]
    unfold mixS
    by_cases c : (i : Int) < r.k
    · rw [if_pos c, if_pos c, zd_makeS (by omega)]
      by_cases c2 : (i : Int) < s.k
      · rw [if_pos c2, if_pos (by omega)]; omega
      · rw [if_neg c2, if_neg (by omega)]; omega
    · rw [if_neg c, if_neg c, if_neg (by omega)]; omega
  have hc := makeS_code h2
  have hle : ∀ i, i < r.out → mixS s r i ≤ 1048576 := fun i hi => by
    have h1 := zd_time hc (i := i) (by rw [makeS_len]; exact hi)
    rw [hmix i hi] at h1
    by_cases c : (i : Int) < min s.k r.k
    · rw [if_pos c] at h1; have := zd_time ht (i := i) (by omega); omega
    · rw [if_neg c] at h1; omega
  have gt := then_good gs.wide gr hle
  have hN := (Goods.mk gs.wide gr gt).code
  have hout : (thenS s r).out = r.out := thenS_out ks kr
  have hgt : Good (thenS s r) t.length := ⟨gs.n1, gs.n4, gt.k1, by rw [thenS_k]; omega, gt.o4, gt.d0, gt.dm, gt.zc⟩
  have hA : codeA (thenS s r) t = 0 := by
    refine codeA_ok ht hgt.code (overS_false.2 ?_)
    rw [thenS_k]
    have h1 := zd_time hc (i := (min s.k r.k).toNat - 1) (by rw [makeS_len]; omega)
    rw [hmix _ (by omega), if_pos (by omega), ← thenS_at ks kr (by omega), Sm.at_add (by rw [thenS_k]; omega)] at h1
    omega
  refine ⟨hN, hA, zd_ext (by rw [makeS_len, makeS_len, hout]) fun i hi => ?_⟩
  rw [makeS_len] at hi
  rw [hmix i hi, zd_makeS (by rw [hout]; exact hi), thenS_at ks kr hi, thenS_k]
theorem then_assoc {s r q : Sm} (h1 : codeN s r = 0) (h2 : codeN r q = 0) (h3 : codeN (thenS s r) q = 0) (h4 : codeN s (thenS r q) = 0) : thenS (thenS s r) q = thenS s (thenS r q) ∧ (thenS (thenS s r) q).out = q.out := by
  have g1 := goods_of h1
  have g2 := goods_of h2
  have g3 := goods_of h3
  have g4 := goods_of h4
  have ks := g1.s4.k1
  have kr := g2.s4.k1
  have kq := g2.ro.k1
  have o1 : (thenS s r).out = r.out := thenS_out ks kr
  have o2 : (thenS r q).out = q.out := thenS_out kr kq
  have o3 : (thenS (thenS s r) q).out = q.out := thenS_out g3.s4.k1 kq
  have o4 : (thenS s (thenS r q)).out = (thenS r q).out := thenS_out ks g4.ro.k1
  have kn := g2.ro.kn
  refine ⟨sm_ext g3.t4.k1 (by rw [thenS_k, thenS_k, thenS_k, thenS_k]; omega) (by rw [o3, o4, o2]) fun i hi => ?_, o3⟩
  rw [o3] at hi
  rw [thenS_at g3.s4.k1 kq hi, thenS_at ks g4.ro.k1 (by omega)]
  unfold mixS
  rw [thenS_at kr kq hi, thenS_k]
  unfold mixS
  by_cases c : (i : Int) < q.k
  · rw [if_pos c, if_pos c, thenS_at ks kr (by omega)]
    unfold mixS
    by_cases c2 : (i : Int) < r.k
    · rw [if_pos c2, if_pos (by omega)]; omega
    · rw [if_neg c2, if_neg (by omega)]; omega
  · rw [if_neg c, if_neg c, if_neg (by omega)]; omega
theorem then_unit_left {s : Sm} {n : Nat} (h : codeS s (n : Int) = 0) : codeN ⟨n, 0, []⟩ s = 0 ∧ thenS ⟨n, 0, []⟩ s = s := by
  have g := good_of h
  have k1 := g.k1
  have kn := g.kn
  have n1 := g.n1
  have n4 := g.n4
  have gu : Good ⟨n, 0, []⟩ 4 := ⟨by omega, by omega, by dsimp only; omega, by dsimp only; omega, by dsimp only; simp; omega, by dsimp only; omega, by dsimp only; omega, fun i hi => absurd hi (by simp)⟩
  have ou : (Sm.mk n 0 []).out = n := by unfold Sm.out; simp
  have zu : ∀ i, i < n → (Sm.mk n 0 []).at i = 0 := fun i hi => by
    by_cases c : (i : Int) + 1 = n
    · exact Sm.at_add (s := ⟨n, 0, []⟩) c
    · exact Sm.at_keep (s := ⟨n, 0, []⟩) (by dsimp only; omega)
  have hm : ∀ i, i < s.out → mixS ⟨n, 0, []⟩ s i = s.at i := fun i hi => by
    unfold mixS
    by_cases c : (i : Int) < s.k
    · rw [if_pos c, zu i (by omega)]; omega
    · rw [if_neg c]; omega
  have he : thenS ⟨n, 0, []⟩ s = s := by
    refine sm_ext (by rw [thenS_k]; dsimp only; omega) (by rw [thenS_k]; dsimp only; omega) (thenS_out (by dsimp only; omega) k1) fun i hi => ?_
    rw [thenS_out (by dsimp only; omega) k1] at hi
    rw [thenS_at (by dsimp only; omega) k1 hi, hm i hi]
  exact ⟨(Goods.mk gu (by rw [ou]; exact g) (by rw [he]; exact g.wide)).code, he⟩
theorem then_unit_right {s : Sm} {n : Nat} (h : codeS s (n : Int) = 0) : codeN s ⟨s.out, 0, []⟩ = 0 ∧ thenS s ⟨s.out, 0, []⟩ = s := by
  have g := good_of h
  have k1 := g.k1
  have kn := g.kn
  have o := g.out4
  have ko := g.kout
  have gu : Good ⟨s.out, 0, []⟩ s.out := ⟨by omega, by omega, by dsimp only; omega, by dsimp only; omega, by dsimp only; simp; omega, by dsimp only; omega, by dsimp only; omega, fun i hi => absurd hi (by simp)⟩
  have ou : (Sm.mk s.out 0 []).out = s.out := by rw [Sm.out]; simp
  have zu : ∀ i, i < s.out → (Sm.mk s.out 0 []).at i = 0 := fun i hi => by
    by_cases c : (i : Int) + 1 = s.out
    · exact Sm.at_add (s := ⟨s.out, 0, []⟩) c
    · exact Sm.at_keep (s := ⟨s.out, 0, []⟩) (by dsimp only; omega)
  have hm : ∀ i, i < s.out → mixS s ⟨s.out, 0, []⟩ i = s.at i := fun i hi => by
    unfold mixS
    rw [if_pos (show (i : Int) < (Sm.mk s.out 0 []).k by dsimp only; omega), zu i hi]; omega
  have hto : (thenS s ⟨s.out, 0, []⟩).out = s.out := by rw [thenS_out k1 (by dsimp only; omega), ou]
  have he : thenS s ⟨s.out, 0, []⟩ = s := by
    refine sm_ext (by rw [thenS_k]; dsimp only; omega) (by rw [thenS_k]; dsimp only; omega) hto fun i hi => ?_
    rw [hto] at hi
    rw [thenS_at k1 (by dsimp only; omega) (by rw [ou]; exact hi), hm i hi]
  exact ⟨(Goods.mk g.wide gu (by rw [he]; exact g.wide)).code, he⟩
theorem make_leq {s r : Sm} {t : List Int} (h : leqM s r = true) (h1 : codeA s t = 0) (h2 : codeA r t = 0) : leqT (makeS s t) (makeS r t) = true := by
  obtain ⟨hp, hl⟩ := leqM_true.1 h
  have hk := leqM_keep hp hl
  have ht := (codeA_zero h1).1
  have g := good_of (codeA_zero h2).2.1
  have kn := g.kn
  refine leqT_true.2 ⟨codeP_ok (makeS_code h1) (makeS_code h2) (by rw [makeS_len, makeS_len, hp.2.2]), fun i hi => ?_⟩
  rw [makeS_len] at hi
  rw [zd_makeS hi, zd_makeS (by rw [← hp.2.2]; exact hi)]
  have := (hl i hi).1
  by_cases c : (i : Int) < s.k
  · rw [if_pos c, if_pos (by omega)]; omega
  · rw [if_neg c]
    by_cases c2 : (i : Int) < r.k
    · rw [if_pos c2]; have := zd_time ht (i := i) (by omega); omega
    · rw [if_neg c2]; omega
theorem then_leq_ahead {s r q : Sm} (h : leqM s r = true) (h1 : codeN s q = 0) (h2 : codeN r q = 0) : leqM (thenS s q) (thenS r q) = true := by
  obtain ⟨hp, hl⟩ := leqM_true.1 h
  have hk := leqM_keep hp hl
  have g1 := goods_of h1
  have g2 := goods_of h2
  have kq := g1.ro.k1
  have kn := g1.ro.kn
  have o1 : (thenS s q).out = q.out := thenS_out g1.s4.k1 kq
  have o2 : (thenS r q).out = q.out := thenS_out g2.s4.k1 kq
  refine leqM_true.2 ⟨⟨g1.t4.code, g2.t4.code, by rw [o1, o2]⟩, fun i hi => ⟨?_, fun ⟨c1, c2⟩ => ?_⟩⟩
  · rw [o1] at hi
    rw [thenS_at g1.s4.k1 kq hi, thenS_at g2.s4.k1 kq hi]
    unfold mixS
    by_cases c : (i : Int) < q.k
    · rw [if_pos c, if_pos c]; have := (hl i (by omega)).1; omega
    · rw [if_neg c, if_neg c]; omega
  · rw [thenS_k] at c1 c2; omega
theorem then_leq_behind {s r q : Sm} (h : leqM s r = true) (h1 : codeN q s = 0) (h2 : codeN q r = 0) : leqM (thenS q s) (thenS q r) = true := by
  obtain ⟨hp, hl⟩ := leqM_true.1 h
  have hk := leqM_keep hp hl
  have g1 := goods_of h1
  have g2 := goods_of h2
  have kq := g1.s4.k1
  have kn := g2.ro.kn
  have o1 : (thenS q s).out = s.out := thenS_out kq g1.ro.k1
  have o2 : (thenS q r).out = r.out := thenS_out kq g2.ro.k1
  refine leqM_true.2 ⟨⟨g1.t4.code, g2.t4.code, by rw [o1, o2, hp.2.2]⟩, fun i hi => ⟨?_, fun ⟨c1, c2⟩ => ?_⟩⟩
  · rw [o1] at hi
    rw [thenS_at kq g1.ro.k1 hi, thenS_at kq g2.ro.k1 (by rw [← hp.2.2]; exact hi)]
    unfold mixS
    have := (hl i hi).1
    by_cases c : (i : Int) < s.k
    · rw [if_pos c, if_pos (by omega)]; omega
    · rw [if_neg c]
      by_cases c2 : (i : Int) < r.k
      · rw [if_pos c2]; have := g1.s4.at0 (i := i) (by omega); omega
      · rw [if_neg c2]; omega
  · rw [thenS_k] at c1 c2; omega
/-- what two make of the time of 0's and of that of 1's tells them apart -/
theorem make_one {s r : Sm} {n : Nat} (hs : codeS s (n : Int) = 0) (hr : codeS r (n : Int) = 0) (ho : s.out = r.out) (t0 t1 : List Int) (_l0 : t0.length = n) (l1 : t1.length = n) (z0 : ∀ i, i < n → zd t0 i = 0) (z1 : ∀ i, i < n → zd t1 i = 1)
    (e0 : makeS s t0 = makeS r t0) (eo : overS s t1 = overS r t1) (e1 : overS s t1 = false → makeS s t1 = makeS r t1) : s = r := by
  have gs := good_of hs
  have gr := good_of hr
  have ks := gs.k1
  have kr := gr.k1
  have hsn := gs.kn
  have hrn := gr.kn
  have os := gs.out4
  have or' := gr.out4
  have hat : ∀ i, i < s.out → s.at i = r.at i := fun i hi => by
    have h := congrArg (fun l => zd l i) e0
    rw [zd_makeS hi, zd_makeS (by rw [← ho]; exact hi)] at h
    have f : ∀ (k : Int), k ≤ n → (if (i : Int) < k then zd t0 i else 0) = 0 := fun k hk => by
      by_cases c : (i : Int) < k
      · rw [if_pos c]; exact z0 i (by omega)
      · exact if_neg c
    rw [f _ hsn, f _ hrn] at h
    omega
  have hk : s.k = r.k := by
    cases hv : overS s t1 with
    | true =>
      rw [hv] at eo
      have a1 := overS_true.1 hv
      have a2 := overS_true.1 eo.symm
      rw [z1 _ (by omega)] at a1 a2
      apply Classical.byContradiction
      intro hne
      rcases Int.lt_or_gt_of_ne hne with c | c
      · have h := hat (s.k.toNat - 1) (by omega)
        rw [Sm.at_add (s := s) (by omega), Sm.at_keep (s := r) (by omega)] at h
        omega
      · have h := hat (r.k.toNat - 1) (by omega)
        rw [Sm.at_add (s := r) (by omega), Sm.at_keep (s := s) (by omega)] at h
        omega
    | false =>
      have e1 := e1 hv
      apply Classical.byContradiction
      intro hne
      have key : ∀ i, i < s.out → (if (i : Int) < s.k then zd t1 i else 0) = (if (i : Int) < r.k then zd t1 i else 0) := fun i hi => by
        have h := congrArg (fun l => zd l i) e1
        rw [zd_makeS hi, zd_makeS (by rw [← ho]; exact hi), hat i hi] at h
        omega
      rcases Int.lt_or_gt_of_ne hne with c | c
      · have h := key s.k.toNat (by omega)
        rw [if_neg (by omega), if_pos (by omega), z1 _ (by omega)] at h
        omega
      · have h := key r.k.toNat (by omega)
        rw [if_pos (by omega), if_neg (by omega), z1 _ (by omega)] at h
        omega
  exact sm_ext ks hk ho hat
end Go.Proofs.Ytbnjbnjgfjpegaa
