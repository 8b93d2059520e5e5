/- What the theorems on sums over orders ask: the line of an order; vectors; chains; Mu of the dual, of lattices, of pairs. -/
import Derived.Test.YtekpielpfegclabDoorMobPlain
import Derived.Test.YtekpielpfegclabDoorHeightPlain
import Derived.Test.YtekpielpfegclabDoorLatPlain
namespace Go.Proofs.YtekpielpfegclabDoor

theorem line_ord {us : List Nat} (ho : IsOrd us) : Line us (sortF (underB us) us.length us.length) := by
  have hA := acy_under ho
  obtain ⟨h1, h2⟩ := sortF_facts hA us.length (Nat.le_refl _)
  refine ⟨h1, fun x => ⟨h2 x, fun hx => ?_⟩, ?_⟩
  · apply Classical.byContradiction
    intro hno
    have hlen := nodup_le (a := x :: sortF (underB us) us.length us.length) (b := List.range us.length) (List.nodup_cons.2 ⟨hno, h1⟩) (fun y hy => by
      rcases List.mem_cons.1 hy with h | h
      · subst h; exact List.mem_range.2 hx
      · exact List.mem_range.2 (h2 y h))
    simp [sortF_len] at hlen
    omega
  · have key : ∀ k, k ≤ us.length → (sortF (underB us) us.length k).Pairwise fun x y => ¬ leW us y x := by
      intro k
      induction k with
      | zero => intro _; simp [sortF]
      | succ k ih =>
        intro hk
        obtain ⟨g1, g2, _⟩ := next_spec (hA (sortF (underB us) us.length k) (left_some (by rw [sortF_len]; omega)))
        unfold sortF
        rw [List.pairwise_append]
        refine ⟨ih (by omega), by simp, fun x hx y hy => ?_⟩
        simp at hy
        subst hy
        intro hle
        have hnot := (readyB_true.1 g2).1
        have hne : nextF (underB us) us.length (sortF (underB us) us.length k) ≠ x := fun e => hnot (e ▸ hx)
        have hR : underB us (nextF (underB us) us.length (sortF (underB us) us.length k)) x = true := by
          generalize nextF (underB us) us.length (sortF (underB us) us.length k) = q at *
          unfold underB; unfold leW at hle; rw [hle]; simp [hne]
        exact hnot (sortF_shut hA (by omega) hx g1 hR)
    exact key _ (Nat.le_refl _)
/-- Mu -/
def muM (us : List Nat) : Mat := invG (zet us) (sortF (underB us) us.length us.length)
theorem mu_right {us : List Nat} (ho : IsOrd us) : EqN us.length (mm us.length (zet us) (muM us)) one := inv_right (line_ord ho) (zet_tab us) (zet_unit ho)
theorem mu_left {us : List Nat} (ho : IsOrd us) : EqN us.length (mm us.length (muM us) (zet us)) one := inv_left ho (line_ord ho) (zet_tab us) (zet_unit ho)
theorem mu_is {us : List Nat} (ho : IsOrd us) {h : Mat} (hh : EqN us.length (mm us.length h (zet us)) one) : EqN us.length h (muM us) := inv_unique hh (mu_right ho)
theorem mu_is' {us : List Nat} (ho : IsOrd us) {h : Mat} (hh : EqN us.length (mm us.length (zet us) h) one) : EqN us.length h (muM us) := (inv_unique (mu_left ho) hh).symm

/-- the sums of numbers by a table -/
def vm (n : Nat) (v : Nat → B64) (f : Mat) : Nat → B64 := fun b => sm n fun a => v a * f a b
theorem vm_congr {n : Nat} {v v' : Nat → B64} {f f' : Mat} (h1 : ∀ a, a < n → v a = v' a) (h2 : EqN n f f') {b : Nat} (hb : b < n) : vm n v f b = vm n v' f' b :=
  sm_congr fun x hx => by rw [h1 x hx, h2 x hx b hb]
theorem vm_vm (n : Nat) (v : Nat → B64) (f g : Mat) (b : Nat) : vm n (vm n v f) g b = vm n v (mm n f g) b :=
  congrFun (congrFun (mm_assoc n (fun _ => v) f g) 0) b
theorem vm_one {n : Nat} (v : Nat → B64) {b : Nat} (hb : b < n) : vm n v one b = v b := mm_one n (fun _ => v) b hb b hb
/-- what was summed is undone -/
theorem vm_back {n : Nat} {f g : Mat} (h : EqN n (mm n f g) one) (v : Nat → B64) {b : Nat} (hb : b < n) : vm n (vm n v f) g b = v b := by
  rw [vm_vm, vm_congr (fun _ _ => rfl) h hb, vm_one v hb]

/-- 1 where a is strictly below b -/
def ltM (us : List Nat) : Mat := fun a b => if underB us a b then 1 else 0
/-- chains, one element more each time, behind -/
def chE (us : List Nat) : Nat → Mat
  | 0 => one
  | k + 1 => mm us.length (chE us k) (ltM us)
/-- chains, one element more each time, ahead -/
def chF (us : List Nat) : Nat → Mat
  | 0 => one
  | k + 1 => mm us.length (ltM us) (chF us k)
theorem ch_comm (us : List Nat) : ∀ k, EqN us.length (mm us.length (ltM us) (chE us k)) (mm us.length (chE us k) (ltM us))
  | 0 => (mm_one _ _).trans (one_mm _ _).symm
  | k + 1 => by
    show EqN us.length (mm us.length (ltM us) (mm us.length (chE us k) (ltM us))) (mm us.length (mm us.length (chE us k) (ltM us)) (ltM us))
    rw [← mm_assoc]
    exact mm_congr (ch_comm us k) (EqN.refl _ _)
theorem ch_same (us : List Nat) : ∀ k, EqN us.length (chF us k) (chE us k)
  | 0 => EqN.refl _ _
  | k + 1 => (mm_congr (EqN.refl _ _) (ch_same us k)).trans (ch_comm us k)
/-- how many are below -/
def cntB (us : List Nat) (x : Nat) : Nat := ((List.range us.length).filter fun y => hasB (wd us y) x).length
theorem cntB_lt {us : List Nat} (ho : IsOrd us) {x y : Nat} (hx : x < us.length) (hy : y < us.length) (h : underB us x y = true) : cntB us x < cntB us y := by
  unfold underB at h
  rw [Bool.and_eq_true] at h
  have hne : x ≠ y := by simpa using h.1
  refine filter_len_lt (fun z hz hzx => leW_trans ho (List.mem_range.1 hz) hx hy hzx h.2) ⟨y, List.mem_range.2 hy, leW_refl ho hy, ?_⟩
  cases hyx : hasB (wd us y) x with
  | false => rfl
  | true => exact absurd (leW_anti ho hx hy h.2 hyx) hne
theorem cntB_le (us : List Nat) (x : Nat) : cntB us x ≤ us.length := by
  unfold cntB
  have := List.length_filter_le (fun y => hasB (wd us y) x) (List.range us.length)
  simpa using this
theorem cntB_pos {us : List Nat} (ho : IsOrd us) {x : Nat} (hx : x < us.length) : 0 < cntB us x :=
  List.length_pos_of_mem (List.mem_filter.2 ⟨List.mem_range.2 hx, leW_refl ho hx⟩)
theorem ch_short {us : List Nat} (ho : IsOrd us) : ∀ k a, a < us.length → ∀ b, b < us.length → cntB us b < cntB us a + k → chE us k a b = 0
  | 0, a, ha, b, hb, h => one_ne fun e => by subst e; omega
  | k + 1, a, ha, b, hb, h => sm_zero fun x hx => by
    by_cases hu : underB us x b = true
    · have h1 := cntB_lt ho hx hb hu
      rw [ch_short ho k a ha x hx (by omega)]; simp
    · unfold ltM; rw [if_neg hu]; simp
theorem ch_end {us : List Nat} (ho : IsOrd us) {a b : Nat} (ha : a < us.length) (hb : b < us.length) : chE us us.length a b = 0 :=
  ch_short ho _ a ha b hb (by have := cntB_le us b; have := cntB_pos ho ha; omega)
/-- 1, -1, 1, .. -/
def sg (k : Nat) : B64 := if k % 2 = 0 then 1 else -1
theorem sg_succ (k : Nat) : sg (k + 1) = -sg k := by
  unfold sg
  by_cases h : k % 2 = 0
  · rw [if_pos h, if_neg (by omega)]
  · rw [if_neg h, if_pos (by omega)]; simp
def altM (us : List Nat) (K : Nat) : Mat := fun a b => sm K fun k => sg k * chE us k a b
theorem zet_split {us : List Nat} (ho : IsOrd us) {a b : Nat} (ha : a < us.length) : zet us a b = one a b + ltM us a b := by
  unfold zet ltM underB
  by_cases e : a = b
  · subst e
    have := leW_refl ho ha
    unfold leW at this
    rw [if_pos this, one_eq]; simp
  · rw [one_ne e]; simp [e]
theorem alt_mul {us : List Nat} (ho : IsOrd us) : ∀ K a, a < us.length → ∀ b, b < us.length → mm us.length (zet us) (altM us K) a b = one a b - sg K * chE us K a b
  | 0, a, _, b, _ => by
    unfold mm altM
    rw [sm_zero fun x _ => by simp [sm]]
    simp [chE, sg]
  | K + 1, a, ha, b, hb => by
    have ih := alt_mul ho K a ha b hb
    have h1 : mm us.length (zet us) (altM us (K + 1)) a b = mm us.length (zet us) (altM us K) a b + sg K * (chE us K a b + chE us (K + 1) a b) := by
      have e1 : mm us.length (zet us) (altM us (K + 1)) a b = sm us.length fun x => zet us a x * altM us K x b + sg K * (zet us a x * chE us K x b) := sm_congr fun x _ => by
        show zet us a x * (sm K (fun k => sg k * chE us k x b) + sg K * chE us K x b) = zet us a x * (sm K fun k => sg k * chE us k x b) + sg K * (zet us a x * chE us K x b)
        grind
      have e2 : (sm us.length fun x => zet us a x * chE us K x b) = chE us K a b + chE us (K + 1) a b := by
        have e3 : (sm us.length fun x => zet us a x * chE us K x b) = sm us.length fun x => one a x * chE us K x b + ltM us a x * chE us K x b := sm_congr fun x _ => by
          rw [zet_split ho ha]; grind
        rw [e3, sm_add]
        have e4 := one_mm us.length (chE us K) a ha b hb
        have e5 := ch_comm us K a ha b hb
        unfold mm at e4 e5
        rw [e4, e5]; rfl
      rw [e1, sm_add, sm_mul, e2]; rfl
    rw [h1, ih, sg_succ]
    generalize chE us K a b = p
    generalize chE us (K + 1) a b = q
    grind
/-- **Hall** -/
theorem hall {us : List Nat} (ho : IsOrd us) : EqN us.length (altM us us.length) (muM us) := mu_is' ho fun a ha b hb => by
  rw [alt_mul ho _ a ha b hb, ch_end ho ha hb]; simp

/-- Mu of the dual is Mu turned round -/
theorem mu_dual {us ds : List Nat} (hu : IsOrd us) (hd : IsOrd ds) (hl : ds.length = us.length) (h : ∀ x, x < us.length → ∀ y, y < us.length → hasB (wd ds y) x = hasB (wd us x) y) {a b : Nat} (ha : a < us.length) (hb : b < us.length) : muM ds b a = muM us a b := by
  refine mu_is hu (h := fun a b => muM ds b a) (fun a ha b hb => ?_) a ha b hb
  have h1 := mu_right hd b (by omega) a (by omega)
  rw [hl] at h1
  have e : one b a = one a b := by unfold one; by_cases e : a = b <;> simp [e, eq_comm]
  rw [e] at h1
  rw [← h1]
  unfold mm
  refine sm_congr fun x hx => ?_
  have : zet us x b = zet ds b x := by unfold zet; rw [h x hx b hb]
  rw [this, BitVec.mul_comm]

theorem zet_one {us : List Nat} {a b : Nat} (h : leW us a b) : zet us a b = 1 := if_pos h
theorem zet_no {us : List Nat} {a b : Nat} (h : ¬ leW us a b) : zet us a b = 0 := if_neg h
section
variable {us : List Nat} {js ms : Nat → Nat → Nat} {bo to : Nat} (ho : IsOrd us) (L : Lat us.length (leW us) js ms bo to)
include ho L
omit ho in
/-- what is gathered by joins with a, below y -/
theorem gath_zet {v : Nat → B64} {a y : Nat} (ha : a < us.length) (hy : y < us.length) :
    vm us.length (fun z => sm us.length fun x => if js x a = z then v x else 0) (zet us) y = zet us a y * vm us.length v (zet us) y := by
  have e1 : vm us.length (fun z => sm us.length fun x => if js x a = z then v x else 0) (zet us) y = sm us.length fun z => sm us.length fun x => (if js x a = z then v x else 0) * zet us z y := sm_congr fun z _ => (sm_mulr _ _ _).symm
  rw [e1, sm_swap]
  unfold vm
  rw [← sm_mul]
  refine sm_congr fun x hx => ?_
  have hj := L.jlt hx ha
  rw [sm_one hj fun z _ hne => by rw [if_neg (Ne.symm hne)]; simp, if_pos rfl]
  by_cases h1 : leW us (js x a) y
  · obtain ⟨h2, h3⟩ := (L.jle hx ha hy).1 h1
    rw [zet_one h1, zet_one h2, zet_one h3]; grind
  · rw [zet_no h1]
    by_cases h2 : leW us x y
    · have h3 : ¬ leW us a y := fun h3 => h1 ((L.jle hx ha hy).2 ⟨h2, h3⟩)
      rw [zet_no h3]; simp
    · rw [zet_no h2]; simp
/-- **Weisner** -/
theorem weisner {a y : Nat} (ha : a < us.length) (hab : a ≠ bo) (hy : y < us.length) : (sm us.length fun x => if js x a = y then muM us bo x else 0) = 0 := by
  have hz : ∀ z, z < us.length → vm us.length (fun z => sm us.length fun x => if js x a = z then muM us bo x else 0) (zet us) z = 0 := fun z hz => by
    rw [gath_zet L ha hz]
    have e : vm us.length (fun x => muM us bo x) (zet us) z = one bo z := mu_left ho bo L.blt z hz
    rw [e]
    by_cases h1 : bo = z
    · subst h1
      rw [zet_no fun h => hab (leW_anti ho ha L.blt h (L.ble ha))]; simp
    · rw [one_ne h1]; simp
  rw [← vm_back (mu_right ho) (fun z => sm us.length fun x => if js x a = z then muM us bo x else 0) hy]
  exact sm_zero fun z hz' => by rw [hz z hz']; simp
/-- what the sets of atoms come to, atom by atom -/
def atomE (js : Nat → Nat → Nat) (n bo : Nat) : List Nat → Nat → B64
  | [] => fun z => one bo z
  | p :: l => fun z => atomE js n bo l z - sm n fun y => if js y p = z then atomE js n bo l y else 0
omit ho L in
theorem vm_sub (n : Nat) (v w : Nat → B64) (f : Mat) (b : Nat) : vm n (fun a => v a - w a) f b = vm n v f b - vm n w f b := by
  have : (fun a => (v a - w a) * f a b) = fun a => v a * f a b + -(w a * f a b) := funext fun a => by grind
  unfold vm
  rw [this, sm_add, sm_neg]; grind
omit ho in
open Classical in
theorem atom_sum : ∀ {l : List Nat}, (∀ p ∈ l, p < us.length) → ∀ y, y < us.length → vm us.length (atomE js us.length bo l) (zet us) y = if ∃ p ∈ l, leW us p y then 0 else 1
  | [], _, y, hy => by
    have e : vm us.length (atomE js us.length bo []) (zet us) y = zet us bo y := one_mm us.length (zet us) bo L.blt y hy
    rw [e, zet_one (L.ble hy)]; simp
  | p :: l, hl, y, hy => by
    have ih := atom_sum (l := l) (fun q hq => hl q (by simp [hq])) y hy
    have e : vm us.length (atomE js us.length bo (p :: l)) (zet us) y = vm us.length (atomE js us.length bo l) (zet us) y - vm us.length (fun z => sm us.length fun x => if js x p = z then atomE js us.length bo l x else 0) (zet us) y := vm_sub _ _ _ _ _
    rw [e, gath_zet L (hl p (by simp)) hy, ih]
    by_cases h1 : leW us p y
    · rw [zet_one h1]
      have : ∃ q ∈ p :: l, leW us q y := ⟨p, by simp, h1⟩
      rw [if_pos this]; grind
    · rw [zet_no h1]
      have : (∃ q ∈ p :: l, leW us q y) ↔ ∃ q ∈ l, leW us q y := by
        constructor
        · rintro ⟨q, hq, h⟩
          rcases List.mem_cons.1 hq with e | e
          · subst e; exact absurd h h1
          · exact ⟨q, e, h⟩
        · rintro ⟨q, hq, h⟩; exact ⟨q, by simp [hq], h⟩
      simp only [this]; grind
/-- **Rota, by atoms**: where each element but the least has one of the list below it -/
theorem atoms {l : List Nat} (hl : ∀ p ∈ l, p < us.length ∧ p ≠ bo) (hat : ∀ y, y < us.length → y ≠ bo → ∃ p ∈ l, leW us p y) {y : Nat} (hy : y < us.length) : atomE js us.length bo l y = muM us bo y := by
  have hz : ∀ z, z < us.length → vm us.length (atomE js us.length bo l) (zet us) z = one bo z := fun z hz => by
    rw [atom_sum L (fun p hp => (hl p hp).1) z hz]
    by_cases e : bo = z
    · subst e
      rw [one_eq, if_neg]
      rintro ⟨p, hp, h⟩
      exact (hl p hp).2 (leW_anti ho (hl p hp).1 L.blt h (L.ble (hl p hp).1))
    · rw [one_ne e, if_pos (hat z hz (Ne.symm e))]
  rw [← vm_back (mu_right ho) (atomE js us.length bo l) hy, vm_congr hz (EqN.refl _ _) hy]
  exact one_mm us.length (muM us) bo L.blt y hy
end

/-- a sum over pairs -/
theorem sm_pairs (N M : Nat) (f : Nat → B64) : sm (N * M) f = sm N fun i => sm M fun j => f (i * M + j) := by
  induction N with
  | zero => simp [sm]
  | succ N ih =>
    have hadd : ∀ K, sm (N * M + K) f = sm (N * M) f + sm K fun j => f (N * M + j) := by
      intro K
      induction K with
      | zero => simp [sm]
      | succ K ihK => rw [← Nat.add_assoc]; simp only [sm]; rw [ihK]; grind
    rw [Nat.succ_mul, hadd, ih]; rfl
theorem pair_div {M i j : Nat} (h : j < M) : (i * M + j) / M = i := by
  rw [Nat.mul_comm, Nat.mul_add_div (by omega), Nat.div_eq_of_lt h]; omega
theorem pair_mod {M i j : Nat} (h : j < M) : (i * M + j) % M = j := by
  rw [Nat.mul_comm, Nat.mul_add_mod, Nat.mod_eq_of_lt h]
/-- of pairs Mu is the product of both -/
theorem mu_pairs {us ps qs : List Nat} (hu : IsOrd us) (hp : IsOrd ps) (hq : IsOrd qs) (hl : qs.length = us.length * ps.length)
    (h : ∀ k, k < qs.length → ∀ l, l < qs.length → hasB (wd qs k) l = (hasB (wd us (k / ps.length)) (l / ps.length) && hasB (wd ps (k % ps.length)) (l % ps.length))) :
    EqN qs.length (fun k l => muM us (k / ps.length) (l / ps.length) * muM ps (k % ps.length) (l % ps.length)) (muM qs) := mu_is' hq fun k hk l hll => by
  have hM : 0 < ps.length := by
    cases h0 : ps.length with
    | zero => rw [h0] at hl; omega
    | succ _ => omega
  have hdiv : ∀ k, k < qs.length → k / ps.length < us.length := fun k hk => (Nat.div_lt_iff_lt_mul hM).2 (by omega)
  have hmod : ∀ k, k % ps.length < ps.length := fun k => Nat.mod_lt _ hM
  unfold mm
  have hone : one k l = one (k / ps.length) (l / ps.length) * one (k % ps.length) (l % ps.length) := by
    by_cases e : k = l
    · subst e; rw [one_eq, one_eq, one_eq]; simp
    · rw [one_ne e]
      by_cases e1 : k / ps.length = l / ps.length
      · by_cases e2 : k % ps.length = l % ps.length
        · exact absurd (by rw [← Nat.div_add_mod k ps.length, ← Nat.div_add_mod l ps.length, e1, e2]) e
        · rw [one_ne e2]; simp
      · rw [one_ne e1]; simp
  rw [hone, ← mu_right hu _ (hdiv k hk) _ (hdiv l hll), ← mu_right hp _ (hmod k) _ (hmod l)]
  have e1 : (sm qs.length fun x => zet qs k x * (muM us (x / ps.length) (l / ps.length) * muM ps (x % ps.length) (l % ps.length))) = sm us.length fun i => sm ps.length fun j => (zet us (k / ps.length) i * muM us i (l / ps.length)) * (zet ps (k % ps.length) j * muM ps j (l % ps.length)) := by
    rw [hl, sm_pairs]
    refine sm_congr fun i hi => sm_congr fun j hj => ?_
    rw [pair_div hj, pair_mod hj]
    have hx : i * ps.length + j < qs.length := by
      rw [hl]
      have : (i + 1) * ps.length ≤ us.length * ps.length := Nat.mul_le_mul_right _ hi
      rw [Nat.succ_mul] at this; omega
    have hz : zet qs k (i * ps.length + j) = zet us (k / ps.length) i * zet ps (k % ps.length) j := by
      unfold zet
      rw [h k hk _ hx, pair_div hj, pair_mod hj]
      cases hasB (wd us (k / ps.length)) i <;> cases hasB (wd ps (k % ps.length)) j <;> simp
    rw [hz]; grind
  rw [e1]
  unfold mm
  rw [← sm_mulr]
  exact sm_congr fun i _ => sm_mul _ _ _
end Go.Proofs.YtekpielpfegclabDoor
