/- What the program's Kind says of the lattice: plain mathematics of its three words. Plain mathematics of Birkhoff: elements of a lattice by the irreducible ones below them. -/
import Derived.Test.YtdomcjfgmnpbmaaDoorPart25
import Derived.Test.YtdomcjfgmnpbmaaDoorPart17
import Derived.Test.YtdomcjfgmnpbmaaDoorPart19
namespace Go.Proofs.YtdomcjfgmnpbmaaDoor

theorem kfold_d (js ms : List Nat) (n : Nat) : ∀ (l : List (Nat × Nat × Nat)) (s : KSt), (l.foldl (KSt.step js ms n) s).d = (s.d && l.all fun p => disB js ms n p.1 p.2.1 p.2.2)
  | [], s => by simp
  | p :: l, s => by
    rw [List.foldl_cons, kfold_d js ms n l, List.all_cons, ← Bool.and_assoc]
    congr 1
    unfold KSt.step
    cases hd : s.d <;> cases hp : disB js ms n p.1 p.2.1 p.2.2 <;> cases modB js ms n p.1 p.2.1 p.2.2 <;> simp [hd]
theorem kfold_m (js ms : List Nat) (n : Nat) : ∀ (l : List (Nat × Nat × Nat)) (s : KSt), (l.foldl (KSt.step js ms n) s).m = (s.m && l.all fun p => modB js ms n p.1 p.2.1 p.2.2)
  | [], s => by simp
  | p :: l, s => by
    rw [List.foldl_cons, kfold_m js ms n l, List.all_cons, ← Bool.and_assoc]
    congr 1
    unfold KSt.step
    cases hd : s.d <;> cases hp : disB js ms n p.1 p.2.1 p.2.2 <;> cases modB js ms n p.1 p.2.1 p.2.2 <;> simp
theorem mem_triA {n m : Nat} {p : Nat × Nat × Nat} : p ∈ triA n m ↔ p.1 < m ∧ p.2.1 < n ∧ p.2.2 < n := by
  obtain ⟨a, b, c⟩ := p
  unfold triA rowB rowC
  simp only [List.mem_flatMap, List.mem_range, List.mem_map, Prod.mk.injEq]
  constructor
  · rintro ⟨x, hx, y, hy, z, hz, rfl, rfl, rfl⟩; exact ⟨hx, hy, hz⟩
  · rintro ⟨hx, hy, hz⟩; exact ⟨a, hx, b, hy, c, hz, rfl, rfl, rfl⟩
theorem kind_distr (js ms : List Nat) (n : Nat) : (kindOf js ms n (triA n n)).d = true ↔ Distr n (at2 js n) (at2 ms n) := by
  unfold kindOf
  rw [kfold_d, Bool.true_and, List.all_eq_true]
  constructor
  · intro h a ha b hb c hc
    have := h (a, b, c) (mem_triA.2 ⟨ha, hb, hc⟩)
    unfold disB at this
    simpa using this
  · intro h p hp
    have hp' := mem_triA.1 hp
    unfold disB
    simpa using h p.1 hp'.1 p.2.1 hp'.2.1 p.2.2 hp'.2.2
theorem kind_modul {js ms : List Nat} {n : Nat} {le : Nat → Nat → Prop} {b t : Nat} (L : Lat n le (at2 js n) (at2 ms n) b t) : (kindOf js ms n (triA n n)).m = true ↔ Modul n le (at2 js n) (at2 ms n) := by
  unfold kindOf
  rw [kfold_m, Bool.true_and, List.all_eq_true]
  constructor
  · intro h x hx y hy z hz hle
    have := h (x, y, z) (mem_triA.2 ⟨hx, hy, hz⟩)
    unfold modB at this
    rw [decide_eq_true ((L.le_j hx hz).1 hle)] at this
    simpa using this
  · intro h p hp
    obtain ⟨hx, hy, hz⟩ := mem_triA.1 hp
    unfold modB
    by_cases hle : le p.1 p.2.2
    · simp [h p.1 hx p.2.1 hy p.2.2 hz hle]
    · have : ¬ at2 js n p.1 p.2.2 = p.2.2 := fun e => hle ((L.le_j hx hz).2 e)
      simp [this]
theorem compl_iff (js ms : List Nat) (n bt tp : Nat) : complTo js ms n bt tp n = true ↔ Compl n (at2 js n) (at2 ms n) bt tp := by
  unfold complTo Compl anyTo compB
  rw [List.all_eq_true]
  constructor
  · intro h x hx
    have := h x (List.mem_range.2 hx)
    rw [List.any_eq_true] at this
    obtain ⟨y, hy, h2⟩ := this
    rw [Bool.and_eq_true, decide_eq_true_iff, decide_eq_true_iff] at h2
    exact ⟨y, List.mem_range.1 hy, h2.1, h2.2⟩
  · intro h x hx
    obtain ⟨y, hy, h1, h2⟩ := h x (List.mem_range.1 hx)
    rw [List.any_eq_true]
    exact ⟨y, List.mem_range.2 hy, by rw [Bool.and_eq_true, decide_eq_true_iff, decide_eq_true_iff]; exact ⟨h1, h2⟩⟩
end Go.Proofs.YtdomcjfgmnpbmaaDoor

namespace Go.Proofs.YtdomcjfgmnpbmaaDoor

/-- the irreducible elements below x, as a word -/
def irrW (us : List Nat) (x : Nat) : Nat := wordOf (fun i => decide (i ∈ lowIrr us) && hasB (wd us i) x) us.length
theorem mem_irrW {us : List Nat} {x i : Nat} : hasB (irrW us x) i = true ↔ i ∈ lowIrr us ∧ leW us i x := by
  unfold irrW leW
  rw [hasB_wordOf, Bool.and_eq_true, Bool.and_eq_true, decide_eq_true_iff, decide_eq_true_iff]
  exact ⟨fun h => h.2, fun h => ⟨(mem_lowIrr.1 h.1).1, h⟩⟩
theorem nodup_low (us : List Nat) : (lowIrr us).Nodup := List.nodup_range.filter _
theorem low_lt {us : List Nat} : ∀ x ∈ lowIrr us, x < us.length := fun _ h => (mem_lowIrr.1 h).1

section
variable {us : List Nat} {j m : Nat → Nat → Nat} {b t : Nat} (hin : Inside us) (ho : IsOrd us) (hf : Fit us) (L : Lat us.length (leW us) j m b t)
include ho L
theorem irr_sub {x y : Nat} (hx : x < us.length) (hy : y < us.length) : leW us x y ↔ ∀ i, hasB (irrW us x) i = true → hasB (irrW us y) i = true := by
  constructor
  · intro h i hi
    have := mem_irrW.1 hi
    exact mem_irrW.2 ⟨this.1, L.trans (low_lt _ this.1) hx hy this.2 h⟩
  · intro h
    exact irr_le ho L (fun _ _ _ _ => Iff.rfl) (downs us x) (Nat.le_refl _) hx hy fun i hi hix => (mem_irrW.1 (h i (mem_irrW.2 ⟨hi, hix⟩))).2
theorem irr_inj {x y : Nat} (hx : x < us.length) (hy : y < us.length) (e : irrW us x = irrW us y) : x = y :=
  L.anti hx hy ((irr_sub ho L hx hy).2 fun _ hi => e ▸ hi) ((irr_sub ho L hy hx).2 fun _ hi => e ▸ hi)
omit ho in
theorem irr_meet {x y : Nat} (hx : x < us.length) (hy : y < us.length) : irrW us (m x y) = andW (irrW us x) (irrW us y) := word_ext' fun i => by
  rw [hasB_and, Bool.and_eq_true, mem_irrW, mem_irrW, mem_irrW]
  constructor
  · rintro ⟨h1, h2⟩
    have := (L.lem hx hy (low_lt _ h1)).1 h2
    exact ⟨⟨h1, this.1⟩, ⟨h1, this.2⟩⟩
  · rintro ⟨h1, h2⟩
    exact ⟨h1.1, (L.lem hx hy (low_lt _ h1.1)).2 ⟨h1.2, h2.2⟩⟩
/-- joins have just the irreducible elements that either has -/
def Joins (us : List Nat) (j : Nat → Nat → Nat) : Prop := ∀ x, x < us.length → ∀ y, y < us.length → irrW us (j x y) = orW (irrW us x) (irrW us y)
/-- an irreducible element that is a join is one of the two -/
theorem irr_prime {i x y : Nat} (hi : i ∈ lowIrr us) (hx : x < us.length) (hy : y < us.length) (e : j x y = i) : x = i ∨ y = i := by
  have hin' := low_lt _ hi
  obtain ⟨c, hc⟩ := List.length_eq_one_iff.1 (mem_lowIrr.1 hi).2
  apply Classical.byContradiction
  intro hno
  have key : ∀ z, z < us.length → leW us z i → z ≠ i → leW us z c := fun z hz hzi hne => by
    obtain ⟨d, hd1, hd2, hd3⟩ := cover_ex ho hz hin' (underB_true.2 ⟨hne, hzi⟩)
    have hdm : d ∈ (List.range us.length).filter fun c => coverB us c i := List.mem_filter.2 ⟨List.mem_range.2 hd1, hd2⟩
    rw [hc, List.mem_singleton] at hdm
    rw [← hdm]; exact hd3
  have hcm : c ∈ (List.range us.length).filter fun c => coverB us c i := by rw [hc]; simp
  rw [List.mem_filter, List.mem_range] at hcm
  have hcu := underB_true.1 (coverB_true.1 hcm.2).1
  have hxi : leW us x i := by rw [← e]; exact L.jl hx hy
  have hyi : leW us y i := by rw [← e]; exact L.jr hx hy
  have := (L.jle hx hy hcm.1).2 ⟨key x hx hxi fun q => hno (.inl q), key y hy hyi fun q => hno (.inr q)⟩
  rw [e] at this
  exact hcu.1 (L.anti hcm.1 hin' hcu.2 this)
theorem distr_joins : Distr us.length j m ↔ Joins us j := by
  constructor
  · intro h x hx y hy
    refine word_ext' fun i => ?_
    rw [hasB_or, Bool.or_eq_true, mem_irrW, mem_irrW, mem_irrW]
    constructor
    · rintro ⟨h1, h2⟩
      have hin' := low_lt _ h1
      have e1 := (L.le_m hin' (L.jlt hx hy)).1 h2
      rw [h i hin' x hx y hy] at e1
      rcases irr_prime ho L h1 (L.mlt hin' hx) (L.mlt hin' hy) e1 with q | q
      · exact .inl ⟨h1, (L.le_m hin' hx).2 q⟩
      · exact .inr ⟨h1, (L.le_m hin' hy).2 q⟩
    · rintro (h1 | h1)
      · exact ⟨h1.1, L.trans (low_lt _ h1.1) hx (L.jlt hx hy) h1.2 (L.jl hx hy)⟩
      · exact ⟨h1.1, L.trans (low_lt _ h1.1) hy (L.jlt hx hy) h1.2 (L.jr hx hy)⟩
  · intro h x hx y hy z hz
    refine irr_inj ho L (L.mlt hx (L.jlt hy hz)) (L.jlt (L.mlt hx hy) (L.mlt hx hz)) ?_
    rw [irr_meet L hx (L.jlt hy hz), h y hy z hz, h _ (L.mlt hx hy) _ (L.mlt hx hz), irr_meet L hx hy, irr_meet L hx hz]
    exact word_ext fun i => by rw [hasB_and, hasB_or, hasB_or, hasB_and, hasB_and, Bool.and_or_distrib_left]
omit ho in
theorem irr_bottom : irrW us b = 0 := word_zero.2 fun i => by
  cases e : hasB (irrW us b) i with
  | false => rfl
  | true =>
    exfalso
    obtain ⟨h1, h2⟩ := mem_irrW.1 e
    have hi := low_lt _ h1
    have hib : i = b := L.anti hi L.blt h2 (L.ble hi)
    subst hib
    obtain ⟨c, hc⟩ := List.length_eq_one_iff.1 (mem_lowIrr.1 h1).2
    have hcm : c ∈ (List.range us.length).filter fun c => coverB us c i := by rw [hc]; simp
    rw [List.mem_filter, List.mem_range] at hcm
    have hcu := underB_true.1 (coverB_true.1 hcm.2).1
    exact hcu.1 (L.anti hcm.1 hi hcu.2 (L.ble hcm.1))
include hin hf
omit L in
theorem irr_rel (x : Nat) : RelDown us (lowIrr us) (irrW us x) :=
  ⟨fun y hy => (mem_irrW.1 hy).1, fun a c ha hac hc => mem_irrW.2 ⟨ha, by
    have := (mem_irrW.1 hc).2
    exact ord_trans hin ho hf (low_lt _ ha) hac this⟩⟩
omit hin hf ho in
theorem joins_all (hJ : Joins us j) (T : List Nat) (hT : ∀ s ∈ T, s < us.length) : ∃ z, z < us.length ∧ ∀ i, hasB (irrW us z) i = true ↔ i ∈ lowIrr us ∧ ∃ s ∈ T, leW us i s := by
  induction T with
  | nil => exact ⟨b, L.blt, fun i => by rw [irr_bottom L, hasB_zero]; simp⟩
  | cons s T ih =>
    obtain ⟨z, hz, h⟩ := ih fun y hy => hT y (List.mem_cons_of_mem _ hy)
    have hs := hT s List.mem_cons_self
    refine ⟨j s z, L.jlt hs hz, fun i => ?_⟩
    rw [hJ s hs z hz, hasB_or, Bool.or_eq_true, h i, mem_irrW]
    constructor
    · rintro (⟨h1, h2⟩ | ⟨h1, s', h2, h3⟩)
      · exact ⟨h1, s, List.mem_cons_self, h2⟩
      · exact ⟨h1, s', List.mem_cons_of_mem _ h2, h3⟩
    · rintro ⟨h1, s', h2, h3⟩
      rcases List.mem_cons.1 h2 with rfl | h2
      · exact .inl ⟨h1, h3⟩
      · exact .inr ⟨h1, s', h2, h3⟩
theorem birk_count {es : List Nat} (he : Dn (partL us (lowIrr us)) es) : us.length ≤ (allD es).length ∧ (Joins us j ↔ (allD es).length = us.length) := by
  have hQn : ((allD es).map (imgW (lowIrr us) us.length)).Nodup := map_nodup (nodup_allD es) fun x hx y hy e => by
    have h1 := ((mem_allD he).1 hx).1
    have h2 := ((mem_allD he).1 hy).1
    rw [partL_len] at h1 h2
    exact img_inj (nodup_low us) low_lt h1 h2 e
  have hQm : ∀ s, s ∈ (allD es).map (imgW (lowIrr us) us.length) ↔ RelDown us (lowIrr us) s := fun s => by
    rw [List.mem_map]
    constructor
    · rintro ⟨u, hu, rfl⟩; exact img_rel (nodup_low us) low_lt ((mem_allD he).1 hu)
    · intro h
      obtain ⟨u, h1, h2⟩ := rel_img low_lt h
      exact ⟨u, (mem_allD he).2 h1, h2⟩
  have hQl : ((allD es).map (imgW (lowIrr us) us.length)).length = (allD es).length := List.length_map _
  generalize (allD es).map (imgW (lowIrr us) us.length) = Q at *
  have hEn : ((List.range us.length).map (irrW us)).Nodup := map_nodup List.nodup_range fun x hx y hy e => irr_inj ho L (List.mem_range.1 hx) (List.mem_range.1 hy) e
  have hEQ : ∀ s ∈ (List.range us.length).map (irrW us), s ∈ Q := fun s hs => by
    obtain ⟨x, hx, rfl⟩ := List.mem_map.1 hs
    exact (hQm _).2 (irr_rel hin ho hf x)
  have hle := nodup_leN hEn hEQ
  rw [List.length_map, List.length_range] at hle
  refine ⟨by omega, fun hJ => ?_, fun hc => ?_⟩
  · have := nodup_leN (b := (List.range us.length).map (irrW us)) hQn fun s hs => by
      have hr := (hQm s).1 hs
      have hlt : s < 18446744073709551616 := by
        have h32 : ∀ y, hasB s y = true → y < us.length := fun y hy => low_lt _ (hr.1 y hy)
        exact Nat.lt_of_lt_of_le (only_lt (n := us.length) h32) (by
          have h16 : us.length ≤ 32 := by
            apply Nat.le_of_not_lt
            intro hgt
            have h1 : hasB (wd us 32) 32 = true := ord_refl ho hgt
            rw [hasB_ge (hf 32) (Nat.le_refl _)] at h1; cases h1
          exact Nat.le_trans (Nat.pow_le_pow_right (by decide) h16) (by decide))
      obtain ⟨z, hz, h⟩ := joins_all L hJ (elems s) fun y hy => low_lt _ (hr.1 y ((mem_elems hlt y).1 hy))
      refine List.mem_map.2 ⟨z, List.mem_range.2 hz, word_ext' fun i => ?_⟩
      rw [h i]
      constructor
      · rintro ⟨h1, y, h2, h3⟩; exact hr.2 i y h1 h3 ((mem_elems hlt y).1 h2)
      · intro hi
        exact ⟨hr.1 i hi, i, (mem_elems hlt i).2 hi, leW_refl ho (low_lt _ (hr.1 i hi))⟩
    rw [List.length_map, List.length_range] at this
    omega
  · have hsur : ∀ s ∈ Q, s ∈ (List.range us.length).map (irrW us) := fun s hs => by
      apply Classical.byContradiction
      intro hn
      have := nodup_leN (a := s :: (List.range us.length).map (irrW us)) (b := Q) (List.nodup_cons.2 ⟨hn, hEn⟩) fun y hy => by
        rcases List.mem_cons.1 hy with rfl | hy
        · exact hs
        · exact hEQ y hy
      simp at this
      omega
    intro x hx y hy
    have hrel : RelDown us (lowIrr us) (orW (irrW us x) (irrW us y)) := by
      have r1 := irr_rel hin ho hf x
      have r2 := irr_rel hin ho hf y
      refine ⟨fun i hi => ?_, fun a c ha hac hc => ?_⟩
      · rw [hasB_or, Bool.or_eq_true] at hi
        exact hi.elim (r1.1 i) (r2.1 i)
      · rw [hasB_or, Bool.or_eq_true] at hc ⊢
        exact hc.imp (r1.2 a c ha hac) (r2.2 a c ha hac)
    obtain ⟨z, hz, e⟩ := List.mem_map.1 (hsur _ ((hQm _).2 hrel))
    rw [List.mem_range] at hz
    have hxz : leW us x z := (irr_sub ho L hx hz).2 fun i hi => by rw [e, hasB_or, hi]; rfl
    have hyz : leW us y z := (irr_sub ho L hy hz).2 fun i hi => by rw [e, hasB_or, hi, Bool.or_true]
    have hj := L.jlt hx hy
    have hjz := (L.jle hx hy hz).2 ⟨hxz, hyz⟩
    refine word_ext' fun i => ⟨fun hi => ?_, fun hi => ?_⟩
    · rw [← e]; exact (irr_sub ho L hj hz).1 hjz i hi
    · rw [hasB_or, Bool.or_eq_true] at hi
      rcases hi with hi | hi
      · exact (irr_sub ho L hx hj).1 (L.jl hx hy) i hi
      · exact (irr_sub ho L hy hj).1 (L.jr hx hy) i hi
end
end Go.Proofs.YtdomcjfgmnpbmaaDoor
