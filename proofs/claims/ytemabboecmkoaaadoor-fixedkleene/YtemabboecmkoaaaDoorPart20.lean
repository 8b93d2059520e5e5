/- Plain mathematics of an order turned upside down: it is an order; turned again it is what it was; its covers are the covers turned round. More on maps of orders, without a program: the dual, how far it is, and what grows. -/
import Derived.Test.YtemabboecmkoaaaDoorPart19
import Derived.Test.YtemabboecmkoaaaDoorPart18
import Derived.Test.YtemabboecmkoaaaDoorPart7
import Derived.BigQuiet
namespace Go.Proofs.YtemabboecmkoaaaDoor

theorem tur_inside {us ds : List Nat} (hT : Tur us us.length [] ds) : Inside ds := by
  intro i hi j _ hb
  rw [hT.len] at hi ⊢
  rw [hT.has i hi] at hb
  simp at hb
  exact hb.1
theorem tur_ord {us ds : List Nat} (ho : IsOrd us) (hT : Tur us us.length [] ds) : IsOrd ds := by
  have hh : ∀ i, i < us.length → ∀ j, j < us.length → hasB (wd ds i) j = hasB (wd us j) i := fun i hi j hj => by rw [hT.has i hi]; simp [hj]
  intro i hi j hj
  rw [hT.len] at hi hj
  refine ⟨⟨fun e => ?_, fun hne h1 => ?_⟩, fun k hk h1 h2 => ?_⟩
  · rw [hh i hi i hi]; exact ((ho i hi) i hi).1.1 rfl
  · rw [hh i hi j hj] at h1
    rw [hh j hj i hi]
    cases h2 : hasB (wd us i) j with
    | false => rfl
    | true =>
      have := ((ho i hi) j hj).1.2 hne h2
      rw [this] at h1; cases h1
  · rw [hT.len] at hk
    rw [hh i hi j hj] at h1
    rw [hh j hj k hk] at h2
    rw [hh i hi k hk]
    exact ((ho k hk) j hj).2 i hi h2 h1
theorem tur_code {us ds : List Nat} {n : Int} (hc : codeOf n us = 0) (hT : Tur us us.length [] ds) : codeOf n ds = 0 := by
  obtain ⟨h0, h16, hlen, hin, ho⟩ := code_zero hc
  exact code_ok (by omega) (by rw [hT.len]; exact hlen) (insideB_true.2 (tur_inside hT)) (isOrdB_true.2 (tur_ord ho hT))
theorem tur_back {us ds es : List Nat} (hf : Fit us) (hin : Inside us) (hT : Tur us us.length [] ds) (hT2 : Tur ds ds.length [] es) : es = us := by
  refine wd_ext (by rw [hT2.len, hT.len]) fun i hi => word_ext fun j => ?_
  have hi2 : i < ds.length := by rw [← hT2.len]; exact hi
  have hi3 : i < us.length := by rw [← hT.len]; exact hi2
  rw [hT2.has i hi2, hT.len]
  by_cases hj : j < us.length
  · rw [hT.has j hj]; simp [hj, hi3]
  · have : hasB (wd us i) j = false := by
      cases hb : hasB (wd us i) j with
      | false => rfl
      | true => exact absurd (hin i hi3 j (hasB_lt (hf i) hb) hb) hj
    simp [hj, this]
theorem tur_under {us ds : List Nat} (hT : Tur us us.length [] ds) {a b : Nat} (ha : a < us.length) (hb : b < us.length) : underB ds a b = underB us b a := by
  unfold underB
  rw [hT.has a ha]
  by_cases e : a = b
  · subst e; simp
  · have : ¬ b = a := fun h => e h.symm
    simp [e, this, hb]
theorem tur_cover {us ds : List Nat} (hT : Tur us us.length [] ds) {a b : Nat} (ha : a < us.length) (hb : b < us.length) : coverB ds a b = coverB us b a := by
  rw [Bool.eq_iff_iff, coverB_true, coverB_true, hT.len, tur_under hT ha hb]
  constructor
  · rintro ⟨h1, h2⟩
    refine ⟨h1, fun x hx ⟨h3, h4⟩ => h2 x hx ⟨?_, ?_⟩⟩
    · rw [tur_under hT ha hx]; exact h4
    · rw [tur_under hT hx hb]; exact h3
  · rintro ⟨h1, h2⟩
    refine ⟨h1, fun x hx ⟨h3, h4⟩ => h2 x hx ⟨?_, ?_⟩⟩
    · rw [tur_under hT hx hb] at h4; exact h4
    · rw [tur_under hT ha hx] at h3; exact h3
theorem mem_coverRow {us : List Nat} {a m x y : Nat} : (x, y) ∈ coverRow us a m ↔ x = a ∧ y < m ∧ coverB us a y = true := by
  unfold coverRow
  simp only [List.mem_map, List.mem_filter, List.mem_range, Prod.mk.injEq]
  constructor
  · rintro ⟨b, ⟨h1, h2⟩, rfl, rfl⟩; exact ⟨rfl, h1, h2⟩
  · rintro ⟨rfl, h1, h2⟩; exact ⟨y, ⟨h1, h2⟩, rfl, rfl⟩
theorem mem_coverL {us : List Nat} {x y : Nat} : ∀ {k : Nat}, (x, y) ∈ coverL us k ↔ x < k ∧ y < us.length ∧ coverB us x y = true
  | 0 => by simp [coverL]
  | k + 1 => by
    unfold coverL
    rw [List.mem_append, mem_coverL, mem_coverRow]
    constructor
    · rintro (⟨h1, h2, h3⟩ | ⟨rfl, h2, h3⟩)
      · exact ⟨by omega, h2, h3⟩
      · exact ⟨by omega, h2, h3⟩
    · rintro ⟨h1, h2, h3⟩
      by_cases e : x = k
      · exact .inr ⟨e, h2, e ▸ h3⟩
      · exact .inl ⟨by omega, h2, h3⟩
theorem nodup_coverRow (us : List Nat) (a m : Nat) : (coverRow us a m).Nodup := by
  unfold coverRow
  have h : ((List.range m).filter (coverB us a)).Nodup := List.Pairwise.filter _ List.nodup_range
  exact List.Pairwise.map _ (fun x y hne e => hne (by cases e; rfl)) h
theorem nodup_coverL (us : List Nat) : ∀ k, (coverL us k).Nodup
  | 0 => by simp [coverL]
  | k + 1 => by
    unfold coverL
    rw [List.nodup_append]
    refine ⟨nodup_coverL us k, nodup_coverRow us k _, fun p hp q hq e => ?_⟩
    subst e
    obtain ⟨x, y⟩ := p
    have h1 := (mem_coverL.1 hp).1
    have h2 := (mem_coverRow.1 hq).1
    omega
theorem nodup_leP : ∀ {a b : List (Nat × Nat)}, a.Nodup → (∀ x ∈ a, x ∈ b) → a.length ≤ b.length
  | [], _, _, _ => by simp
  | x :: a, b, hn, hs => by
    rw [List.nodup_cons] at hn
    have hx : x ∈ b := hs x (by simp)
    have h1 := nodup_leP (b := b.erase x) hn.2 (fun y hy => by
      have hne : y ≠ x := fun e => hn.1 (by rw [← e]; exact hy)
      exact (List.mem_erase_of_ne hne).2 (hs y (by simp [hy])))
    have h2 := List.length_erase_of_mem hx
    have h3 := List.length_pos_of_mem hx
    simp only [List.length_cons]; omega
def swapP (p : Nat × Nat) : Nat × Nat := (p.2, p.1)
theorem swap_len_le {us ds : List Nat} (hl : ds.length = us.length) (hc : ∀ a b, a < us.length → b < us.length → coverB us a b = true → coverB ds b a = true) : (coverL us us.length).length ≤ (coverL ds ds.length).length := by
  have hn : ((coverL us us.length).map swapP).Nodup := List.Pairwise.map _ (fun x y hne e => hne (by
    obtain ⟨a, b⟩ := x; obtain ⟨c, d⟩ := y
    simp only [swapP, Prod.mk.injEq] at e
    rw [e.1, e.2])) (nodup_coverL us us.length)
  have h := nodup_leP (b := coverL ds ds.length) hn (fun p hp => by
    obtain ⟨⟨a, b⟩, hm, rfl⟩ := List.mem_map.1 hp
    obtain ⟨h1, h2, h3⟩ := mem_coverL.1 hm
    exact mem_coverL.2 ⟨by rw [hl]; exact h2, by rw [hl]; exact h1, hc a b h1 h2 h3⟩)
  simpa using h
theorem swap_len {us ds : List Nat} (hT : Tur us us.length [] ds) : (coverL ds ds.length).length = (coverL us us.length).length := by
  have h1 := swap_len_le (us := us) (ds := ds) hT.len (fun a b ha hb h => by rw [tur_cover hT hb ha]; exact h)
  have h2 := swap_len_le (us := ds) (ds := us) hT.len.symm (fun a b ha hb h => by rw [hT.len] at ha hb; rw [← tur_cover hT ha hb]; exact h)
  omega
theorem swap_mem {us ds : List Nat} (hT : Tur us us.length [] ds) {a b : Nat} (h : (a, b) ∈ coverL us us.length) : (b, a) ∈ coverL ds ds.length := by
  obtain ⟨h1, h2, h3⟩ := mem_coverL.1 h
  exact mem_coverL.2 ⟨by rw [hT.len]; exact h2, by rw [hT.len]; exact h1, by rw [tur_cover hT h2 h1]; exact h3⟩
end Go.Proofs.YtemabboecmkoaaaDoor

namespace Go.Proofs.YtemabboecmkoaaaDoor
open Go.RowKit Go.Shelf

theorem allIn1 {n : Nat} {x : Int} : AllIn n [x] ↔ 0 ≤ x ∧ x < (n : Int) := by
  constructor
  · intro h
    exact h 0 (by simp)
  · intro h i hi
    match i, hi with
    | 0, _ => exact h
theorem allIn2 {n : Nat} {x y : Int} : AllIn n [x, y] ↔ (0 ≤ x ∧ x < (n : Int)) ∧ (0 ≤ y ∧ y < (n : Int)) := by
  constructor
  · intro h
    exact ⟨h 0 (by simp), h 1 (by simp)⟩
  · rintro ⟨h1, h2⟩ i hi
    match i, hi with
    | 0, _ => exact h1
    | 1, _ => exact h2
theorem zints1 (W : World) (t : TypeId) (x : Int) : ZInts (W.heap.size + 1) (W.alloc (.cells #[.int .i64 x] t)) (some ⟨W.heap.size, 0, none⟩) [x] := by
  have r := Row.new W t [.int .i64 x]
  refine .inr ⟨W.heap.size, 0, rfl, by omega, fun i hi => ?_⟩
  match i, hi with
  | 0, _ => exact r.cell (i := 0) rfl
theorem zints2 (W : World) (t : TypeId) (x y : Int) : ZInts (W.heap.size + 1) (W.alloc (.cells #[.int .i64 x, .int .i64 y] t)) (some ⟨W.heap.size, 0, none⟩) [x, y] := by
  have r := Row.new W t [.int .i64 x, .int .i64 y]
  refine .inr ⟨W.heap.size, 0, rfl, by omega, fun i hi => ?_⟩
  match i, hi with
  | 0, _ => exact r.cell (i := 0) rfl
  | 1, _ => exact r.cell (i := 1) rfl
/-- within, of one and of two numbers that were just laid -/
theorem kwithin1 (n : Nat) (x : Int) (W : World) : Calls Tryd.prog 14 #[.int .i64 n, .slice (some ⟨W.heap.size, 0, none⟩) 1 1] (W.alloc (.cells #[.int .i64 x] 3)) fun e w' => e = .returned (.bool (allInB n [x])) ∧ w' = W.alloc (.cells #[.int .i64 x] 3) :=
  kwithin_z n _ 1 [x] (W.heap.size + 1) (by simp) _ (zints1 W 3 x)
theorem kwithin2 (n : Nat) (x y : Int) (W : World) : Calls Tryd.prog 14 #[.int .i64 n, .slice (some ⟨W.heap.size, 0, none⟩) 2 2] (W.alloc (.cells #[.int .i64 x, .int .i64 y] 3)) fun e w' => e = .returned (.bool (allInB n [x, y])) ∧ w' = W.alloc (.cells #[.int .i64 x, .int .i64 y] 3) :=
  kwithin_z n _ 2 [x, y] (W.heap.size + 1) (by simp) _ (zints2 W 3 x y)
theorem kbelow_q (n : Int) (a : Option Addr) (cap : Nat) (us : List Nat) (n₀ : Nat) (hf : Fit us) (hl : us.length ≤ 16) (W : World) (hw : IsWords n₀ W a us) (hn₀ : n₀ ≤ W.heap.size) (x y : Nat) (r : Bool) (hx : x < us.length) (hy : y < us.length) (hr : hasB (wd us x) y = r) (d : Nat) (os : Array Obj) :
    Calls Tryd.prog 15 #[.agg #[.int .i64 n, .slice a us.length cap], .int .i64 x, .int .i64 y] (Go.Sort.grow (redrawn W d) os) fun e w'' => e = .returned (.bool r) ∧ ∃ p : Regrown, w'' = Go.Sort.grow (redrawn W p.d) p.os := by
  subst hr
  exact Calls.regrown_of (kbelow_any n a cap us x y n₀ hf hx (by omega) (Go.Sort.grow (redrawn W d) os) (hw.below ((below_regrown W d os).mono hn₀)) (by have := (below_regrown W d os).size; omega))

theorem turL_eq {us ds : List Nat} (hl : us.length ≤ 16) (hD : Tur us us.length [] ds) : turL us = ds := (turL_tur hl).unique hD
theorem turL_back {us ds : List Nat} (hf : Fit us) (hin : Inside us) (hl : us.length ≤ 16) (hD : Tur us us.length [] ds) : turL ds = us := tur_back hf hin hD (turL_tur (by rw [hD.len]; exact hl))
theorem latB_swap (us ds : List Nat) (h : ds.length = us.length) : latB ds us = latB us ds := by
  unfold latB; rw [h]
  cases nearB us <;> cases nearB ds <;> simp
theorem tur_mono {us ds fs : List Nat} (hD : Tur us us.length [] ds) (hmap : IsMap us.length us.length fs) (hm : Mono us fs) : Mono ds fs := fun a ha b hb h => by
  rw [hD.len] at ha hb
  exact (tur_le hD (hmap.lt _ ha) (hmap.lt _ hb)).2 (hm b hb a ha ((tur_le hD ha hb).1 h))
theorem tur_map {us ds : List Nat} {zs : List Int} (hD : Tur us us.length [] ds) (h : mapCode us zs = 0) : mapCode ds zs = 0 := by
  obtain ⟨h1, h2⟩ := mapCode_zero h
  exact mapCode_ok (by rw [hD.len]; exact h1) (monoB_true.2 (tur_mono hD (into_map h1) (monoB_true.1 h2)))
/-- of the dual just the same is told -/
theorem tur_end {us ds : List Nat} {zs : List Int} (hf : Fit us) (hc : codeOf us.length us = 0) (hm : mapCode us zs = 0) (hD : Tur us us.length [] ds) : endCode us.length ds zs = endCode us.length us zs := by
  have hl : us.length ≤ 16 := by have := code_zero hc; omega
  have hin := (code_zero hc).2.2.2.1
  have hcD := tur_code hc hD
  have e1 := turL_eq hl hD
  have e2 := turL_back hf hin hl hD
  have e3 := latB_swap us ds hD.len
  cases h : latB us ds with
  | true => rw [endCode_map hcD (by rw [e2, e3, h]), endCode_map hc (by rw [e1, h]), hm, tur_map hD hm]
  | false => rw [endCode_none hcD (by rw [e2, e3, h]), endCode_none hc (by rw [e1, h])]
theorem tur_bot {us ds : List Nat} {b : Nat} (hD : Tur us us.length [] ds) (h : IsBot ds b) : IsTop us b := by
  obtain ⟨h1, h2⟩ := h
  rw [hD.len] at h1 h2
  exact ⟨h1, fun x hx => (tur_le hD h1 hx).1 (h2 x hx)⟩
theorem top_one {us : List Nat} {b c : Nat} (ho : IsOrd us) (h1 : IsTop us b) (h2 : IsTop us c) : b = c := leW_anti ho h1.1 h2.1 (h2.2 _ h1.1) (h1.2 _ h2.1)
theorem bot_one {us : List Nat} {b c : Nat} (ho : IsOrd us) (h1 : IsBot us b) (h2 : IsBot us c) : b = c := leW_anti ho h1.1 h2.1 (h1.2 _ h2.1) (h2.2 _ h1.1)

/-- step by step a map makes Bottom greater -/
theorem bot_step {us fs : List Nat} (hmap : IsMap us.length us.length fs) (hm : Mono us fs) {b y K : Nat} (hb : IsBot us b) (hc : ComesTo fs b y K) : ∀ j, j < K → underB us (stepN fs b j) (stepN fs b (j + 1)) = true := fun j hj => by
  have := step_up (R := leW us) hmap (fun x y hx hy h => hm x hx y hy h) hb.1 (hb.2 _ (hmap.lt _ hb.1)) j
  exact underB_true.2 ⟨fun e => hc.first j hj e.symm, this⟩
theorem top_step_ {us fs : List Nat} (hmap : IsMap us.length us.length fs) (hm : Mono us fs) {b y K : Nat} (hb : IsTop us b) (hc : ComesTo fs b y K) : ∀ j, j < K → underB us (stepN fs b (j + 1)) (stepN fs b j) = true := fun j hj => by
  have := step_up (R := fun x y => leW us y x) hmap (fun x y hx hy h => hm y hy x hx h) hb.1 (hb.2 _ (hmap.lt _ hb.1)) j
  exact underB_true.2 ⟨hc.first j hj, this⟩
end Go.Proofs.YtemabboecmkoaaaDoor
