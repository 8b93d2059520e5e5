/- More on maps of orders, without a program: the dual, how far it is, and what grows. -/
import Derived.Test.YtemabboecmkoaaaDoorFixKeep
import Derived.Test.YtemabboecmkoaaaDoorKeepBelow
import Derived.Test.YtemabboecmkoaaaDoorDualPlain
import Derived.BigQuiet
namespace Go.Proofs.YtemabboecmkoaaaDoor
open Go.RowKit Go.Shelf

theorem allIn1 {n : Nat} {x : Int} : AllIn n [x] ↔ 0 ≤ x ∧ x < (n : Int) := by
  constructor
  · intro h
    exact h 0 (by simp)
  · intro h i hi
    match i, hi with
    | 0, _ => exact h
theorem allIn2 {n : Nat} {x y : Int} : AllIn n [x, y] ↔ (0 ≤ x ∧ x < (n : Int)) ∧ (0 ≤ y ∧ y < (n : Int)) := by
  constructor
  · intro h
    exact ⟨h 0 (by simp), h 1 (by simp)⟩
  · rintro ⟨h1, h2⟩ i hi
    match i, hi with
    | 0, _ => exact h1
    | 1, _ => exact h2
theorem zints1 (W : World) (t : TypeId) (x : Int) : ZInts (W.heap.size + 1) (W.alloc (.cells #[.int .i64 x] t)) (some ⟨W.heap.size, 0, none⟩) [x] := by
  have r := Row.new W t [.int .i64 x]
  refine .inr ⟨W.heap.size, 0, rfl, by omega, fun i hi => ?_⟩
  match i, hi with
  | 0, _ => exact r.cell (i := 0) rfl
theorem zints2 (W : World) (t : TypeId) (x y : Int) : ZInts (W.heap.size + 1) (W.alloc (.cells #[.int .i64 x, .int .i64 y] t)) (some ⟨W.heap.size, 0, none⟩) [x, y] := by
  have r := Row.new W t [.int .i64 x, .int .i64 y]
  refine .inr ⟨W.heap.size, 0, rfl, by omega, fun i hi => ?_⟩
  match i, hi with
  | 0, _ => exact r.cell (i := 0) rfl
  | 1, _ => exact r.cell (i := 1) rfl
/-- within, of one and of two numbers that were just laid -/
theorem kwithin1 (n : Nat) (x : Int) (W : World) : Calls Tryd.prog 14 #[.int .i64 n, .slice (some ⟨W.heap.size, 0, none⟩) 1 1] (W.alloc (.cells #[.int .i64 x] 3)) fun e w' => e = .returned (.bool (allInB n [x])) ∧ w' = W.alloc (.cells #[.int .i64 x] 3) :=
  kwithin_z n _ 1 [x] (W.heap.size + 1) (by simp) _ (zints1 W 3 x)
theorem kwithin2 (n : Nat) (x y : Int) (W : World) : Calls Tryd.prog 14 #[.int .i64 n, .slice (some ⟨W.heap.size, 0, none⟩) 2 2] (W.alloc (.cells #[.int .i64 x, .int .i64 y] 3)) fun e w' => e = .returned (.bool (allInB n [x, y])) ∧ w' = W.alloc (.cells #[.int .i64 x, .int .i64 y] 3) :=
  kwithin_z n _ 2 [x, y] (W.heap.size + 1) (by simp) _ (zints2 W 3 x y)
theorem kbelow_q (n : Int) (a : Option Addr) (cap : Nat) (us : List Nat) (n₀ : Nat) (hf : Fit us) (hl : us.length ≤ 16) (W : World) (hw : IsWords n₀ W a us) (hn₀ : n₀ ≤ W.heap.size) (x y : Nat) (r : Bool) (hx : x < us.length) (hy : y < us.length) (hr : hasB (wd us x) y = r) (d : Nat) (os : Array Obj) :
    Calls Tryd.prog 15 #[.agg #[.int .i64 n, .slice a us.length cap], .int .i64 x, .int .i64 y] (Go.Sort.grow (redrawn W d) os) fun e w'' => e = .returned (.bool r) ∧ ∃ p : Regrown, w'' = Go.Sort.grow (redrawn W p.d) p.os := by
  subst hr
  exact Calls.regrown_of (kbelow_any n a cap us x y n₀ hf hx (by omega) (Go.Sort.grow (redrawn W d) os) (hw.below ((below_regrown W d os).mono hn₀)) (by have := (below_regrown W d os).size; omega))

theorem turL_eq {us ds : List Nat} (hl : us.length ≤ 16) (hD : Tur us us.length [] ds) : turL us = ds := (turL_tur hl).unique hD
theorem turL_back {us ds : List Nat} (hf : Fit us) (hin : Inside us) (hl : us.length ≤ 16) (hD : Tur us us.length [] ds) : turL ds = us := tur_back hf hin hD (turL_tur (by rw [hD.len]; exact hl))
theorem latB_swap (us ds : List Nat) (h : ds.length = us.length) : latB ds us = latB us ds := by
  unfold latB; rw [h]
  cases nearB us <;> cases nearB ds <;> simp
theorem tur_mono {us ds fs : List Nat} (hD : Tur us us.length [] ds) (hmap : IsMap us.length us.length fs) (hm : Mono us fs) : Mono ds fs := fun a ha b hb h => by
  rw [hD.len] at ha hb
  exact (tur_le hD (hmap.lt _ ha) (hmap.lt _ hb)).2 (hm b hb a ha ((tur_le hD ha hb).1 h))
theorem tur_map {us ds : List Nat} {zs : List Int} (hD : Tur us us.length [] ds) (h : mapCode us zs = 0) : mapCode ds zs = 0 := by
  obtain ⟨h1, h2⟩ := mapCode_zero h
  exact mapCode_ok (by rw [hD.len]; exact h1) (monoB_true.2 (tur_mono hD (into_map h1) (monoB_true.1 h2)))
/-- of the dual just the same is told -/
theorem tur_end {us ds : List Nat} {zs : List Int} (hf : Fit us) (hc : codeOf us.length us = 0) (hm : mapCode us zs = 0) (hD : Tur us us.length [] ds) : endCode us.length ds zs = endCode us.length us zs := by
  have hl : us.length ≤ 16 := by have := code_zero hc; omega
  have hin := (code_zero hc).2.2.2.1
  have hcD := tur_code hc hD
  have e1 := turL_eq hl hD
  have e2 := turL_back hf hin hl hD
  have e3 := latB_swap us ds hD.len
  cases h : latB us ds with
  | true => rw [endCode_map hcD (by rw [e2, e3, h]), endCode_map hc (by rw [e1, h]), hm, tur_map hD hm]
  | false => rw [endCode_none hcD (by rw [e2, e3, h]), endCode_none hc (by rw [e1, h])]
theorem tur_bot {us ds : List Nat} {b : Nat} (hD : Tur us us.length [] ds) (h : IsBot ds b) : IsTop us b := by
  obtain ⟨h1, h2⟩ := h
  rw [hD.len] at h1 h2
  exact ⟨h1, fun x hx => (tur_le hD h1 hx).1 (h2 x hx)⟩
theorem top_one {us : List Nat} {b c : Nat} (ho : IsOrd us) (h1 : IsTop us b) (h2 : IsTop us c) : b = c := leW_anti ho h1.1 h2.1 (h2.2 _ h1.1) (h1.2 _ h2.1)
theorem bot_one {us : List Nat} {b c : Nat} (ho : IsOrd us) (h1 : IsBot us b) (h2 : IsBot us c) : b = c := leW_anti ho h1.1 h2.1 (h1.2 _ h2.1) (h2.2 _ h1.1)

/-- step by step a map makes Bottom greater -/
theorem bot_step {us fs : List Nat} (hmap : IsMap us.length us.length fs) (hm : Mono us fs) {b y K : Nat} (hb : IsBot us b) (hc : ComesTo fs b y K) : ∀ j, j < K → underB us (stepN fs b j) (stepN fs b (j + 1)) = true := fun j hj => by
  have := step_up (R := leW us) hmap (fun x y hx hy h => hm x hx y hy h) hb.1 (hb.2 _ (hmap.lt _ hb.1)) j
  exact underB_true.2 ⟨fun e => hc.first j hj e.symm, this⟩
theorem top_step_ {us fs : List Nat} (hmap : IsMap us.length us.length fs) (hm : Mono us fs) {b y K : Nat} (hb : IsTop us b) (hc : ComesTo fs b y K) : ∀ j, j < K → underB us (stepN fs b (j + 1)) (stepN fs b j) = true := fun j hj => by
  have := step_up (R := fun x y => leW us y x) hmap (fun x y hx hy h => hm y hy x hx h) hb.1 (hb.2 _ (hmap.lt _ hb.1)) j
  exact underB_true.2 ⟨hc.first j hj, this⟩
theorem end_same {us : List Nat} {zs ys : List Int} (hc : codeOf us.length us = 0) (h : mapCode us zs = mapCode us ys) : endCode us.length us zs = endCode us.length us ys := by
  cases hl : latB us (turL us) with
  | true => rw [endCode_map hc hl, endCode_map hc hl, h]
  | false => rw [endCode_none hc hl, endCode_none hc hl]
end Go.Proofs.YtemabboecmkoaaaDoor
