/- The law package's own test of a map, and what the ends tell, in one. -/
import Derived.Test.YtemabboecmkoaaaDoorFixLeft
import Derived.Test.YtemabboecmkoaaaDoorFixAll
import Derived.Test.YtemabboecmkoaaaDoorSound
import Derived.Test.YtemabboecmkoaaaDoorTurEx
import Derived.Test.YtemabboecmkoaaaDoorTabNone
namespace Go.Proofs.YtemabboecmkoaaaDoor
open Go.RowKit Go.Shelf

set_option maxRecDepth 100000 in
set_option maxHeartbeats 1000000 in
theorem mapped_any (n : Int) (a : Option Addr) (cap : Nat) (us : List Nat) (ag : Option Addr) (cg : Nat) (zs : List Int) (n₀ : Nat) (hf : Fit us) (h63 : zs.length ≤ 9223372036854775807) (w : World) (hw : IsWords n₀ w a us) (hz : ZInts n₀ w ag zs) (hn₀ : n₀ ≤ w.heap.size) :
    Calls Tryd.prog 9 #[.agg #[.int .i64 n, .slice a us.length cap], .slice ag zs.length cg] w fun e w' => e = .returned (.bool (fixCode n us zs == 0)) ∧ Below w.heap.size w w' := by
  obtain ⟨r0, hb0, hs0⟩ := one_row w 24 (.int .i64 n) (.slice a us.length cap) rfl
  have s1 := sound_any n a cap us n₀ hf _ (hw.below (hb0.mono hn₀)) (by omega)
  have lt0 := r0.lt
  by_cases hc : codeOf n us = 0
  · rw [fixCode_map hc]
    have en := (code_zero hc).2.2.1.symm
    have hl16 : us.length ≤ 16 := by have := code_zero hc; omega
    subst en
    have hnW : ∀ {W}, Below w.heap.size w W → n₀ ≤ W.heap.size := fun hW => by have := hW.size; omega
    have s2 : ∀ W, Below w.heap.size w W → _ := fun W hW => RefFix_any a cap us ag cg zs n₀ hf hl16 h63 W (hw.below (hW.mono hn₀)) (hz.below (hW.mono hn₀)) (hnW hW)
    have e0 : (codeOf us.length us == 0) = true := by rw [hc]; rfl
    rw [e0] at s1
    clear hc e0
    generalize mapCode us zs = c at *
    go_enter Tryd.func9, Tryd.ntmps9
    go_wp2_with fail
    with_reducible refine s1.mono ?_
    rintro e w1 ⟨rfl, hb1⟩
    have q0 := row_below r0 hb1 lt0
    have j0 := q0.cell (i := 0) rfl
    have j1 := q0.cell (i := 1) rfl
    have hB1 : Below w.heap.size w w1 := hb0.trans (hb1.mono (by omega))
    go_wp2_with fail
    with_reducible refine (s2 w1 hB1).mono ?_
    rintro e w2 ⟨rfl, hb2⟩
    go_wp2_with fail
    go_ret
    exact ⟨rfl, hB1.trans (hb2.mono hB1.size)⟩
  · rw [fixCode_bad hc]
    have e0 : (codeOf n us == 0) = false := by rw [beq_eq_false_iff_ne]; exact hc
    rw [e0] at s1
    rw [e0]
    clear hc e0
    go_enter Tryd.func9, Tryd.ntmps9
    go_wp2_with fail
    with_reducible refine s1.mono ?_
    rintro e w1 ⟨rfl, hb1⟩
    go_wp2_with fail
    go_ret
    exact ⟨rfl, hb0.trans (hb1.mono (by omega))⟩

/-- an order upside down -/
def turL (us : List Nat) : List Nat := (List.range us.length).map fun j => turnW us j us.length
theorem turL_tur {us : List Nat} (hl : us.length ≤ 16) : Tur us us.length [] (turL us) := by
  have hw : ∀ j, j < us.length → wd ((List.range us.length).map fun j => turnW us j us.length) j = turnW us j us.length := fun j hj => by
    unfold wd
    rw [List.getD_eq_getElem?_getD, List.getElem?_map, List.getElem?_range hj]
    rfl
  unfold turL
  refine ⟨by simp, fun i => ?_, fun j hj i => ?_⟩
  · by_cases h : i < us.length
    · rw [hw i h]; exact turnW_lt us i _ (by omega)
    · unfold wd
      rw [List.getD_eq_getElem?_getD, List.getElem?_eq_none (by simp; omega)]
      simp
  · rw [hw j hj, hasB_downW]; simp
/-- what Least and Greatest tell if they tell no element -/
def endCode (n : Int) (us : List Nat) (zs : List Int) : Int := if codeOf n us = 0 then (if latB us (turL us) then mapCode us zs else 5) else codeOf n us
theorem endCode_bad {n : Int} {us : List Nat} {zs : List Int} (h : codeOf n us ≠ 0) : endCode n us zs = codeOf n us := if_neg h
theorem endCode_none {n : Int} {us : List Nat} {zs : List Int} (h : codeOf n us = 0) (h2 : latB us (turL us) = false) : endCode n us zs = 5 := by unfold endCode; rw [if_pos h, h2]; rfl
theorem endCode_map {n : Int} {us : List Nat} {zs : List Int} (h : codeOf n us = 0) (h2 : latB us (turL us) = true) : endCode n us zs = mapCode us zs := by unfold endCode; rw [if_pos h, h2]; rfl
theorem endCode_zero {n : Int} {us : List Nat} {zs : List Int} (h : endCode n us zs = 0) : codeOf n us = 0 ∧ latB us (turL us) = true ∧ mapCode us zs = 0 := by
  by_cases hc : codeOf n us = 0
  · cases hl : latB us (turL us) with
    | true => rw [endCode_map hc hl] at h; exact ⟨hc, rfl, h⟩
    | false => rw [endCode_none hc hl] at h; exact absurd h (by decide)
  · rw [endCode_bad hc] at h; exact absurd h hc

theorem Least_all (n : Int) (a : Option Addr) (cap : Nat) (us : List Nat) (ag : Option Addr) (cg : Nat) (zs : List Int) (n₀ : Nat) (hf : Fit us) (h63 : zs.length ≤ 9223372036854775807) (w : World) (hT : TabAt w) (hw : IsWords n₀ w a us) (hz : ZInts n₀ w ag zs) (hg : 0 < n₀) (hn₀ : n₀ ≤ w.heap.size) :
    Calls Tryd.prog 13 #[.agg #[.int .i64 n, .slice a us.length cap], .slice ag zs.length cg] w fun e w' => Below w.heap.size w w' ∧ ((endCode n us zs ≠ 0 ∧ e = endErr (endCode n us zs)) ∨ (endCode n us zs = 0 ∧ ∃ b y K, IsBot us b ∧ ComesTo (mapN zs) b y K ∧ K < us.length ∧ y < us.length ∧ e = .returned (.tuple #[.int .i64 (y : Nat), .int .i64 (K : Nat), .int .i64 0]))) := by
  have hTW : ∀ {W}, Below w.heap.size w W → TabAt W := fun hW => hT.below hW (by omega)
  have hwW : ∀ {W}, Below w.heap.size w W → IsWords n₀ W a us := fun hW => hw.below (hW.mono hn₀)
  have hnW : ∀ {W}, Below w.heap.size w W → n₀ ≤ W.heap.size := fun hW => by have := hW.size; omega
  by_cases hc : codeOf n us = 0
  · have hD := turL_tur (us := us) (by have := code_zero hc; omega)
    cases hl : latB us (turL us) with
    | true =>
      rw [endCode_map hc hl]
      have en := (code_zero hc).2.2.1.symm
      subst en
      exact Least_map a cap us (turL us) ag cg zs n₀ hf h63 w hT hw hz hg hn₀ hc hD hl
    | false =>
      rw [endCode_none hc hl]
      exact (Least_err n a us.length cap ag zs.length cg 5 (by decide) w (fun X hX => TableOf_none n a cap us (turL us) n₀ hf X (hTW hX) (hwW hX) hg (hnW hX) hc hD hl)).mono fun e w' h => ⟨h.2, .inl ⟨by decide, h.1⟩⟩
  · rw [endCode_bad hc]
    exact (Least_err n a us.length cap ag zs.length cg _ hc w (fun X hX => TableOf_bad n a cap us n₀ hf X (hTW hX) (hwW hX) hg (hnW hX) hc)).mono fun e w' h => ⟨h.2, .inl ⟨hc, h.1⟩⟩

theorem Great_all (n : Int) (a : Option Addr) (cap : Nat) (us : List Nat) (ag : Option Addr) (cg : Nat) (zs : List Int) (n₀ : Nat) (hf : Fit us) (h63 : zs.length ≤ 9223372036854775807) (w : World) (hT : TabAt w) (hw : IsWords n₀ w a us) (hz : ZInts n₀ w ag zs) (hg : 0 < n₀) (hn₀ : n₀ ≤ w.heap.size) :
    Calls Tryd.prog 12 #[.agg #[.int .i64 n, .slice a us.length cap], .slice ag zs.length cg] w fun e w' => Below w.heap.size w w' ∧ ((endCode n us zs ≠ 0 ∧ e = endErr (endCode n us zs)) ∨ (endCode n us zs = 0 ∧ ∃ b y K, IsTop us b ∧ ComesTo (mapN zs) b y K ∧ K < us.length ∧ y < us.length ∧ e = .returned (.tuple #[.int .i64 (y : Nat), .int .i64 (K : Nat), .int .i64 0]))) := by
  have hTW : ∀ {W}, Below w.heap.size w W → TabAt W := fun hW => hT.below hW (by omega)
  have hwW : ∀ {W}, Below w.heap.size w W → IsWords n₀ W a us := fun hW => hw.below (hW.mono hn₀)
  have hnW : ∀ {W}, Below w.heap.size w W → n₀ ≤ W.heap.size := fun hW => by have := hW.size; omega
  by_cases hc : codeOf n us = 0
  · have hD := turL_tur (us := us) (by have := code_zero hc; omega)
    cases hl : latB us (turL us) with
    | true =>
      rw [endCode_map hc hl]
      have en := (code_zero hc).2.2.1.symm
      subst en
      exact Great_map a cap us (turL us) ag cg zs n₀ hf h63 w hT hw hz hg hn₀ hc hD hl
    | false =>
      rw [endCode_none hc hl]
      exact (Great_err n a us.length cap ag zs.length cg 5 (by decide) w (fun X hX => TableOf_none n a cap us (turL us) n₀ hf X (hTW hX) (hwW hX) hg (hnW hX) hc hD hl)).mono fun e w' h => ⟨h.2, .inl ⟨by decide, h.1⟩⟩
  · rw [endCode_bad hc]
    exact (Great_err n a us.length cap ag zs.length cg _ hc w (fun X hX => TableOf_bad n a cap us n₀ hf X (hTW hX) (hwW hX) hg (hnW hX) hc)).mono fun e w' h => ⟨h.2, .inl ⟨hc, h.1⟩⟩

/-- what is below what, by the words -/
theorem ends_down {us fs : List Nat} (ho : IsOrd us) (hmap : IsMap us.length us.length fs) (hm : Mono us fs) {b y K : Nat} (hb : IsBot us b) (hc : ComesTo fs b y K) {x : Nat} (hx : x < us.length) (h : leW us (wd fs x) x) : leW us y x := by
  have key : ∀ k, leW us (stepN fs b k) x := fun k => by
    induction k with
    | zero => exact hb.2 x hx
    | succ k ih =>
      have h1 := stepN_lt hmap hb.1 k
      exact leW_trans ho (hmap.lt _ h1) (hmap.lt _ hx) hx (hm _ h1 _ hx ih) h
  have := key K
  rw [hc.at_] at this
  exact this
theorem ends_up {us fs : List Nat} (ho : IsOrd us) (hmap : IsMap us.length us.length fs) (hm : Mono us fs) {b y K : Nat} (hb : IsTop us b) (hc : ComesTo fs b y K) {x : Nat} (hx : x < us.length) (h : leW us x (wd fs x)) : leW us x y := by
  have key : ∀ k, leW us x (stepN fs b k) := fun k => by
    induction k with
    | zero => exact hb.2 x hx
    | succ k ih =>
      have h1 := stepN_lt hmap hb.1 k
      exact leW_trans ho hx (hmap.lt _ hx) (hmap.lt _ h1) h (hm _ hx _ h1 ih)
  have := key K
  rw [hc.at_] at this
  exact this
end Go.Proofs.YtemabboecmkoaaaDoor
