/- What comes of an element, if a map is done again and again: repeated, Least and Greatest, and the document's FixedFrom. -/
import Derived.Test.YtemabboecmkoaaaDoorFixAll
import Derived.Test.YtemabboecmkoaaaDoorTabNone
import Derived.Test.YtemabboecmkoaaaDoorSubPlain
import Derived.Test.YtemabboecmkoaaaDoorLatTab
namespace Go.Proofs.YtemabboecmkoaaaDoor
open Go.RowKit Go.Shelf

section
variable {n : Nat} {fs : List Nat} {R : Nat → Nat → Prop}
theorem step_up (hmap : IsMap n n fs) (mono : ∀ x y, x < n → y < n → R x y → R (wd fs x) (wd fs y)) {x : Nat} (hx : x < n) (h0 : R x (wd fs x)) : ∀ k, R (stepN fs x k) (stepN fs x (k + 1))
  | 0 => h0
  | k + 1 => mono _ _ (stepN_lt hmap hx k) (stepN_lt hmap hx (k + 1)) (step_up hmap mono hx h0 k)
theorem step_le (hmap : IsMap n n fs) (refl : ∀ x, x < n → R x x) (trans : ∀ x y z, x < n → y < n → z < n → R x y → R y z → R x z) (mono : ∀ x y, x < n → y < n → R x y → R (wd fs x) (wd fs y)) {x : Nat} (hx : x < n) (h0 : R x (wd fs x)) (i : Nat) : ∀ d, R (stepN fs x i) (stepN fs x (i + d))
  | 0 => refl _ (stepN_lt hmap hx i)
  | d + 1 => trans _ _ _ (stepN_lt hmap hx i) (stepN_lt hmap hx (i + d)) (stepN_lt hmap hx (i + d + 1)) (step_le hmap refl trans mono hx h0 i d) (step_up hmap mono hx h0 (i + d))
theorem step_ne (hmap : IsMap n n fs) (refl : ∀ x, x < n → R x x) (trans : ∀ x y z, x < n → y < n → z < n → R x y → R y z → R x z) (anti : ∀ x y, x < n → y < n → R x y → R y x → x = y) (mono : ∀ x y, x < n → y < n → R x y → R (wd fs x) (wd fs y)) {x : Nat} (hx : x < n) (h0 : R x (wd fs x)) {K : Nat} (hK : ∀ j, j < K → stepN fs x (j + 1) ≠ stepN fs x j) {i j : Nat} (hij : i < j) (hj : j ≤ K) : stepN fs x i ≠ stepN fs x j := fun e => by
  refine hK i (by omega) ?_
  refine anti _ _ (stepN_lt hmap hx _) (stepN_lt hmap hx _) ?_ (step_up hmap mono hx h0 i)
  rw [e]
  have := step_le hmap refl trans mono hx h0 (i + 1) (j - (i + 1))
  rw [show i + 1 + (j - (i + 1)) = j by omega] at this
  exact this
theorem step_few (hmap : IsMap n n fs) (refl : ∀ x, x < n → R x x) (trans : ∀ x y z, x < n → y < n → z < n → R x y → R y z → R x z) (anti : ∀ x y, x < n → y < n → R x y → R y x → x = y) (mono : ∀ x y, x < n → y < n → R x y → R (wd fs x) (wd fs y)) {x : Nat} (hx : x < n) (h0 : R x (wd fs x)) {K : Nat} (hK : ∀ j, j < K → stepN fs x (j + 1) ≠ stepN fs x j) : K < n := by
  have hnd : ((List.range (K + 1)).map (stepN fs x)).Nodup := by
    rw [List.Nodup, List.pairwise_map]
    refine (List.pairwise_lt_range (n := K + 1)).imp_of_mem ?_
    intro i j _ hj hij
    exact step_ne hmap refl trans anti mono hx h0 hK hij (by have := List.mem_range.1 hj; omega)
  have := nodup_lt hnd (n := n) fun y hy => by
    obtain ⟨i, _, e⟩ := List.mem_map.1 hy
    rw [← e]; exact stepN_lt hmap hx i
  simp at this
  omega
theorem step_first (x : Nat) : ∀ k, (∀ j, j < k → stepN fs x (j + 1) ≠ stepN fs x j) ∨ ∃ K, K < k ∧ ComesTo fs x (stepN fs x K) K
  | 0 => .inl fun j hj => by omega
  | k + 1 => by
    rcases step_first x k with h | ⟨K, h1, h2⟩
    · by_cases e : stepN fs x (k + 1) = stepN fs x k
      · exact .inr ⟨k, by omega, rfl, e, h⟩
      · exact .inl fun j hj => by
          by_cases ej : j = k
          · subst ej; exact e
          · exact h j (by omega)
    · exact .inr ⟨K, by omega, h2⟩
theorem comes_ex (hmap : IsMap n n fs) (refl : ∀ x, x < n → R x x) (trans : ∀ x y z, x < n → y < n → z < n → R x y → R y z → R x z) (anti : ∀ x y, x < n → y < n → R x y → R y x → x = y) (mono : ∀ x y, x < n → y < n → R x y → R (wd fs x) (wd fs y)) {x : Nat} (hx : x < n) (h0 : R x (wd fs x)) : ∃ y K, ComesTo fs x y K ∧ K < n ∧ y < n := by
  rcases step_first (fs := fs) x n with h | ⟨K, h1, h2⟩
  · exact absurd (step_few hmap refl trans anti mono hx h0 h) (Nat.lt_irrefl _)
  · exact ⟨_, K, h2, h1, stepN_lt hmap hx K⟩
end
theorem ComesTo.unique {fs : List Nat} {x y z k l : Nat} (h1 : ComesTo fs x y k) (h2 : ComesTo fs x z l) : y = z ∧ k = l := by
  have hk : ¬ k < l := fun h => h2.first k h (by show wd fs (stepN fs x k) = stepN fs x k; rw [h1.at_]; exact h1.stay)
  have hl : ¬ l < k := fun h => h1.first l h (by show wd fs (stepN fs x l) = stepN fs x l; rw [h2.at_]; exact h2.stay)
  have e : k = l := by omega
  subst e
  exact ⟨h1.at_.symm.trans h2.at_, rfl⟩

def IsBot (us : List Nat) (b : Nat) : Prop := b < us.length ∧ ∀ x, x < us.length → leW us b x
def IsTop (us : List Nat) (b : Nat) : Prop := b < us.length ∧ ∀ x, x < us.length → leW us x b
theorem leW_tr {us : List Nat} {js ms : Nat → Nat → Nat} {b t : Nat} (L : Lat us.length (leW us) js ms b t) : ∀ x y z, x < us.length → y < us.length → z < us.length → leW us x y → leW us y z → leW us x z := fun _ _ _ h1 h2 h3 => L.trans h1 h2 h3
theorem bot_comes {us fs : List Nat} {js ms : Nat → Nat → Nat} {b t : Nat} (L : Lat us.length (leW us) js ms b t) (hmap : IsMap us.length us.length fs) (hm : Mono us fs) : ∃ y K, ComesTo fs b y K ∧ K < us.length ∧ y < us.length :=
  comes_ex (R := leW us) hmap (fun _ h => L.refl h) (leW_tr L) (fun _ _ h1 h2 => L.anti h1 h2) (fun x y hx hy h => hm x hx y hy h) L.blt (L.ble (hmap.lt _ L.blt))
theorem top_comes {us fs : List Nat} {js ms : Nat → Nat → Nat} {b t : Nat} (L : Lat us.length (leW us) js ms b t) (hmap : IsMap us.length us.length fs) (hm : Mono us fs) : ∃ y K, ComesTo fs t y K ∧ K < us.length ∧ y < us.length :=
  comes_ex (R := fun x y => leW us y x) hmap (fun _ h => L.refl h) (fun _ _ _ h1 h2 h3 a b => L.trans h3 h2 h1 b a) (fun _ _ h1 h2 a b => L.anti h1 h2 b a) (fun x y hx hy h => hm y hy x hx h) L.tlt (L.let_ (hmap.lt _ L.tlt))

set_option maxRecDepth 100000 in
set_option maxHeartbeats 1000000 in
theorem repeated_any (ag : Option Addr) (cg : Nat) (fs : List Nat) (x y K n₀ : Nat) (hK : K < 1000) (hc : ComesTo fs x y K) (hlt : ∀ k, stepN fs x k < fs.length) (w : World) (hw : IsInts n₀ w ag fs) :
    Calls Tryd.prog 45 #[.func (.func 42) #[.slice ag fs.length cg] #[], .int .i64 x] w fun e w' => e = .returned (.tuple #[.int .i64 y, .int .i64 K]) ∧ w' = w := by
  have hof : ∀ k, Calls Tryd.prog 42 #[.slice ag fs.length cg, .int .i64 (stepN fs x k : Nat)] w fun e w' => e = .returned (.int .i64 (stepN fs x (k + 1) : Nat)) ∧ w' = w := fun k => of_any ag cg fs (stepN fs x k) n₀ (hlt k) w hw
  have h0 : Calls Tryd.prog 42 #[.slice ag fs.length cg, .int .i64 x] w fun e w' => e = .returned (.int .i64 (stepN fs x 1 : Nat)) ∧ w' = w := hof 0
  go_enter Tryd.func45, Tryd.ntmps45
  go_wp2_with (go_at_call 42; refine h0.mono ?_; rintro e w1 ⟨rfl, hww⟩; rw [hww]; clear hww w1)
  go_loop [1, 6, 7] (fun v i u => ∃ k : Nat, k ≤ K ∧ v = .int .i64 (stepN fs x k : Nat) ∧ i = .int .i64 k ∧ u = .int .i64 (stepN fs x (k + 1) : Nat)) (fun _ i _ => K - (intOf i).toNat)
  case atStart => exact ⟨0, Nat.zero_le _, rfl, rfl, rfl⟩
  case round =>
    obtain ⟨k, hk, rfl, rfl, rfl⟩ := hrel
    by_cases hlt2 : k < K
    · have hd : (((stepN fs x (k + 1) : Nat) : Int) != ((stepN fs x k : Nat) : Int)) = true := by rw [bne_iff_ne]; have := hc.first k hlt2; omega
      have h1 := hof (k + 1)
      clear hof h0
      go_wp2_with (go_at_call 42; refine h1.mono ?_; rintro e w1 ⟨rfl, hww⟩; rw [hww]; clear hww w1)
      go_round
      case rel => exact ⟨k + 1, by omega, rfl, by go_num, rfl⟩
      case measure => simp [intOf]; omega
    · obtain rfl : k = K := by omega
      have e1 := hc.at_
      have e2 : stepN fs x (k + 1) = y := by show wd fs (stepN fs x k) = y; rw [e1]; exact hc.stay
      rw [e1, e2]
      have hd : ((y : Int) != (y : Int)) = false := by simp
      clear hof h0 e1 e2
      go_wp2
      go_ret2
      exact ⟨rfl, rfl⟩

def endErr (c : Int) : Ending := .returned (.tuple #[.int .i64 0, .int .i64 0, .int .i64 c])

theorem Least1_any (p0 p1 p2 p3 : Value) (bt tp : Int) (w : World) : Calls Tryd.prog 28 #[.agg #[p0, p1, p2, p3, .int .i64 bt, .int .i64 tp]] w fun e w' => e = .returned (.int .i64 bt) ∧ Below w.heap.size w w' := by
  go_enter Tryd.func28, Tryd.ntmps28
  go_wp2
  go_ret
  exact ⟨rfl, (Below.refl _ _).alloc (Nat.le_refl _) _⟩

set_option maxRecDepth 100000 in
set_option maxHeartbeats 1000000 in
theorem Least_err (n : Int) (a : Option Addr) (len cap : Nat) (ag : Option Addr) (lg cg : Nat) (c : Int) (hc : c ≠ 0) (w : World) (ht : ∀ W, Below w.heap.size w W → Calls Tryd.prog 30 #[.agg #[.int .i64 n, .slice a len cap]] W fun e w' => e = tabErr c ∧ Below W.heap.size W w') :
    Calls Tryd.prog 13 #[.agg #[.int .i64 n, .slice a len cap], .slice ag lg cg] w fun e w' => e = endErr c ∧ Below w.heap.size w w' := by
  obtain ⟨r0, hb0, hs0⟩ := one_row w 24 (.int .i64 n) (.slice a len cap) rfl
  have hl : ∀ W, Below w.heap.size w W → Calls Tryd.prog 26 #[.agg #[.int .i64 n, .slice a len cap], .slice ag lg cg, .func (.func 28) #[] #[]] W fun e w' => e = endErr c ∧ Below W.heap.size W w' := fun W hW => by
    obtain ⟨q0, hq0, hqs⟩ := one_row W 24 (.int .i64 n) (.slice a len cap) rfl
    have h1 := ht _ (hW.trans (hq0.mono hW.size))
    unfold tabErr at h1
    unfold endErr
    have hne : (c != 0) = true := by rw [bne_iff_ne]; exact hc
    clear hc ht
    go_enter Tryd.func26, Tryd.ntmps26
    go_wp2_with fail
    refine h1.mono ?_
    rintro e w1 ⟨rfl, hb1⟩
    go_wp2_with fail
    go_ret3
    exact ⟨rfl, (hq0.trans (hb1.mono (by omega))).alloc (by have := hb1.size; omega) _⟩
  have h2 := hl _ hb0
  unfold endErr at h2 ⊢
  clear hl ht hc
  go_enter Tryd.func13, Tryd.ntmps13
  go_wp2_with fail
  refine h2.mono ?_
  rintro e w1 ⟨rfl, hb1⟩
  go_wp2_with fail
  go_ret3
  exact ⟨rfl, hb0.trans (hb1.mono (by omega))⟩

set_option maxRecDepth 100000 in
set_option maxHeartbeats 2000000 in
theorem Least_map (a : Option Addr) (cap : Nat) (us ds : List Nat) (ag : Option Addr) (cg : Nat) (zs : List Int) (n₀ : Nat) (hf : Fit us) (h63 : zs.length ≤ 9223372036854775807) (w : World) (hT : TabAt w) (hw : IsWords n₀ w a us) (hz : ZInts n₀ w ag zs) (hg : 0 < n₀) (hn₀ : n₀ ≤ w.heap.size) (hc : codeOf us.length us = 0) (hD : Tur us us.length [] ds) (hl : latB us ds = true) :
    Calls Tryd.prog 13 #[.agg #[.int .i64 us.length, .slice a us.length cap], .slice ag zs.length cg] w fun e w' => Below w.heap.size w w' ∧ ((mapCode us zs ≠ 0 ∧ e = endErr (mapCode us zs)) ∨ (mapCode us zs = 0 ∧ ∃ b y K, IsBot us b ∧ ComesTo (mapN zs) b y K ∧ K < us.length ∧ y < us.length ∧ e = .returned (.tuple #[.int .i64 (y : Nat), .int .i64 (K : Nat), .int .i64 0]))) := by
  obtain ⟨h1, h2, h3⟩ := latB_parts hl
  have hzz := n_zero hc
  rw [decide_eq_false h1] at hzz
  have hl16 : us.length ≤ 16 := by have := code_zero hc; omega
  have hord := (code_zero hc).2.2.2.2
  obtain ⟨r0, hb0, hs0⟩ := one_row w 24 (.int .i64 us.length) (.slice a us.length cap) rfl
  have hleft : ∀ W, Below w.heap.size w W → Calls Tryd.prog 26 #[.agg #[.int .i64 us.length, .slice a us.length cap], .slice ag zs.length cg, .func (.func 28) #[] #[]] W fun e w' => Below W.heap.size W w' ∧ ((mapCode us zs ≠ 0 ∧ e = endErr (mapCode us zs)) ∨ (mapCode us zs = 0 ∧ ∃ b y K, IsBot us b ∧ ComesTo (mapN zs) b y K ∧ K < us.length ∧ y < us.length ∧ e = .returned (.tuple #[.int .i64 (y : Nat), .int .i64 (K : Nat), .int .i64 0]))) := fun W hW => by
    obtain ⟨q0, hq0, hqs⟩ := one_row W 24 (.int .i64 us.length) (.slice a us.length cap) rfl
    have hWq := hW.trans (hq0.mono hW.size)
    have hWs := hW.size
    have hta := TableOf_ok us.length a cap us ds n₀ hf _ (hT.below hWq (by omega)) (hw.below (hWq.mono hn₀)) hg (by omega) hc hD hzz h2 h3
    have hL : ∀ js ms, NearTo us js (us.length * us.length) → NearTo ds ms (us.length * us.length) → Lat us.length (leW us) (at2 js us.length) (at2 ms us.length) (gath (at2 ms us.length) 0 us.length) (gath (at2 js us.length) 0 us.length) := fun js ms h1' h2' => lat_pre hord hD h1' h2' (Nat.pos_of_ne_zero h1)
    have lq := q0.lt
    clear hl hzz h2 h3 hD
    unfold endErr
    go_enter Tryd.func26, Tryd.ntmps26
    go_wp2_with fail
    refine hta.mono ?_
    rintro e w1 ⟨ca, cc, aj, cj, am, cm, js, ms, rfl, hb1, o0, o1, o2, hN1, hN2⟩
    have hs1 := hb1.size
    have hB1 : Below W.heap.size W w1 := hq0.trans (hb1.mono (by omega))
    have L := hL js ms hN1 hN2
    clear hta o0 o1 o2 hN1 hN2 hL
    generalize gath (at2 ms us.length) 0 us.length = bt at *
    generalize gath (at2 js us.length) 0 us.length = tp at *
    obtain ⟨V, hV⟩ : ∃ V, V = w1.alloc (.cells #[.int .i64 us.length, .slice ca us.length cc, .slice aj (us.length * us.length) cj, .slice am (us.length * us.length) cm, .int .i64 (bt : Nat), .int .i64 (tp : Nat)] 52) := ⟨_, rfl⟩
    have hA : Below w1.heap.size w1 V := by rw [hV]; exact (Below.refl _ _).alloc (Nat.le_refl _) _
    have zT : Row V w1.heap.size 52 [.int .i64 us.length, .slice ca us.length cc, .slice aj (us.length * us.length) cj, .slice am (us.length * us.length) cm, .int .i64 (bt : Nat), .int .i64 (tp : Nat)] := by rw [hV]; exact Row.new w1 _ _
    have hBV : Below W.heap.size W V := hB1.trans (hA.mono (by omega))
    have hBw : Below w.heap.size w V := hW.trans (hBV.mono hWs)
    have hVs := hBV.size
    have x0 := row_below (row_below q0 hb1 lq) hA (by omega)
    have k0 := x0.cell (i := 0) rfl
    have k1 := x0.cell (i := 1) rfl
    have hzV := hz.below (hBw.mono hn₀)
    have hcm := checkMap_any a cap us ag cg zs n₀ hf hl16 h63 V (hw.below (hBw.mono hn₀)) hzV (by omega)
    have lzT := zT.lt
    have kk0 := k0
    have kk1 := k1
    rw [hV] at kk0 kk1
    go_wp2_with fail
    rw [← hV]
    refine hcm.mono ?_
    rintro e w2 ⟨rfl, hb2⟩
    have hB2 : Below W.heap.size W w2 := hBV.trans (hb2.mono hVs)
    by_cases hmc : mapCode us zs = 0
    · obtain ⟨hI, hmo⟩ := mapCode_zero hmc
      have hmap := into_map hI
      have hlz : zs.length = us.length := (intoB_true.1 hI).1
      obtain ⟨y, K, hcom, hK, hy⟩ := bot_comes L hmap (monoB_true.1 hmo)
      have HB : Hid (IsBot us bt) := hide ⟨L.blt, fun _ h => L.ble h⟩
      have hzi := (mapN_ints (intoB_true.1 hI).2 hzV).below (hb2.mono (by omega))
      have hst : ∀ k, stepN (mapN zs) bt k < (mapN zs).length := fun k => by rw [hmap.len]; exact stepN_lt hmap HB.out.1 k
      rw [hmc]
      have hlm := hmap.len
      have HC := hide hcom
      have zT2 := row_below zT hb2 lzT
      have t0 := zT2.cell (i := 0) rfl
      have t1 := zT2.cell (i := 1) rfl
      have t2 := zT2.cell (i := 2) rfl
      have t3 := zT2.cell (i := 3) rfl
      have t4 := zT2.cell (i := 4) rfl
      have t5 := zT2.cell (i := 5) rfl
      have c1 := Least1_any (.int .i64 us.length) (.slice ca us.length cc) (.slice aj (us.length * us.length) cj) (.slice am (us.length * us.length) cm) (bt : Nat) (tp : Nat) w2
      have hb2s := hb2.size
      have hre : ∀ X, Below w2.heap.size w2 X → Calls Tryd.prog 45 #[.func (.func 42) #[.slice ag us.length cg] #[], .int .i64 (bt : Nat)] X fun e w' => e = .returned (.tuple #[.int .i64 (y : Nat), .int .i64 (K : Nat)]) ∧ w' = X := fun X hX => by
        have h := repeated_any ag cg (mapN zs) bt y K n₀ (by omega) hcom hst X (hzi.below (hX.mono (by omega)))
        rw [hlm] at h
        exact h
      clear hcom hcm k0 k1 kk0 kk1 L hmap hI hmo hst hzi hlm
      go_wp2_with fail
      refine c1.mono ?_
      rintro e w3 ⟨rfl, hb3⟩
      clear t0 t1 t2 t3 t4 t5
      go_wp2_with fail
      with_reducible refine (hre w3 hb3).mono ?_
      rintro e w4 ⟨rfl, hww⟩
      rw [hww]
      clear hww w4
      go_wp2_with fail
      go_ret3
      exact ⟨hB2.trans (hb3.mono (by have := hB2.size; omega)), .inr ⟨hmc, bt, y, K, HB.out, HC.out, hK, hy, rfl⟩⟩
    · have hne : (mapCode us zs != 0) = true := by rw [bne_iff_ne]; exact hmc
      clear hcm L kk0 kk1
      go_wp2_with fail
      go_ret3
      exact ⟨hB2, .inl ⟨hmc, rfl⟩⟩
  have s1 := hleft _ hb0
  clear hleft
  unfold endErr at s1 ⊢
  go_enter Tryd.func13, Tryd.ntmps13
  go_wp2_with fail
  refine s1.mono ?_
  rintro e w1 ⟨hb1, hh⟩
  have hB1 : Below w.heap.size w w1 := hb0.trans (hb1.mono (by omega))
  rcases hh with ⟨hm, rfl⟩ | ⟨hm, b, y, K, h1, h2, h3, h4, rfl⟩
  · go_wp2_with fail
    go_ret3
    exact ⟨hB1, .inl ⟨hm, rfl⟩⟩
  · go_wp2_with fail
    go_ret3
    exact ⟨hB1, .inr ⟨hm, b, y, K, h1, h2, h3, h4, rfl⟩⟩

theorem Great1_any (p0 p1 p2 p3 : Value) (bt tp : Int) (w : World) : Calls Tryd.prog 27 #[.agg #[p0, p1, p2, p3, .int .i64 bt, .int .i64 tp]] w fun e w' => e = .returned (.int .i64 tp) ∧ Below w.heap.size w w' := by
  go_enter Tryd.func27, Tryd.ntmps27
  go_wp2
  go_ret
  exact ⟨rfl, (Below.refl _ _).alloc (Nat.le_refl _) _⟩

set_option maxRecDepth 100000 in
set_option maxHeartbeats 1000000 in
theorem Great_err (n : Int) (a : Option Addr) (len cap : Nat) (ag : Option Addr) (lg cg : Nat) (c : Int) (hc : c ≠ 0) (w : World) (ht : ∀ W, Below w.heap.size w W → Calls Tryd.prog 30 #[.agg #[.int .i64 n, .slice a len cap]] W fun e w' => e = tabErr c ∧ Below W.heap.size W w') :
    Calls Tryd.prog 12 #[.agg #[.int .i64 n, .slice a len cap], .slice ag lg cg] w fun e w' => e = endErr c ∧ Below w.heap.size w w' := by
  obtain ⟨r0, hb0, hs0⟩ := one_row w 24 (.int .i64 n) (.slice a len cap) rfl
  have hl : ∀ W, Below w.heap.size w W → Calls Tryd.prog 26 #[.agg #[.int .i64 n, .slice a len cap], .slice ag lg cg, .func (.func 27) #[] #[]] W fun e w' => e = endErr c ∧ Below W.heap.size W w' := fun W hW => by
    obtain ⟨q0, hq0, hqs⟩ := one_row W 24 (.int .i64 n) (.slice a len cap) rfl
    have h1 := ht _ (hW.trans (hq0.mono hW.size))
    unfold tabErr at h1
    unfold endErr
    have hne : (c != 0) = true := by rw [bne_iff_ne]; exact hc
    clear hc ht
    go_enter Tryd.func26, Tryd.ntmps26
    go_wp2_with fail
    refine h1.mono ?_
    rintro e w1 ⟨rfl, hb1⟩
    go_wp2_with fail
    go_ret3
    exact ⟨rfl, (hq0.trans (hb1.mono (by omega))).alloc (by have := hb1.size; omega) _⟩
  have h2 := hl _ hb0
  unfold endErr at h2 ⊢
  clear hl ht hc
  go_enter Tryd.func12, Tryd.ntmps12
  go_wp2_with fail
  refine h2.mono ?_
  rintro e w1 ⟨rfl, hb1⟩
  go_wp2_with fail
  go_ret3
  exact ⟨rfl, hb0.trans (hb1.mono (by omega))⟩

set_option maxRecDepth 100000 in
set_option maxHeartbeats 2000000 in
theorem Great_map (a : Option Addr) (cap : Nat) (us ds : List Nat) (ag : Option Addr) (cg : Nat) (zs : List Int) (n₀ : Nat) (hf : Fit us) (h63 : zs.length ≤ 9223372036854775807) (w : World) (hT : TabAt w) (hw : IsWords n₀ w a us) (hz : ZInts n₀ w ag zs) (hg : 0 < n₀) (hn₀ : n₀ ≤ w.heap.size) (hc : codeOf us.length us = 0) (hD : Tur us us.length [] ds) (hl : latB us ds = true) :
    Calls Tryd.prog 12 #[.agg #[.int .i64 us.length, .slice a us.length cap], .slice ag zs.length cg] w fun e w' => Below w.heap.size w w' ∧ ((mapCode us zs ≠ 0 ∧ e = endErr (mapCode us zs)) ∨ (mapCode us zs = 0 ∧ ∃ b y K, IsTop us b ∧ ComesTo (mapN zs) b y K ∧ K < us.length ∧ y < us.length ∧ e = .returned (.tuple #[.int .i64 (y : Nat), .int .i64 (K : Nat), .int .i64 0]))) := by
  obtain ⟨h1, h2, h3⟩ := latB_parts hl
  have hzz := n_zero hc
  rw [decide_eq_false h1] at hzz
  have hl16 : us.length ≤ 16 := by have := code_zero hc; omega
  have hord := (code_zero hc).2.2.2.2
  obtain ⟨r0, hb0, hs0⟩ := one_row w 24 (.int .i64 us.length) (.slice a us.length cap) rfl
  have hleft : ∀ W, Below w.heap.size w W → Calls Tryd.prog 26 #[.agg #[.int .i64 us.length, .slice a us.length cap], .slice ag zs.length cg, .func (.func 27) #[] #[]] W fun e w' => Below W.heap.size W w' ∧ ((mapCode us zs ≠ 0 ∧ e = endErr (mapCode us zs)) ∨ (mapCode us zs = 0 ∧ ∃ b y K, IsTop us b ∧ ComesTo (mapN zs) b y K ∧ K < us.length ∧ y < us.length ∧ e = .returned (.tuple #[.int .i64 (y : Nat), .int .i64 (K : Nat), .int .i64 0]))) := fun W hW => by
    obtain ⟨q0, hq0, hqs⟩ := one_row W 24 (.int .i64 us.length) (.slice a us.length cap) rfl
    have hWq := hW.trans (hq0.mono hW.size)
    have hWs := hW.size
    have hta := TableOf_ok us.length a cap us ds n₀ hf _ (hT.below hWq (by omega)) (hw.below (hWq.mono hn₀)) hg (by omega) hc hD hzz h2 h3
    have hL : ∀ js ms, NearTo us js (us.length * us.length) → NearTo ds ms (us.length * us.length) → Lat us.length (leW us) (at2 js us.length) (at2 ms us.length) (gath (at2 ms us.length) 0 us.length) (gath (at2 js us.length) 0 us.length) := fun js ms h1' h2' => lat_pre hord hD h1' h2' (Nat.pos_of_ne_zero h1)
    have lq := q0.lt
    clear hl hzz h2 h3 hD
    unfold endErr
    go_enter Tryd.func26, Tryd.ntmps26
    go_wp2_with fail
    refine hta.mono ?_
    rintro e w1 ⟨ca, cc, aj, cj, am, cm, js, ms, rfl, hb1, o0, o1, o2, hN1, hN2⟩
    have hs1 := hb1.size
    have hB1 : Below W.heap.size W w1 := hq0.trans (hb1.mono (by omega))
    have L := hL js ms hN1 hN2
    clear hta o0 o1 o2 hN1 hN2 hL
    generalize gath (at2 ms us.length) 0 us.length = bt at *
    generalize gath (at2 js us.length) 0 us.length = tp at *
    obtain ⟨V, hV⟩ : ∃ V, V = w1.alloc (.cells #[.int .i64 us.length, .slice ca us.length cc, .slice aj (us.length * us.length) cj, .slice am (us.length * us.length) cm, .int .i64 (bt : Nat), .int .i64 (tp : Nat)] 52) := ⟨_, rfl⟩
    have hA : Below w1.heap.size w1 V := by rw [hV]; exact (Below.refl _ _).alloc (Nat.le_refl _) _
    have zT : Row V w1.heap.size 52 [.int .i64 us.length, .slice ca us.length cc, .slice aj (us.length * us.length) cj, .slice am (us.length * us.length) cm, .int .i64 (bt : Nat), .int .i64 (tp : Nat)] := by rw [hV]; exact Row.new w1 _ _
    have hBV : Below W.heap.size W V := hB1.trans (hA.mono (by omega))
    have hBw : Below w.heap.size w V := hW.trans (hBV.mono hWs)
    have hVs := hBV.size
    have x0 := row_below (row_below q0 hb1 lq) hA (by omega)
    have k0 := x0.cell (i := 0) rfl
    have k1 := x0.cell (i := 1) rfl
    have hzV := hz.below (hBw.mono hn₀)
    have hcm := checkMap_any a cap us ag cg zs n₀ hf hl16 h63 V (hw.below (hBw.mono hn₀)) hzV (by omega)
    have lzT := zT.lt
    have kk0 := k0
    have kk1 := k1
    rw [hV] at kk0 kk1
    go_wp2_with fail
    rw [← hV]
    refine hcm.mono ?_
    rintro e w2 ⟨rfl, hb2⟩
    have hB2 : Below W.heap.size W w2 := hBV.trans (hb2.mono hVs)
    by_cases hmc : mapCode us zs = 0
    · obtain ⟨hI, hmo⟩ := mapCode_zero hmc
      have hmap := into_map hI
      have hlz : zs.length = us.length := (intoB_true.1 hI).1
      obtain ⟨y, K, hcom, hK, hy⟩ := top_comes L hmap (monoB_true.1 hmo)
      have HB : Hid (IsTop us tp) := hide ⟨L.tlt, fun _ h => L.let_ h⟩
      have hzi := (mapN_ints (intoB_true.1 hI).2 hzV).below (hb2.mono (by omega))
      have hst : ∀ k, stepN (mapN zs) tp k < (mapN zs).length := fun k => by rw [hmap.len]; exact stepN_lt hmap HB.out.1 k
      rw [hmc]
      have hlm := hmap.len
      have HC := hide hcom
      have zT2 := row_below zT hb2 lzT
      have t0 := zT2.cell (i := 0) rfl
      have t1 := zT2.cell (i := 1) rfl
      have t2 := zT2.cell (i := 2) rfl
      have t3 := zT2.cell (i := 3) rfl
      have t4 := zT2.cell (i := 4) rfl
      have t5 := zT2.cell (i := 5) rfl
      have c1 := Great1_any (.int .i64 us.length) (.slice ca us.length cc) (.slice aj (us.length * us.length) cj) (.slice am (us.length * us.length) cm) (bt : Nat) (tp : Nat) w2
      have hb2s := hb2.size
      have hre : ∀ X, Below w2.heap.size w2 X → Calls Tryd.prog 45 #[.func (.func 42) #[.slice ag us.length cg] #[], .int .i64 (tp : Nat)] X fun e w' => e = .returned (.tuple #[.int .i64 (y : Nat), .int .i64 (K : Nat)]) ∧ w' = X := fun X hX => by
        have h := repeated_any ag cg (mapN zs) tp y K n₀ (by omega) hcom hst X (hzi.below (hX.mono (by omega)))
        rw [hlm] at h
        exact h
      clear hcom hcm k0 k1 kk0 kk1 L hmap hI hmo hst hzi hlm
      go_wp2_with fail
      refine c1.mono ?_
      rintro e w3 ⟨rfl, hb3⟩
      clear t0 t1 t2 t3 t4 t5
      go_wp2_with fail
      with_reducible refine (hre w3 hb3).mono ?_
      rintro e w4 ⟨rfl, hww⟩
      rw [hww]
      clear hww w4
      go_wp2_with fail
      go_ret3
      exact ⟨hB2.trans (hb3.mono (by have := hB2.size; omega)), .inr ⟨hmc, tp, y, K, HB.out, HC.out, hK, hy, rfl⟩⟩
    · have hne : (mapCode us zs != 0) = true := by rw [bne_iff_ne]; exact hmc
      clear hcm L kk0 kk1
      go_wp2_with fail
      go_ret3
      exact ⟨hB2, .inl ⟨hmc, rfl⟩⟩
  have s1 := hleft _ hb0
  clear hleft
  unfold endErr at s1 ⊢
  go_enter Tryd.func12, Tryd.ntmps12
  go_wp2_with fail
  refine s1.mono ?_
  rintro e w1 ⟨hb1, hh⟩
  have hB1 : Below w.heap.size w w1 := hb0.trans (hb1.mono (by omega))
  rcases hh with ⟨hm, rfl⟩ | ⟨hm, b, y, K, h1, h2, h3, h4, rfl⟩
  · go_wp2_with fail
    go_ret3
    exact ⟨hB1, .inl ⟨hm, rfl⟩⟩
  · go_wp2_with fail
    go_ret3
    exact ⟨hB1, .inr ⟨hm, b, y, K, h1, h2, h3, h4, rfl⟩⟩
end Go.Proofs.YtemabboecmkoaaaDoor
