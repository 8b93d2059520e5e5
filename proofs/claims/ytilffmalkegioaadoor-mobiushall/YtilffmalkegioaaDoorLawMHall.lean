/- The walk of the law MobiusHall: it answers true, and writes nothing that was there. -/
import Derived.Test.YtilffmalkegioaaDoorMobPubM
import Derived.Test.YtilffmalkegioaaDoorMobChains
import Derived.Test.YtilffmalkegioaaDoorMobRefZ
import Derived.Test.YtilffmalkegioaaDoorKeepZ
import Derived.Test.YtilffmalkegioaaDoorSound
import Derived.Test.YtilffmalkegioaaDoorRefused
namespace Go.Proofs.YtilffmalkegioaaDoor
open Go.RowKit Go.Shelf

theorem ZInts.step {A B : World} {a : Option Addr} {l : List Int} (h : ZInts A.heap.size A a l) (hb : Below A.heap.size A B) : ZInts B.heap.size B a l := (h.below hb).mono hb.size
set_option maxRecDepth 100000 in
set_option maxHeartbeats 4000000 in
theorem mhall_bad (n : Int) (a : Option Addr) (cap : Nat) (us : List Nat) (x y : Int) (n₀ : Nat) (hf : Fit us) (w : World) (hT : TabAt w) (hw : IsWords n₀ w a us) (hg : 0 < n₀) (hn₀ : n₀ ≤ w.heap.size) (hc : codeOf n us ≠ 0) :
    Calls Tryd.prog 11 #[.agg #[.int .i64 n, .slice a us.length cap], .int .i64 x, .int .i64 y] w fun e w' => e = .returned (.bool true) ∧ Below w.heap.size w w' := by
  have k1 := fun W hw => sound_any n a cap us W.heap.size hf W hw (Nat.le_refl _)
  have k2 := fun W hT hw hg => refused_any n a cap us W.heap.size hf W hT hw hg (Nat.le_refl _)
  have e1 : (codeOf n us == 0) = false := by rw [beq_eq_false_iff_ne]; exact hc
  have e2 : (codeOf n us != 0) = true := by rw [bne_iff_ne]; exact hc
  rw [e1] at k1
  rw [e2] at k2
  clear hc e1 e2
  obtain ⟨W0, hW0⟩ : ∃ V, w.alloc (.cells #[.int .i64 n, .slice a us.length cap] 24) = V := ⟨_, rfl⟩
  obtain ⟨r0, hB, hs0⟩ := one_row w 24 (.int .i64 n) (.slice a us.length cap) hW0
  replace hw := (hw.below (hB.mono hn₀)).mono (show n₀ ≤ W0.heap.size by omega)
  replace hT := hT.below hB (by omega)
  replace hg : 0 < W0.heap.size := by omega
  clear hs0 hn₀
  have c0 := r0.cell (i := 0) rfl
  have c1 := r0.cell (i := 1) rfl
  go_enter Tryd.func11, Tryd.ntmps11
  go_wp2_with fail
  clear hW0
  refine (k1 _ hw).mono ?_
  rintro e w1 ⟨rfl, hb⟩
  clear c0 c1
  replace r0 := row_below r0 hb r0.lt
  replace hw := (hw.below hb).mono hb.size
  replace hT := hT.below hb hg
  replace hg := Nat.lt_of_lt_of_le hg hb.size
  replace hB := hB.trans (hb.mono hB.size)
  have c0 := r0.cell (i := 0) rfl
  have c1 := r0.cell (i := 1) rfl
  clear hb
  go_wp2_with fail
  refine (k2 _ hT hw hg).mono ?_
  rintro e w2 ⟨rfl, hb⟩
  clear c0 c1
  replace r0 := row_below r0 hb r0.lt
  replace hw := (hw.below hb).mono hb.size
  replace hT := hT.below hb hg
  replace hg := Nat.lt_of_lt_of_le hg hb.size
  replace hB := hB.trans (hb.mono hB.size)
  have c0 := r0.cell (i := 0) rfl
  have c1 := r0.cell (i := 1) rfl
  clear hb
  go_wp2_with fail
  go_ret
  exact ⟨rfl, hB⟩

theorem two_in {n : Nat} {x y : Int} : allInB n [x, y] = true ↔ (0 ≤ x ∧ x < n) ∧ 0 ≤ y ∧ y < n := by
  rw [allInB_true]
  constructor
  · intro h
    exact ⟨h 0 (by simp), h 1 (by simp)⟩
  · rintro ⟨h1, h2⟩ i hi
    match i, hi with
    | 0, _ => exact h1
    | 1, _ => exact h2
theorem two_z (w : World) (x y : Int) {V : World} (h : w.alloc (.cells #[.int .i64 x, .int .i64 y] 3) = V) : ZInts V.heap.size V (some ⟨w.heap.size, 0, none⟩) [x, y] ∧ Below w.heap.size w V := by
  subst h
  have r := Row.new w 3 (zvals [x, y])
  exact ⟨Row.z r r.lt, (Below.refl _ _).alloc (Nat.le_refl _) _⟩
set_option maxRecDepth 100000 in
set_option maxHeartbeats 4000000 in
theorem mhall_arg (n : Nat) (a : Option Addr) (cap : Nat) (us : List Nat) (x y : Int) (n₀ : Nat) (hn : n = us.length) (hf : Fit us) (w : World) (hT : TabAt w) (hw : IsWords n₀ w a us) (hg : 0 < n₀) (hn₀ : n₀ ≤ w.heap.size) (hc : codeOf n us = 0) (hno : ¬ ((0 ≤ x ∧ x < n) ∧ 0 ≤ y ∧ y < n)) :
    Calls Tryd.prog 11 #[.agg #[.int .i64 n, .slice a n cap], .int .i64 x, .int .i64 y] w fun e w' => e = .returned (.bool true) ∧ Below w.heap.size w w' := by
  have ks := fun W hw => sound_any n a cap us W.heap.size hf W hw (Nat.le_refl _)
  have e1 : (codeOf n us == 0) = true := by rw [hc]; rfl
  rw [e1, ← hn] at ks
  clear e1
  have k2 := fun W hT hw hg => Mu_ok n a cap us W.heap.size hn hf W hT hw hg (Nat.le_refl _) hc
  have k1 := fun W hT hw hg => Chains_arg n a cap us x y W.heap.size hn hf W hT hw hg (Nat.le_refl _) hc hno
  unfold mobErr at k1
  have hin : allInB n [x, y] = false := by rw [Bool.eq_false_iff]; exact fun h => hno (two_in.1 h)
  clear hc hn hno
  obtain ⟨W0, hW0⟩ : ∃ V, w.alloc (.cells #[.int .i64 n, .slice a n cap] 24) = V := ⟨_, rfl⟩
  obtain ⟨r0, hB, hs0⟩ := one_row w 24 (.int .i64 n) (.slice a n cap) hW0
  replace hw := (hw.below (hB.mono hn₀)).mono (show n₀ ≤ W0.heap.size by omega)
  replace hT := hT.below hB (by omega)
  replace hg : 0 < W0.heap.size := by omega
  clear hs0 hn₀
  have c0 := r0.cell (i := 0) rfl
  have c1 := r0.cell (i := 1) rfl
  go_enter Tryd.func11, Tryd.ntmps11
  go_wp2_with fail
  clear hW0
  refine (ks _ hw).mono ?_
  rintro e w1 ⟨rfl, hb⟩
  clear c0 c1
  replace r0 := row_below r0 hb r0.lt
  replace hw := (hw.below hb).mono hb.size
  replace hT := hT.below hb hg
  replace hg := Nat.lt_of_lt_of_le hg hb.size
  replace hB := hB.trans (hb.mono hB.size)
  have c0 := r0.cell (i := 0) rfl
  have c1 := r0.cell (i := 1) rfl
  clear hb
  go_wp2_with fail
  refine (k1 _ hT hw hg).mono ?_
  rintro e w2 ⟨rfl, hb⟩
  clear c0 c1
  replace r0 := row_below r0 hb r0.lt
  replace hw := (hw.below hb).mono hb.size
  replace hT := hT.below hb hg
  replace hg := Nat.lt_of_lt_of_le hg hb.size
  replace hB := hB.trans (hb.mono hB.size)
  have c0 := r0.cell (i := 0) rfl
  have c1 := r0.cell (i := 1) rfl
  clear hb
  go_wp2_with fail
  refine (k2 _ hT hw hg).mono ?_
  rintro e w3 ⟨p, rfl, hp, hb, hr⟩
  clear c0 c1
  replace r0 := row_below r0 hb r0.lt
  replace hw := (hw.below hb).mono hb.size
  replace hT := hT.below hb hg
  replace hg := Nat.lt_of_lt_of_le hg hb.size
  replace hB := hB.trans (hb.mono hB.size)
  have c0 := r0.cell (i := 0) rfl
  have c1 := r0.cell (i := 1) rfl
  clear hr hp
  clear hb
  go_wp2_with fail
  obtain ⟨V, hV⟩ : ∃ V, w3.alloc (.cells #[.int .i64 x, .int .i64 y] 3) = V := ⟨_, rfl⟩
  obtain ⟨zz, hb⟩ := two_z w3 x y hV
  clear c0 c1
  replace r0 := row_below r0 hb r0.lt
  replace hw := (hw.below hb).mono hb.size
  replace hT := hT.below hb hg
  replace hg := Nat.lt_of_lt_of_le hg hb.size
  replace hB := hB.trans (hb.mono hB.size)
  have c0 := r0.cell (i := 0) rfl
  have c1 := r0.cell (i := 1) rfl
  clear hb
  have k3 := kwithin_z n _ 2 [x, y] _ (by simp) V zz
  rw [hin] at k3
  rw [hV]
  refine k3.mono ?_
  rintro e V2 ⟨rfl, rfl⟩
  go_wp2_with fail
  go_ret
  exact ⟨rfl, hB⟩

set_option maxRecDepth 100000 in
set_option maxHeartbeats 8000000 in
theorem mhall_in (n : Nat) (a : Option Addr) (cap : Nat) (us : List Nat) (x y : Nat) (n₀ : Nat) (hn : n = us.length) (hf : Fit us) (w : World) (hT : TabAt w) (hw : IsWords n₀ w a us) (hg : 0 < n₀) (hn₀ : n₀ ≤ w.heap.size) (hc : codeOf n us = 0) (hx : x < n) (hy : y < n) :
    Calls Tryd.prog 11 #[.agg #[.int .i64 n, .slice a n cap], .int .i64 x, .int .i64 y] w fun e w' => e = .returned (.bool true) ∧ Below w.heap.size w w' := by
  have ks := fun W hw => sound_any n a cap us W.heap.size hf W hw (Nat.le_refl _)
  have e1 : (codeOf n us == 0) = true := by rw [hc]; rfl
  rw [e1, ← hn] at ks
  clear e1
  have k2 := fun W hT hw hg => Mu_ok n a cap us W.heap.size hn hf W hT hw hg (Nat.le_refl _) hc
  have hl : n ≤ 16 := by have := (code_zero hc).2.1; omega
  have hnn : n * n ≤ 256 := Nat.mul_le_mul hl hl
  have ho : IsOrd us := (code_zero hc).2.2.2.2
  have k1 := fun W hT hw hg => Chains_ok n a cap us x y W.heap.size hn hf W hT hw hg (Nat.le_refl _) hc hx hy
  have hin : allInB n [(x : Int), (y : Int)] = true := two_in.2 (by omega)
  have hpl := plc_lt hx hy
  have hrx : x * n + n ≤ n * n := by
    have := Nat.mul_le_mul_right n (show x + 1 ≤ n from hx)
    rwa [Nat.succ_mul] at this
  have hend : sm n (fun k => sg k * bd (vecL n (fun k => chE us k x y)) k) = bd (tabL n (muM us)) (x * n + y) := by
    have h1 : sm n (fun k => sg k * bd (vecL n (fun k => chE us k x y)) k) = altM us n x y := sm_congr fun k hk => by rw [bd_vecL _ hk]
    have h2 := mat_tabL (n := n) (muM us) x hx y hy
    unfold mat at h2
    rw [h1, h2]
    subst hn
    exact hall ho x hx y hy
  have hlv := vecL_len n (fun k => chE us k x y)
  have hlm := tabL_len n (muM us)
  generalize vecL n (fun k => chE us k x y) = C at *
  generalize tabL n (muM us) = Q at *
  clear hc hn ho
  obtain ⟨W0, hW0⟩ : ∃ V, w.alloc (.cells #[.int .i64 n, .slice a n cap] 24) = V := ⟨_, rfl⟩
  obtain ⟨r0, hB, hs0⟩ := one_row w 24 (.int .i64 n) (.slice a n cap) hW0
  replace hw := (hw.below (hB.mono hn₀)).mono (show n₀ ≤ W0.heap.size by omega)
  replace hT := hT.below hB (by omega)
  replace hg : 0 < W0.heap.size := by omega
  clear hs0 hn₀
  have c0 := r0.cell (i := 0) rfl
  have c1 := r0.cell (i := 1) rfl
  go_enter Tryd.func11, Tryd.ntmps11
  go_wp2_with fail
  clear hW0
  refine (ks _ hw).mono ?_
  rintro e w1 ⟨rfl, hb⟩
  clear c0 c1
  replace r0 := row_below r0 hb r0.lt
  replace hw := (hw.below hb).mono hb.size
  replace hT := hT.below hb hg
  replace hg := Nat.lt_of_lt_of_le hg hb.size
  replace hB := hB.trans (hb.mono hB.size)
  have c0 := r0.cell (i := 0) rfl
  have c1 := r0.cell (i := 1) rfl
  clear hb
  go_wp2_with fail
  refine (k1 _ hT hw hg).mono ?_
  rintro e w2 ⟨q, rfl, hp, hb, hr⟩
  clear c0 c1
  replace r0 := row_below r0 hb r0.lt
  replace hw := (hw.below hb).mono hb.size
  replace hT := hT.below hb hg
  replace hg := Nat.lt_of_lt_of_le hg hb.size
  replace hB := hB.trans (hb.mono hB.size)
  have c0 := r0.cell (i := 0) rfl
  have c1 := r0.cell (i := 1) rfl
  have z2 := hr.b hr.lt
  clear hr hp
  clear hb
  go_wp2_with fail
  refine (k2 _ hT hw hg).mono ?_
  rintro e w3 ⟨p, rfl, hp, hb, hr⟩
  clear c0 c1
  replace r0 := row_below r0 hb r0.lt
  replace hw := (hw.below hb).mono hb.size
  replace z2 := z2.step hb
  replace hT := hT.below hb hg
  replace hg := Nat.lt_of_lt_of_le hg hb.size
  replace hB := hB.trans (hb.mono hB.size)
  have c0 := r0.cell (i := 0) rfl
  have c1 := r0.cell (i := 1) rfl
  have z3 := hr.b hr.lt
  clear hr hp
  clear hb
  go_wp2_with fail
  obtain ⟨V, hV⟩ : ∃ V, w3.alloc (.cells #[.int .i64 x, .int .i64 y] 3) = V := ⟨_, rfl⟩
  obtain ⟨zz, hb⟩ := two_z w3 x y hV
  clear c0 c1
  replace r0 := row_below r0 hb r0.lt
  replace hw := (hw.below hb).mono hb.size
  replace z2 := z2.step hb
  replace z3 := z3.step hb
  replace hT := hT.below hb hg
  replace hg := Nat.lt_of_lt_of_le hg hb.size
  replace hB := hB.trans (hb.mono hB.size)
  have c0 := r0.cell (i := 0) rfl
  have c1 := r0.cell (i := 1) rfl
  clear hb
  have k3 := kwithin_z n _ 2 [x, y] _ (by simp) V zz
  rw [hin] at k3
  rw [hV]
  refine k3.mono ?_
  rintro e V2 ⟨rfl, rfl⟩
  clear k1 k2 ks k3 zz hV
  go_wp2_with fail
  clear c1
  go_loopw [12, 11] (fun i s wr => ∃ k : Nat, k ≤ n ∧ i = .int .i64 k ∧ s = .int .i64 (sm k (fun k => sg k * bd C k)).toInt ∧ Below V2.heap.size V2 wr) (fun i _ _ => n - (intOf i).toNat)
  case atStart => exact ⟨0, Nat.zero_le _, rfl, rfl, Below.refl _ _⟩
  case round =>
    clear c0
    obtain ⟨k, hk, rfl, rfl, hb⟩ := hrel
    by_cases hlt : k < n
    · obtain ⟨fb, fo, e1, hfb, hfc⟩ := (z2.below hb).cellsB (i := k) (by omega)
      cases e1
      have kf := hfc k (by omega)
      rw [Nat.zero_add] at kf
      have HX := hide (show sm (k + 1) (fun k => sg k * bd C k) = sm k (fun k => sg k * bd C k) + sg k * bd C k from rfl)
      have hadd := wrap_add (sm k (fun k => sg k * bd C k)) (bd C k)
      have hsub := wrap_sub (sm k (fun k => sg k * bd C k)) (bd C k)
      have hsg : sg k = if k % 2 = 0 then 1 else -1 := rfl
      generalize sm k (fun k => sg k * bd C k) = S0 at *
      generalize hs1 : S0 + bd C k = s1 at *
      generalize hs2 : S0 - bd C k = s2 at *
      have H1 := hide hs1
      have H2 := hide hs2
      generalize (bd C k).toInt = cv at *
      clear hfc hs1 hs2 z2 z3
      by_cases hodd : k % 2 = 0
      · have g1 : (((k : Int) % 2) == 0) = true := by rw [beq_iff_eq]; omega
        rw [if_pos hodd] at hsg
        have hsg := hide hsg
        clear hodd
        go_wp2_with fail
        refine ⟨⟨k + 1, by omega, by go_num, ?_, hb⟩, by simp [intOf]; omega⟩
        rw [HX.out, hsg.out, ← hadd.symm, ← H1.out]; simp
      · have g1 : (((k : Int) % 2) == 0) = false := by rw [beq_eq_false_iff_ne]; omega
        rw [if_neg hodd] at hsg
        have hsg := hide hsg
        clear hodd
        go_wp2_with fail
        refine ⟨⟨k + 1, by omega, by go_num, ?_, hb⟩, by simp [intOf]; omega⟩
        rw [HX.out, hsg.out, hsub, ← H2.out]
        congr 2; grind
    · obtain rfl : k = n := by omega
      rw [hend]
      have r5 := row_below r0 hb r0.lt
      have c0 := r5.cell (i := 0) rfl
      obtain ⟨gb, go, e2, hgb, hgc⟩ := (z3.below hb).cellsB (i := x * k + y) (by omega)
      cases e2
      have kg := hgc (x * k + y) (by omega)
      rw [Nat.zero_add] at kg
      have hB2 := hB.trans (hb.mono hB.size)
      generalize (bd Q (x * k + y)).toInt = qv at *
      clear hgc z2 z3
      go_wp2_with fail
      go_ret
      exact ⟨by simp, hB2⟩

/-- **MobiusHall answers true, for every order and any two numbers, and writes nothing that was there** -/
theorem mhall_any (n : Int) (a : Option Addr) (cap : Nat) (us : List Nat) (x y : Int) (n₀ : Nat) (hf : Fit us) (w : World) (hT : TabAt w) (hw : IsWords n₀ w a us) (hg : 0 < n₀) (hn₀ : n₀ ≤ w.heap.size) :
    Calls Tryd.prog 11 #[.agg #[.int .i64 n, .slice a us.length cap], .int .i64 x, .int .i64 y] w fun e w' => e = .returned (.bool true) ∧ Below w.heap.size w w' := by
  by_cases hc : codeOf n us = 0
  · obtain rfl := (code_zero hc).2.2.1
    by_cases h : (0 ≤ x ∧ x < us.length) ∧ 0 ≤ y ∧ y < us.length
    · obtain ⟨x, rfl⟩ : ∃ k : Nat, x = (k : Int) := ⟨x.toNat, by omega⟩
      obtain ⟨y, rfl⟩ : ∃ k : Nat, y = (k : Int) := ⟨y.toNat, by omega⟩
      exact mhall_in us.length a cap us x y n₀ rfl hf w hT hw hg hn₀ hc (by omega) (by omega)
    · exact mhall_arg us.length a cap us x y n₀ rfl hf w hT hw hg hn₀ hc h
  · exact mhall_bad n a cap us x y n₀ hf w hT hw hg hn₀ hc
end Go.Proofs.YtilffmalkegioaaDoor
