/- The document's MobiusTimes and MobiusSums. An order in its box, beside what grows. The contracts of the document's Under and Covered. Lists of pairs in memory, two cells each. Contracts: the document's Under, Covered, OrderCovers. Slices of ints in memory; the contract of the document's TimesSame. The contract of the document's OrderSorted: all elements, each time the least one that may come. The document's MobiusInverse. Package mobius: Inverse. What the laws of tables ask of the lists: the inverse's inverse, and the products with it. The contract of sound. The contract of refused. The walk of the law MobiusAlgebra: it answers true, and writes nothing that was there. -/
import Derived.Test.YtilffmalkegioaaDoorMobRefZ
import Derived.Test.YtilffmalkegioaaDoorRefCheck
import Derived.Test.YtilffmalkegioaaDoorCoversPlain
import Derived.Test.YtilffmalkegioaaDoorOwns
import Derived.Test.YtilffmalkegioaaDoorIntVals
import Derived.Test.YtilffmalkegioaaDoorSortPlain
import Derived.Test.YtilffmalkegioaaDoorHas
import Derived.Test.YtilffmalkegioaaDoorMobInv
import Derived.Test.YtilffmalkegioaaDoorMobPubM
import Derived.Test.YtilffmalkegioaaDoorMobIsTab
import Derived.Test.YtilffmalkegioaaDoorCheck
import Derived.Test.YtilffmalkegioaaDoorMobPubT
import Derived.Test.YtilffmalkegioaaDoorMobAdded
import Derived.Test.YtilffmalkegioaaDoorMobKeep
import Derived.Test.YtilffmalkegioaaDoorMobRef
import Derived.Test.YtilffmalkegioaaDoorMobRefTab
namespace Go.Proofs.YtilffmalkegioaaDoor
open Go.RowKit Go.Shelf

/-- what is added at x -/
def tmAt (us : List Nat) (F G : Mat) (a b x : Nat) : B64 := if hasB (wd us a) x && hasB (wd us x) b then F a x * G x b else 0
def tmM (us : List Nat) (F G : Mat) : Mat := fun a b => sm us.length (tmAt us F G a b)
theorem tm_is {us : List Nat} {F G : Mat} (hF : Tab us F) (hG : Tab us G) : EqN us.length (tmM us F G) (mm us.length F G) := fun a ha b hb => sm_congr fun x hx => by
  unfold tmAt
  cases h1 : hasB (wd us a) x with
  | false => rw [hF a ha x hx (by unfold leW; rw [h1]; simp)]; simp
  | true =>
    cases h2 : hasB (wd us x) b with
    | false => rw [hG x hx b hb (by unfold leW; rw [h2]; simp)]; simp
    | true => simp

set_option maxRecDepth 100000 in
set_option maxHeartbeats 8000000 in
theorem RTimes_any (n : Nat) (a : Option Addr) (cap : Nat) (us : List Nat) (af : Option Addr) (cf : Nat) (F : List B64) (ag : Option Addr) (cg : Nat) (G : List B64) (n₀ : Nat) (hn : n = us.length) (hf : Fit us) (hl : n ≤ 16) (hlF : F.length = n * n) (hlG : G.length = n * n) (w : World) (hw : IsWords n₀ w a us) (hvF : ZInts n₀ w af (tiL F)) (hvG : ZInts n₀ w ag (tiL G)) (hn₀ : n₀ ≤ w.heap.size) :
    Calls Tryd.prog 22 #[.agg #[.int .i64 n, .slice a n cap], .slice af (n * n) cf, .slice ag (n * n) cg] w fun e w' => ∃ av cv, e = .returned (.slice av (n * n) cv) ∧ Below w.heap.size w w' ∧ w'.ownsRow w.heap.size 2 1 (.slice av (n * n) cv) (n * n) (bvals (tabL n (tmM us (mat n F) (mat n G)))) := by
  have h2 : n * n ≤ 256 := Nat.mul_le_mul hl hl
  obtain ⟨i0, hi, hz0, hz1, hz2⟩ := info_parts info_i64
  have hbel := fun i (hi : i < n) j (hj : j < n) (W : World) (hW : IsWords n₀ W a us) (hs : n₀ ≤ W.heap.size) => Below_any n a cap us i j n₀ hf (by omega) (by omega) W hW hs
  rw [← hn] at hbel
  have hTM : ∀ k m, tmM us (mat n F) (mat n G) k m = sm n (tmAt us (mat n F) (mat n G) k m) := fun k m => by unfold tmM; rw [← hn]
  clear hn
  have hrows : ∀ y, y < n → y * n + n ≤ n * n := fun y hy => by
    have := Nat.mul_le_mul_right n (show y + 1 ≤ n from hy)
    rwa [Nat.succ_mul] at this
  generalize tmM us (mat n F) (mat n G) = TM at *
  go_enter Tryd.func22, Tryd.ntmps22
  go_wp2_with fail
  obtain ⟨W0, hW0⟩ : ∃ W0, w.alloc (.cells #[.int .i64 n, .slice a n cap] 24) = W0 := ⟨_, rfl⟩
  obtain ⟨r0, hb0, hs0⟩ := one_row w 24 (.int .i64 n) (.slice a n cap) hW0
  rw [hW0]
  have hw0 := hw.below (hb0.mono hn₀)
  have hF0 := hvF.below (hb0.mono hn₀)
  have hG0 := hvG.below (hb0.mono hn₀)
  have hn1 : n₀ ≤ W0.heap.size := by omega
  clear hW0 hw hvF hvG
  go_loopw [8, 7] (fun i ls wr => ∃ (k : Nat) (av : Option Addr) (cv : Nat), k ≤ n ∧ i = .int .i64 k ∧ ls = .slice av (k * n) cv ∧ Below W0.heap.size W0 wr ∧ wr.ownsRow W0.heap.size 2 1 (.slice av (k * n) cv) (k * n) (bvals (preL n TM k 0))) (fun i _ _ => n - (intOf i).toNat)
  case atStart => exact ⟨0, none, 0, Nat.zero_le _, rfl, by rw [Nat.zero_mul], Below.refl _ _, by rw [preL_zero, Nat.zero_mul]; exact World.ownsRow_nil ..⟩
  case round =>
    obtain ⟨k, av, cv, hk, rfl, rfl, hB, hown⟩ := hrel
    have q0 := row_below r0 hB r0.lt
    have c0 := q0.cell (i := 0) rfl
    have c1 := q0.cell (i := 1) rfl
    by_cases hlt : k < n
    · go_wp2_with fail
      go_loopw [9, 7] (fun j ls wr => ∃ (m : Nat) (av : Option Addr) (cv : Nat), m ≤ n ∧ j = .int .i64 m ∧ ls = .slice av (k * n + m) cv ∧ Below W0.heap.size W0 wr ∧ wr.ownsRow W0.heap.size 2 1 (.slice av (k * n + m) cv) (k * n + m) (bvals (preL n TM k m))) (fun j _ _ => n - (intOf j).toNat)
      case atStart => exact ⟨0, av, cv, Nat.zero_le _, rfl, rfl, hB, hown⟩
      case round =>
        clear hB hown q0 c0 c1
        obtain ⟨m, av, cv, hm, rfl, rfl, hB, hown⟩ := hrel
        have q0 := row_below r0 hB r0.lt
        have c0 := q0.cell (i := 0) rfl
        have c1 := q0.cell (i := 1) rfl
        by_cases hmt : m < n
        · have hpl := plc_lt hlt hmt
          have HS := hide (preL_snoc TM k hmt)
          rw [hTM] at HS
          generalize preL n TM k m = L0 at *
          go_wp2_with fail
          clear c0 c1
          go_loopw [11, 10] (fun i s wr => ∃ (x : Nat), x ≤ n ∧ i = .int .i64 x ∧ s = .int .i64 (sm x (tmAt us (mat n F) (mat n G) k m)).toInt ∧ Below W0.heap.size W0 wr ∧ wr.ownsRow W0.heap.size 2 1 (.slice av (k * n + m) cv) (k * n + m) (bvals L0)) (fun i _ _ => n - (intOf i).toNat)
          case atStart => exact ⟨0, Nat.zero_le _, rfl, rfl, hB, hown⟩
          case round =>
            clear hB hown q0
            obtain ⟨x, hx, rfl, rfl, hB, hown⟩ := hrel
            have hBs := hB.size
            have q0 := row_below r0 hB r0.lt
            have c0 := q0.cell (i := 0) rfl
            have c1 := q0.cell (i := 1) rfl
            by_cases hxt : x < n
            · have hc1 := hbel k hlt x hxt wr (hw0.below (hB.mono hn1)) (by omega)
              have HX : sm (x + 1) (tmAt us (mat n F) (mat n G) k m) = sm x (tmAt us (mat n F) (mat n G) k m) + tmAt us (mat n F) (mat n G) k m x := rfl
              have HX := hide HX
              have hT : tmAt us (mat n F) (mat n G) k m x = if hasB (wd us k) x && hasB (wd us x) m then bd F (k * n + x) * bd G (x * n + m) else 0 := rfl
              generalize sm x (tmAt us (mat n F) (mat n G) k m) = S0 at *
              generalize tmAt us (mat n F) (mat n G) k m x = tv at *
              have hrk := hrows k hlt
              have hrx := hrows x hxt
              cases h1 : hasB (wd us k) x with
              | false =>
                rw [h1] at hT hc1
                have hT := hide hT
                clear h1
                go_wp2_with fail
                refine hc1.mono ?_
                rintro e w2 ⟨rfl, hb2⟩
                clear c0 c1 q0
                go_wp2_with fail
                refine ⟨⟨x + 1, by omega, by go_num, ?_, hB.trans (hb2.mono hBs), ownsRow_below hown hb2⟩, by simp [intOf]; omega⟩
                rw [HX.out, hT.out]; simp
              | true =>
                have hc2 := fun W (hb : Below W0.heap.size W0 W) => hbel x hxt m hmt W (hw0.below (hb.mono hn1)) (by have := hb.size; omega)
                cases h2' : hasB (wd us x) m with
                | false =>
                  rw [h1, h2'] at hT
                  rw [h1] at hc1
                  rw [h2'] at hc2
                  have hT := hide hT
                  clear h1 h2'
                  go_wp2_with fail
                  refine hc1.mono ?_
                  rintro e w2 ⟨rfl, hb2⟩
                  have hB2 := hB.trans (hb2.mono hBs)
                  have q2 := row_below q0 hb2 q0.lt
                  clear c0 c1
                  have c0 := q2.cell (i := 0) rfl
                  have c1 := q2.cell (i := 1) rfl
                  go_wp2_with fail
                  refine (hc2 _ hB2).mono ?_
                  rintro e w3 ⟨rfl, hb3⟩
                  clear c0 c1 q0 q2 hc1 hc2
                  go_wp2_with fail
                  refine ⟨⟨x + 1, by omega, by go_num, ?_, hB2.trans (hb3.mono hB2.size), ownsRow_below (ownsRow_below hown hb2) hb3⟩, by simp [intOf]; omega⟩
                  rw [HX.out, hT.out]; simp
                | true =>
                  rw [h1, h2'] at hT
                  rw [h1] at hc1
                  rw [h2'] at hc2
                  have hT : tv = bd F (k * n + x) * bd G (x * n + m) := hT
                  have hpk := plc_lt hlt hxt
                  have hpx := plc_lt hxt hmt
                  obtain ⟨fb, fo, rfl, hfb, hfc⟩ := hF0.cellsB (i := k * n + x) (by omega)
                  obtain ⟨gb, go, rfl, hgb, hgc⟩ := hG0.cellsB (i := x * n + m) (by omega)
                  have kf := hfc (k * n + x) (by omega)
                  have kg := hgc (x * n + m) (by omega)
                  have hmul := wrap_mul (bd F (k * n + x)) (bd G (x * n + m))
                  have hadd := wrap_add S0 tv
                  have HT := hide (show sm (x + 1) (tmAt us (mat n F) (mat n G) k m) = S0 + tv from HX.out)
                  clear HX
                  rw [← hT] at hmul
                  generalize S0 + tv = s1 at *
                  generalize tv.toInt = tvi at *
                  generalize (bd F (k * n + x)).toInt = fv at *
                  generalize (bd G (x * n + m)).toInt = gv at *
                  clear h1 h2' hfc hgc hT
                  go_wp2_with fail
                  refine hc1.mono ?_
                  rintro e w2 ⟨rfl, hb2⟩
                  have hB2 := hB.trans (hb2.mono hBs)
                  have q2 := row_below q0 hb2 q0.lt
                  clear c0 c1
                  have c0 := q2.cell (i := 0) rfl
                  have c1 := q2.cell (i := 1) rfl
                  go_wp2_with fail
                  refine (hc2 _ hB2).mono ?_
                  rintro e w3 ⟨rfl, hb3⟩
                  have hB3 := hB2.trans (hb3.mono hB2.size)
                  have hown3 := ownsRow_below (ownsRow_below hown hb2) hb3
                  have q3 := row_below q2 hb3 q2.lt
                  clear c0 c1 hc1 hc2 hown
                  have c0 := q3.cell (i := 0) rfl
                  have kf := (hB3.cell (p := ⟨fb, fo + (k * n + x), none⟩) (by simp; omega)).trans kf
                  have kg := (hB3.cell (p := ⟨gb, go + (x * n + m), none⟩) (by simp; omega)).trans kg
                  have c0 := cell_regrown c0
                  have kf := cell_regrown kf
                  have kg := cell_regrown kg
                  clear q0 q2 q3
                  go_wp2_with fail
                  refine wp_region_quiet_below (by kernel_rfl) (by kernel_rfl) ?_
                  repeat (go_big_quiet_step (fail))
                  refine wpQuiet_nil ?_
                  intro _ hw'
                  obtain ⟨⟨dq, osq⟩, hw''⟩ := hw'
                  subst hw''
                  go_wp2_with fail
                  refine ⟨⟨x + 1, by omega, by go_num, by rw [HT.out, hadd], hB3.trans ((below_regrown _ dq osq).mono hB3.size), ownsRow_below hown3 (below_regrown _ dq osq)⟩, by simp [intOf]; omega⟩
            · obtain rfl : x = n := by omega
              generalize sm x (tmAt us (mat x F) (mat x G) k m) = S0 at *
              go_wp2_with (at_builtin; refine wpList_append_own _ rfl _ _ 25 rfl W0.heap.size 2 i0 (.int .i64 0) 1 8 Tryd.underlying25 hi hz0 hz1 hz2 rfl (by decide) _ _ _ rfl (hown.alloc _) ⟨wr.heap.size, 0, none⟩ 1 1 [.int .i64 S0.toInt] rfl rfl (cell_one_new _ _ _) (fun u hu => by simp at hu; subst hu; rfl) (by unfold maxLen; omega) (by omega) (by simp; omega) ?_; intro v' w3 hown3 hgrow3 _; obtain ⟨g', cap', rfl⟩ := ownsRow_succ hown3)
              have hB3 : Below W0.heap.size W0 w3 := (hB.alloc hBs (.cells #[.int .i64 S0.toInt] 2)).grown hgrow3 (by simp; omega) fun q eq => by
                apply Nat.le_of_not_lt; intro hql
                exact ownBlock_ge hown (b := q) hql eq.symm
              refine ⟨⟨m + 1, some ⟨g', 0, none⟩, cap', by omega, by go_num, by rw [Nat.add_assoc], hB3, ?_⟩, by simp [intOf]; omega⟩
              rw [HS.out, bvals_snoc]
              exact hown3
        · obtain rfl : m = n := by omega
          go_wp2_with fail
          rw [preL_next] at hown
          refine ⟨⟨k + 1, av, cv, by omega, by go_num, by rw [Nat.succ_mul], hB, ?_⟩, by simp [intOf]; omega⟩
          rw [Nat.succ_mul]; exact hown
    · obtain rfl : k = n := by omega
      rw [preL_full] at hown
      go_wp2
      go_ret
      exact ⟨av, cv, rfl, hb0.trans (hB.mono (by omega)), ownsRow_base hown (by omega)⟩
end Go.Proofs.YtilffmalkegioaaDoor

namespace Go.Proofs.YtilffmalkegioaaDoor
open Go.RowKit Go.Shelf

theorem InBox.grown {B : Nat} {w wr w' : World} {n : Int} {a : Option Addr} {len cap : Nat} (h : InBox B w wr n a len cap) {row : Option Nat} (hg : wr.grownBy w' row) (hr : ∀ j, row = some j → B < j ∧ w.heap.size ≤ j) : InBox B w w' n a len cap := by
  have hb : wr.heap[B]? = w'.heap[B]? := (hg.block B h.lt (fun e => by have := (hr B e.symm).1; omega)).symm
  refine ⟨?_, ?_, h.bel.grown hg h.bel.size fun j e => (hr j e).2, Nat.lt_of_lt_of_le h.lt hg.size⟩
  · have := h.c0; unfold World.cell? at *; rw [← hb]; exact this
  · have := h.c1; unfold World.cell? at *; rw [← hb]; exact this

end Go.Proofs.YtilffmalkegioaaDoor

namespace Go.Proofs.YtilffmalkegioaaDoor
open Go.RowKit Go.Shelf

theorem Under_any (n : Int) (a : Option Addr) (cap : Nat) (us : List Nat) (i j n₀ : Nat) (hf : Fit us) (hi : i < us.length) (hj : j < 32) (w : World) (hw : IsWords n₀ w a us) (hn : n₀ ≤ w.heap.size) :
    Calls Tryd.prog 44 #[.agg #[.int .i64 n, .slice a us.length cap], .int .i64 i, .int .i64 j] w fun e w' => e = .returned (.bool (underB us i j)) ∧ Below w.heap.size w w' := by
  obtain ⟨b, off, rfl, hb, hc⟩ := hw.at hi
  have hci := hc i hi
  have hfi := hf i
  have hbw : b < w.heap.size := by omega
  clear hc
  by_cases hij : i = j
  · have hd : ((i : Int) != (j : Int)) = false := by rw [bne_eq_false_iff_eq]; omega
    have Hu := hide (underB_false (us := us) (i := i) (j := j) (fun h => h.1 hij))
    clear hij
    go_enter Tryd.func44, Tryd.ntmps44
    go_wp2
    go_ret
    exact ⟨ret_bool Hu.out.symm, (Below.refl _ _).alloc (Nat.le_refl _) _⟩
  · have hd : ((i : Int) != (j : Int)) = true := by rw [bne_iff_ne]; omega
    have Hu := hide (show hasB (wd us i) j = underB us i j by unfold underB; simp [hij])
    clear hij
    go_enter Tryd.func44, Tryd.ntmps44
    go_wp2_with (go_at_call 53; refine (Bit_any _ _ hfi (by omega) _).mono ?_; rintro e w' ⟨rfl, rfl⟩)
    go_ret
    exact ⟨ret_bool Hu.out, (Below.refl _ _).alloc (Nat.le_refl _) _⟩

end Go.Proofs.YtilffmalkegioaaDoor

namespace Go.Proofs.YtilffmalkegioaaDoor
open Go.RowKit Go.Shelf

/-- pairs as values, two cells each -/
def pvals (l : List (Nat × Nat)) : List Value := l.flatMap fun p => [.int .i64 ((p.1 : Nat) : Int), .int .i64 ((p.2 : Nat) : Int)]
theorem pvals_snoc (l : List (Nat × Nat)) (a b : Nat) : pvals (l ++ [(a, b)]) = pvals l ++ [.int .i64 ((a : Nat) : Int), .int .i64 ((b : Nat) : Int)] := by
  unfold pvals; simp
/-- a slice over pairs -/
def IsPairs (n₀ : Nat) (W : World) (a : Option Addr) (l : List (Nat × Nat)) : Prop :=
  l = [] ∨ ∃ b, a = some ⟨b, 0, none⟩ ∧ b < n₀ ∧ ∀ i (h : i < l.length), W.cell? ⟨b, i * 2, none⟩ = some (.int .i64 ((l[i].1 : Nat) : Int)) ∧ W.cell? ⟨b, i * 2 + 1, none⟩ = some (.int .i64 ((l[i].2 : Nat) : Int))
theorem pvals_len (l : List (Nat × Nat)) : (pvals l).length = 2 * l.length := by
  induction l with
  | nil => rfl
  | cons p l ih => unfold pvals at *; rw [List.flatMap_cons, List.length_append, ih]; simp; omega
theorem pvals_at : ∀ (l : List (Nat × Nat)) (i : Nat) (h : i < l.length), (pvals l)[2 * i]? = some (.int .i64 ((l[i].1 : Nat) : Int)) ∧ (pvals l)[2 * i + 1]? = some (.int .i64 ((l[i].2 : Nat) : Int))
  | [], i, h => by simp at h
  | p :: l, 0, _ => by unfold pvals; simp
  | p :: l, i + 1, h => by
    have ih := pvals_at l i (by simpa using h)
    have e : pvals (p :: l) = [.int .i64 ((p.1 : Nat) : Int), .int .i64 ((p.2 : Nat) : Int)] ++ pvals l := by unfold pvals; simp
    have h1 : 2 * (i + 1) = 2 * i + 2 := by omega
    have h2 : 2 * (i + 1) + 1 = (2 * i + 1) + 2 := by omega
    rw [e, h1]
    constructor
    · rw [List.getElem?_append_right (by simp)]; simpa using ih.1
    · rw [List.getElem?_append_right (by simp)]; simpa using ih.2
theorem IsPairs.below {n₀ : Nat} {A B : World} {a : Option Addr} {l : List (Nat × Nat)} (h : IsPairs n₀ A a l) (hb : Below n₀ A B) : IsPairs n₀ B a l := by
  rcases h with h | ⟨b, h1, h2, h3⟩
  · exact .inl h
  · exact .inr ⟨b, h1, h2, fun i hi => ⟨(hb.cell (p := ⟨b, i * 2, none⟩) h2).trans (h3 i hi).1, (hb.cell (p := ⟨b, i * 2 + 1, none⟩) h2).trans (h3 i hi).2⟩⟩
theorem IsPairs.at {n₀ : Nat} {A : World} {a : Option Addr} {l : List (Nat × Nat)} (h : IsPairs n₀ A a l) {i : Nat} (hi : i < l.length) :
    ∃ b, a = some ⟨b, 0, none⟩ ∧ b < n₀ ∧ A.cell? ⟨b, i * 2, none⟩ = some (.int .i64 ((l[i].1 : Nat) : Int)) ∧ A.cell? ⟨b, i * 2 + 1, none⟩ = some (.int .i64 ((l[i].2 : Nat) : Int)) := by
  rcases h with h | ⟨b, h1, h2, h3⟩
  · subst h; simp at hi
  · exact ⟨b, h1, h2, (h3 i hi).1, (h3 i hi).2⟩
end Go.Proofs.YtilffmalkegioaaDoor

namespace Go.Proofs.YtilffmalkegioaaDoor
open Go.RowKit Go.Shelf

end Go.Proofs.YtilffmalkegioaaDoor

namespace Go.Proofs.YtilffmalkegioaaDoor
open Go.RowKit Go.Shelf

def sameIB (l m : List Nat) : Bool := decide (l = m)
end Go.Proofs.YtilffmalkegioaaDoor

namespace Go.Proofs.YtilffmalkegioaaDoor
open Go.RowKit Go.Shelf

/-- what best is when the elements from i on have been looked at -/
def bestI (us : List Nat) (done : List Nat) (i : Nat) : Int := match ((List.range us.length).filter (fun j => decide (i ≤ j))).find? (readyB (underB us) us.length done) with | some m => (m : Int) | none => -1
theorem best_end (us : List Nat) (done : List Nat) : bestI us done us.length = -1 := by
  unfold bestI
  have : (List.range us.length).filter (fun j => decide (us.length ≤ j)) = [] := by
    rw [List.filter_eq_nil_iff]; intro a ha; have := List.mem_range.1 ha; simp; omega
  rw [this]; rfl
theorem best_split {n i : Nat} (h : i < n) : (List.range n).filter (fun j => decide (i ≤ j)) = i :: (List.range n).filter (fun j => decide (i + 1 ≤ j)) := by
  refine sorted_ext (List.Pairwise.filter _ List.pairwise_lt_range) ?_ fun x => ?_
  · rw [List.pairwise_cons]
    exact ⟨fun y hy => by have := (List.mem_filter.1 hy).2; simp at this; omega, List.Pairwise.filter _ List.pairwise_lt_range⟩
  · simp only [List.mem_filter, List.mem_range, List.mem_cons, decide_eq_true_eq]
    omega
theorem best_yes {us done : List Nat} {i : Nat} (h : i < us.length) (hr : readyB (underB us) us.length done i = true) : bestI us done i = (i : Int) := by
  unfold bestI; rw [best_split h, List.find?_cons, hr]
theorem best_no {us done : List Nat} {i : Nat} (h : i < us.length) (hr : readyB (underB us) us.length done i = false) : bestI us done i = bestI us done (i + 1) := by
  unfold bestI; rw [best_split h, List.find?_cons, hr]
theorem best_zero {us done : List Nat} (h : ∃ i, i < us.length ∧ readyB (underB us) us.length done i = true) : bestI us done 0 = ((nextF (underB us) us.length done : Nat) : Int) := by
  unfold bestI nextF
  have : (List.range us.length).filter (fun j => decide (0 ≤ j)) = List.range us.length := by rw [List.filter_eq_self]; intro a _; simp
  rw [this]
  cases hf : (List.range us.length).find? (readyB (underB us) us.length done) with
  | some m => rfl
  | none =>
    obtain ⟨i, hi, hr⟩ := h
    have := List.find?_eq_none.1 hf i (List.mem_range.2 hi)
    rw [hr] at this; simp at this
/-- is i still ready when those below j have been looked at? -/
def readyTo (us done : List Nat) (i j : Nat) : Bool := !memB done i && (List.range j).all fun x => !(underB us x i && !memB done x)
theorem readyTo_zero (us done : List Nat) (i : Nat) : readyTo us done i 0 = !memB done i := by unfold readyTo; simp
theorem readyTo_succ (us done : List Nat) (i j : Nat) : readyTo us done i (j + 1) = (readyTo us done i j && !(underB us j i && !memB done j)) := by
  unfold readyTo; rw [List.range_succ, List.all_append, Bool.and_assoc]; simp
theorem readyTo_all (us done : List Nat) (i : Nat) : readyTo us done i us.length = readyB (underB us) us.length done i := rfl
def sliceLen : Value → Nat
  | .slice _ n _ => n
  | _ => 0

set_option maxRecDepth 100000 in
set_option maxHeartbeats 2000000 in
theorem OrderSorted_any (a : Option Addr) (cap : Nat) (us : List Nat) (n₀ : Nat) (hf : Fit us) (hl : us.length ≤ 16) (hord : IsOrd us) (w : World) (hw : IsWords n₀ w a us) (hn₀ : n₀ ≤ w.heap.size) :
    Calls Tryd.prog 43 #[.agg #[.int .i64 us.length, .slice a us.length cap]] w fun e w' => ∃ av cv, e = .returned (.slice av us.length cv) ∧ Below w.heap.size w w' ∧ w'.ownsRow w.heap.size 3 1 (.slice av us.length cv) us.length (ivals (sortF (underB us) us.length us.length)) := by
  obtain ⟨i0, hi, hz0, hz1, hz2⟩ := info_parts info_int
  have hA := acy_under hord
  go_enter Tryd.func43, Tryd.ntmps43
  go_wp2
  go_loopw [3] (fun v wr => ∃ (k : Nat) (L : List Nat) (av : Option Addr) (cv : Nat), k ≤ us.length ∧ L = sortF (underB us) us.length k ∧ v = .slice av k cv ∧ InBox w.heap.size w wr us.length a us.length cap ∧ wr.ownsRow (w.heap.size + 1) 3 1 (.slice av k cv) k (ivals L)) (fun v _ => us.length - sliceLen v)
  case atStart => exact ⟨0, [], none, 0, Nat.zero_le _, rfl, rfl, ⟨by simp, by simp, (Below.refl _ _).alloc (Nat.le_refl _) _, by simp⟩, World.ownsRow_nil ..⟩
  case round =>
    obtain ⟨k, L, av, cv, hk, hL, rfl, hbox, hown⟩ := hrel
    have HL := hide hL
    clear hL
    have hc0 := hbox.c0
    have hc1 := hbox.c1
    have hLlen : L.length = k := by rw [HL.out, sortF_len]
    by_cases hlt : k < us.length
    · have HLlen := hide hLlen
      clear hLlen
      go_wp2
      go_loopw [4, 5] (fun b i wr => ∃ i' : Nat, i' ≤ us.length ∧ b = .int .i64 (bestI us L i') ∧ i = .int .i64 ((i' : Int) - 1) ∧ InBox w.heap.size w wr us.length a us.length cap ∧ wr.ownsRow (w.heap.size + 1) 3 1 (.slice av k cv) k (ivals L)) (fun _ i _ => (intOf i + 1).toNat)
      case atStart => exact ⟨us.length, Nat.le_refl _, by rw [best_end], rfl, hbox, hown⟩
      case round =>
        clear hc0 hc1 hbox hown
        obtain ⟨i', hi', rfl, rfl, hbox, hown⟩ := hrel
        have hc0 := hbox.c0
        have hc1 := hbox.c1
        cases i' with
        | zero =>
          have hex := hA L (left_some (by rw [HLlen.out]; exact hlt))
          have hbz := best_zero hex
          rw [hbz]
          have hnx := (next_spec hex).1
          generalize hnn : nextF (underB us) us.length L = nx at *
          have Hnn := hide hnn
          clear hnn hex hbz
          go_wp2_with (at_builtin; refine wpList_append_own _ rfl _ _ 56 rfl (w.heap.size + 1) 3 i0 (.int .i64 0) 1 8 Tryd.underlying56 hi hz0 hz1 hz2 rfl (by decide) _ _ _ rfl (hown.alloc _) ⟨wr.heap.size, 0, none⟩ 1 1 [.int .i64 (nx : Nat)] rfl rfl (cell_one_new _ _ _) (fun u hu => by simp at hu; subst hu; rfl) (by unfold maxLen; omega) (by omega) (by have := hbox.lt; simp; omega) ?_; intro v' w3 hown3 hgrow3 _; obtain ⟨g', cap', rfl⟩ := ownsRow_succ hown3)
          have hbox3 : InBox w.heap.size w w3 us.length a us.length cap := (hbox.step hbox.le ((Below.refl _ _).alloc (Nat.le_refl _) (.cells #[.int .i64 (nx : Nat)] 3))).grown hgrow3 fun b eb => by
            have h1 : w.heap.size + 1 ≤ b := by
              apply Nat.le_of_not_lt; intro hbl
              exact ownBlock_ge hown (b := b) hbl eb.symm
            omega
          exact ⟨⟨k + 1, L ++ [nx], some ⟨g', 0, none⟩, cap', by omega, by rw [← Hnn.out, HL.out]; rfl, rfl, hbox3, by rw [ivals_snoc]; exact hown3⟩, by simp only [sliceLen]; omega⟩
        | succ m =>
          have hm1 : ((m + 1 : Nat) : Int) - 1 = (m : Int) := by omega
          rw [hm1]
          clear hm1
          have hmn : m < us.length := by omega
          have hhas := Has_any av cv L m wr.heap.size (by rw [HLlen.out]; omega) wr (ownsRow_ints hown)
          rw [HLlen.out] at hhas
          go_wp2_with (go_at_call 61; refine hhas.mono ?_; rintro e w' ⟨rfl, rfl⟩)
          go_loopw [6, 7] (fun r j wr => ∃ j' : Nat, j' ≤ us.length ∧ j = .int .i64 j' ∧ r = .bool (readyTo us L m j') ∧ InBox w.heap.size w wr us.length a us.length cap ∧ wr.ownsRow (w.heap.size + 1) 3 1 (.slice av k cv) k (ivals L)) (fun _ j _ => us.length - (intOf j).toNat)
          case atStart => exact ⟨0, Nat.zero_le _, rfl, by rw [readyTo_zero], hbox, hown⟩
          case round =>
            clear hhas hc0 hc1 hbox hown
            obtain ⟨j, hj, rfl, rfl, hbox, hown⟩ := hrel
            have hc0 := hbox.c0
            have hc1 := hbox.c1
            by_cases hlj : j < us.length
            · have hun := Under_any us.length a cap us j m n₀ hf hlj (by omega) wr (hw.below (hbox.bel.mono hn₀)) (by have := hbox.le; omega)
              have Hs := hide (readyTo_succ us L m j)
              cases hu : underB us j m with
              | false =>
                rw [hu] at hun
                have Hu := hide hu
                clear hu
                go_wp2_with (go_at_call 44; refine hun.mono ?_; rintro e w1 ⟨rfl, hb1⟩)
                exact ⟨⟨j + 1, by omega, by go_num, by rw [Hs.out, Hu.out]; simp, hbox.step hbox.le hb1, ownsRow_below hown hb1⟩, by simp [intOf]; omega⟩
              | true =>
                rw [hu] at hun
                have Hu := hide hu
                clear hu
                cases hm : memB L j with
                | true =>
                  have Hm := hide hm
                  clear hm
                  go_wp2_with (first
                    | (go_at_call 44; refine hun.mono ?_; rintro e w1 ⟨rfl, hb1⟩; have hown1 := ownsRow_below hown hb1; have hh := Has_any av cv L j w1.heap.size (by rw [HLlen.out]; omega) w1 (ownsRow_ints hown1); rw [HLlen.out, Hm.out] at hh)
                    | (go_at_call 61; refine hh.mono ?_; rintro e w' ⟨rfl, rfl⟩))
                  exact ⟨⟨j + 1, by omega, by go_num, by rw [Hs.out, Hu.out, Hm.out]; simp, hbox.step hbox.le hb1, hown1⟩, by simp [intOf]; omega⟩
                | false =>
                  have Hm := hide hm
                  clear hm
                  go_wp2_with (first
                    | (go_at_call 44; refine hun.mono ?_; rintro e w1 ⟨rfl, hb1⟩; have hown1 := ownsRow_below hown hb1; have hh := Has_any av cv L j w1.heap.size (by rw [HLlen.out]; omega) w1 (ownsRow_ints hown1); rw [HLlen.out, Hm.out] at hh)
                    | (go_at_call 61; refine hh.mono ?_; rintro e w' ⟨rfl, rfl⟩))
                  exact ⟨⟨j + 1, by omega, by go_num, by rw [Hs.out, Hu.out, Hm.out]; simp, hbox.step hbox.le hb1, hown1⟩, by simp [intOf]; omega⟩
            · obtain rfl : j = us.length := by omega
              rw [readyTo_all]
              cases hr : readyB (underB us) us.length L m with
              | true =>
                have Hb := hide (best_yes hmn hr)
                clear hr
                go_wp2
                exact ⟨⟨m, by omega, by rw [Hb.out], rfl, hbox, hown⟩, by simp [intOf]⟩
              | false =>
                have Hb := hide (best_no hmn hr)
                clear hr
                go_wp2
                exact ⟨⟨m, by omega, by rw [Hb.out], rfl, hbox, hown⟩, by simp [intOf]⟩
    · obtain rfl : k = us.length := by omega
      go_wp2
      go_ret
      have e1 := HL.out
      subst e1
      exact ⟨av, cv, rfl, hbox.bel, ownsRow_base hown (by omega)⟩
end Go.Proofs.YtilffmalkegioaaDoor

namespace Go.Proofs.YtilffmalkegioaaDoor
open Go.RowKit Go.Shelf

/-- 1 or -1 where a is b -/
def PM (n : Nat) (f : Mat) : Prop := ∀ a, a < n → f a a = 1 ∨ f a a = -1
theorem PM.unit {n : Nat} {f : Mat} (h : PM n f) : Unit1 n f := fun a ha => by
  rcases h a ha with e | e <;> rw [e] <;> decide
theorem pm_toInt {x : B64} : (x.toInt = 1 ↔ x = 1) ∧ (x.toInt = -1 ↔ x = -1) := by
  constructor
  · rw [← toInt_one]; exact toInt_eq
  · rw [← toInt_none]; exact toInt_eq
/-- what is added at x -/
def ivAt (us : List Nat) (F G : Mat) (a b x : Nat) : B64 := if hasB (wd us a) x && underB us x b then G a x * F x b else 0
theorem inv_leftH {us l : List Nat} (ho : IsOrd us) (hL : Line us l) {F : Mat} (hF : Tab us F) (hu : Unit1 us.length F) {a b : Nat} (ha : a < us.length) (hb : b < us.length) (hne : a ≠ b) :
    -(sm us.length (ivAt us F (invG F l) a b)) * F b b = invG F l a b := by
  have h1 := inv_left ho hL hF hu a ha b hb
  have hT := inv_tab ho hL hF
  rw [one_ne hne] at h1
  unfold mm at h1
  have e1 : (sm us.length fun x => invG F l a x * F x b) = sm us.length (ivAt us F (invG F l) a b) + invG F l a b * F b b := by
    have e2 : (sm us.length fun x => invG F l a x * F x b) = sm us.length fun x => ivAt us F (invG F l) a b x + (if x = b then invG F l a b * F b b else 0) := sm_congr fun x hx => by
      unfold ivAt
      by_cases e : x = b
      · subst e
        have : underB us x x = false := by unfold underB; simp
        rw [this]; simp
      · rw [if_neg e]
        by_cases h1 : leW us a x
        · by_cases h2 : leW us x b
          · have : underB us x b = true := by unfold underB leW at *; simp [e, h2]
            unfold leW at h1
            rw [this, h1]; simp
          · rw [hF x hx b hb h2]; simp
        · rw [hT a ha x hx h1]; simp
    rw [e2, sm_add, sm_one hb fun x _ hne => if_neg hne, if_pos rfl]
  rw [e1] at h1
  have h2 := hu b hb
  generalize sm us.length (ivAt us F (invG F l) a b) = S at *
  generalize F b b = d at *
  generalize invG F l a b = g at *
  have h3 : -S = g * d := by
    have h4 : -S + (S + g * d) = g * d := by grind
    rw [h1] at h4
    rw [← h4]; simp
  rw [h3, BitVec.mul_assoc, h2]; simp
theorem line_before {us l : List Nat} (hL : Line us l) {m x : Nat} (hm : m < l.length) (hx : x < us.length) (h : underB us x (wd l m) = true) : x ∈ l.take m := by
  have hxl := (hL.mem x).2 hx
  rw [← List.take_append_drop m l] at hxl
  rcases List.mem_append.1 hxl with h1 | h1
  · exact h1
  · exfalso
    rw [drop_wd hm] at h1
    unfold underB at h
    rw [Bool.and_eq_true] at h
    have hne : x ≠ wd l m := by simpa using h.1
    rcases List.mem_cons.1 h1 with e | e
    · exact hne e
    · have hup := hL.up
      rw [← List.take_append_drop m l, List.pairwise_append, drop_wd hm, List.pairwise_cons] at hup
      exact hup.2.1.1 x e h.2

set_option maxRecDepth 100000 in
set_option maxHeartbeats 4000000 in
theorem RInverse_none (n : Nat) (a : Option Addr) (cap : Nat) (us : List Nat) (af : Option Addr) (cf : Nat) (F : List B64) (n₀ : Nat) (hn : n = us.length) (hf : Fit us) (ho : IsOrd us) (hl : n ≤ 16) (hlF : F.length = n * n) (hno : ¬ PM n (mat n F)) (w : World) (hw : IsWords n₀ w a us) (hvF : ZInts n₀ w af (tiL F)) (hn₀ : n₀ ≤ w.heap.size) :
    Calls Tryd.prog 18 #[.agg #[.int .i64 n, .slice a n cap], .slice af (n * n) cf] w fun e w' => e = .returned (.tuple #[.slice none 0 0, .bool false]) ∧ Below w.heap.size w w' := by
  have h2 : n * n ≤ 256 := Nat.mul_le_mul hl hl
  have hsort := fun (W : World) (hW : IsWords n₀ W a us) (hs : n₀ ≤ W.heap.size) => OrderSorted_any a cap us n₀ hf (by omega) ho W hW hs
  rw [← hn] at hsort
  have hrows : ∀ y, y < n → y * n + n ≤ n * n := fun y hy => by
    have := Nat.mul_le_mul_right n (show y + 1 ≤ n from hy)
    rwa [Nat.succ_mul] at this
  have hz : (n : Int) * (n : Int) = ((n * n : Nat) : Int) := by push_cast; rfl
  have hmk := run_make_row' (P := Tryd.prog) 25 2 (.int .i64 0) 8 Tryd.underlying25 info_i64 rfl .i64 .i64 (n * n) (by omega) (by omega)
  simp only [← hz] at hmk
  have hwz : wrap64 ((n : Int) * (n : Int)) = (n : Int) * (n : Int) := by rw [hz, IntWalk.wrap64_in _ (by omega)]
  clear hz hn
  obtain ⟨W0, hW0⟩ : ∃ W0, w.alloc (.cells #[.int .i64 n, .slice a n cap] 24) = W0 := ⟨_, rfl⟩
  obtain ⟨r0, hb0, hs0⟩ := one_row w 24 (.int .i64 n) (.slice a n cap) hW0
  obtain ⟨W1, hW1⟩ : ∃ W1, W0.alloc (.cells (madeCells #[.int .i64 0] (n * n)) 2) = W1 := ⟨_, rfl⟩
  have hb1 : Below w.heap.size w W1 := by rw [← hW1]; exact hb0.alloc (by omega) _
  have q0 : Row W1 w.heap.size 24 [.int .i64 n, .slice a n cap] := by rw [← hW1]; exact r0.alloc _
  have hs1 := hb1.size
  have c0 := r0.cell (i := 0) rfl
  have c1 := r0.cell (i := 1) rfl
  have d0 := q0.cell (i := 0) rfl
  have d1 := q0.cell (i := 1) rfl
  go_enter Tryd.func18, Tryd.ntmps18
  go_wp2_with fail
  refine (hsort _ (hw.below (hb1.mono hn₀)) (by omega)).mono ?_
  rintro e w2 ⟨sv, sc, rfl, hb2, -⟩
  have hB2 := hb1.trans (hb2.mono hs1)
  have hF2 := hvF.below (hB2.mono hn₀)
  clear hsort hmk c0 c1 d0 d1 hwz hb2
  go_wp2_with fail
  clear hW0 hW1
  go_loopw [9] (fun i wr => ∃ k : Nat, k ≤ n ∧ i = .int .i64 k ∧ wr = w2 ∧ ∀ a, a < k → mat n F a a = 1 ∨ mat n F a a = -1) (fun i _ => n - (intOf i).toNat)
  case atStart => exact ⟨0, Nat.zero_le _, rfl, rfl, fun a ha => absurd ha (Nat.not_lt_zero _)⟩
  case round =>
    obtain ⟨k, hk, rfl, rfl, hK⟩ := hrel
    by_cases hlt : k < n
    · have hrk := hrows k hlt
      obtain ⟨fb, fo, rfl, hfb, hfc⟩ := hF2.cellsB (i := k * n + k) (by rw [hlF]; exact plc_lt hlt hlt)
      have kf := hfc (k * n + k) (by rw [hlF]; exact plc_lt hlt hlt)
      have e1 := pm_toInt (x := bd F (k * n + k))
      clear hfc
      by_cases h1 : bd F (k * n + k) = 1
      · have g1 : ((bd F (k * n + k)).toInt != 1) = false := by rw [h1]; rfl
        have HK := hide hK
        have H1 := hide (show mat n F k k = 1 from h1)
        clear hK h1 e1
        generalize (bd F (k * n + k)).toInt = x at *
        go_wp2_with fail
        go_roundw
        case rel => exact ⟨k + 1, by omega, by go_num, trivial, fun a ha => by
          by_cases e : a = k
          · subst e; exact .inl H1.out
          · exact HK.out a (by omega)⟩
        case measure => simp [intOf]; omega
      · by_cases h2' : bd F (k * n + k) = -1
        · have g1 : ((bd F (k * n + k)).toInt != 1) = true := by rw [h2']; rfl
          have g2 : ((bd F (k * n + k)).toInt != -1) = false := by rw [h2']; rfl
          have HK := hide hK
          have H1 := hide (show mat n F k k = -1 from h2')
          clear hK h1 h2' e1
          generalize (bd F (k * n + k)).toInt = x at *
          go_wp2_with fail
          go_roundw
          case rel => exact ⟨k + 1, by omega, by go_num, trivial, fun a ha => by
            by_cases e : a = k
            · subst e; exact .inr H1.out
            · exact HK.out a (by omega)⟩
          case measure => simp [intOf]; omega
        · have g1 : ((bd F (k * n + k)).toInt != 1) = true := by rw [bne_iff_ne]; exact fun h => h1 (e1.1.1 h)
          have g2 : ((bd F (k * n + k)).toInt != -1) = true := by rw [bne_iff_ne]; exact fun h => h2' (e1.2.1 h)
          clear hK h1 h2' e1
          generalize (bd F (k * n + k)).toInt = x at *
          go_wp2_with fail
          go_ret2
          exact ⟨rfl, hB2⟩
    · obtain rfl : k = n := by omega
      exact absurd hK hno
end Go.Proofs.YtilffmalkegioaaDoor

namespace Go.Proofs.YtilffmalkegioaaDoor
open Go.RowKit Go.Shelf

set_option maxRecDepth 100000 in
set_option maxHeartbeats 1000000 in
theorem Inverse_bad (n : Int) (a : Option Addr) (cap : Nat) (us : List Nat) (v1 : Value) (n₀ : Nat) (hf : Fit us) (w : World) (hT : TabAt w) (hw : IsWords n₀ w a us) (hg : 0 < n₀) (hn₀ : n₀ ≤ w.heap.size) (hc : codeOf n us ≠ 0) :
    Calls Tryd.prog 23 #[.agg #[.int .i64 n, .slice a us.length cap], v1] w fun e w' => e = mobErr (codeOf n us) ∧ Below w.heap.size w w' := by
  obtain ⟨r0, hb0, hs0⟩ := one_row w 24 (.int .i64 n) (.slice a us.length cap) rfl
  have hck := Sorted_bad n a cap us n₀ hf _ (hT.below hb0 (by omega)) (hw.below (hb0.mono hn₀)) hg (by omega) hc
  unfold mobErr
  generalize codeOf n us = c at *
  have hne : (c != 0) = true := by rw [bne_iff_ne]; exact hc
  have Hb := hide hb0
  clear hb0 hc hs0
  go_enter Tryd.func23, Tryd.ntmps23
  go_wp2_with (go_at_call 39; refine hck.mono ?_; rintro e w1 ⟨rfl, hb1⟩)
  go_ret2
  exact ⟨rfl, Hb.out.trans (hb1.mono (by simp))⟩

set_option maxRecDepth 100000 in
set_option maxHeartbeats 4000000 in
theorem Inverse_notab (n : Nat) (a : Option Addr) (cap : Nat) (us : List Nat) (af : Option Addr) (cf : Nat) (F : List B64) (n₀ : Nat) (hn : n = us.length) (hf : Fit us) (w : World) (hT : TabAt w) (hw : IsWords n₀ w a us) (hvF : ZInts n₀ w af (tiL F)) (hg : 0 < n₀) (hn₀ : n₀ ≤ w.heap.size) (hc : codeOf n us = 0) (hno : ¬ IsTab us F) :
    Calls Tryd.prog 23 #[.agg #[.int .i64 n, .slice a n cap], .slice af F.length cf] w fun e w' => e = mobErr 2 ∧ Below w.heap.size w w' := by
  have hl : n ≤ 16 := by have := (code_zero hc).2.1; omega
  obtain ⟨r0, hb0, hs0⟩ := one_row w 24 (.int .i64 n) (.slice a n cap) rfl
  have hck := sorted_ans n a cap us hn hf hc _ (hT.below hb0 (by omega)) ((hw.below (hb0.mono hn₀)).mono (by omega)) (by omega)
  have t1 := fun (W : World) (hb : Below w.heap.size w W) => isTable_any n a cap us af cf F n₀ hn hf hl W (hw.below (hb.mono hn₀)) (hvF.below (hb.mono hn₀)) (by have := hb.size; omega)
  rw [tabB_false.2 hno] at t1
  unfold mobErr
  have Hb := hide hb0
  clear hb0 hc hno hn
  go_enter Tryd.func23, Tryd.ntmps23
  go_wp2_with fail
  refine hck.mono ?_
  rintro e w1 ⟨la, lc, rfl, hb1, hcap, hil⟩
  have q0 := row_below r0 hb1 r0.lt
  have c0 := q0.cell (i := 0) rfl
  have c1 := q0.cell (i := 1) rfl
  have hB1 := Hb.out.trans (hb1.mono (by simp))
  have hs1 := hB1.size
  clear hck
  go_wp2_with fail
  refine (t1 _ hB1).mono ?_
  rintro e w2 ⟨rfl, hb2⟩
  clear c0 c1
  go_wp2_with fail
  go_ret2
  exact ⟨rfl, hB1.trans (hb2.mono hs1)⟩

set_option maxRecDepth 100000 in
set_option maxHeartbeats 4000000 in
theorem Inverse_none (n : Nat) (a : Option Addr) (cap : Nat) (us : List Nat) (af : Option Addr) (cf : Nat) (F : List B64) (n₀ : Nat) (hn : n = us.length) (hf : Fit us) (w : World) (hT : TabAt w) (hw : IsWords n₀ w a us) (hvF : ZInts n₀ w af (tiL F)) (hg : 0 < n₀) (hn₀ : n₀ ≤ w.heap.size) (hc : codeOf n us = 0) (hF : IsTab us F) (hno : ¬ PM n (mat n F)) :
    Calls Tryd.prog 23 #[.agg #[.int .i64 n, .slice a n cap], .slice af (n * n) cf] w fun e w' => e = mobErr 5 ∧ Below w.heap.size w w' := by
  have hl : n ≤ 16 := by have := (code_zero hc).2.1; omega
  obtain ⟨r0, hb0, hs0⟩ := one_row w 24 (.int .i64 n) (.slice a n cap) rfl
  have hck := sorted_ans n a cap us hn hf hc _ (hT.below hb0 (by omega)) ((hw.below (hb0.mono hn₀)).mono (by omega)) (by omega)
  have t1 := fun (W : World) (hb : Below w.heap.size w W) => isTable_any n a cap us af cf F n₀ hn hf hl W (hw.below (hb.mono hn₀)) (hvF.below (hb.mono hn₀)) (by have := hb.size; omega)
  have hlF : F.length = n * n := by rw [hF.1, hn]
  have h2 : n * n ≤ 256 := Nat.mul_le_mul hl hl
  rw [tabB_true.2 hF, hlF] at t1
  have k1 := fun W hw => copied_any n hl af cf W.heap.size F hlF W hw (Nat.le_refl _)
  have hrow := row_any n
  unfold sqV at k1 hrow
  unfold mobErr
  have Hb := hide hb0
  clear hb0 hc hn hF
  go_enter Tryd.func23, Tryd.ntmps23
  go_wp2_with fail
  refine hck.mono ?_
  rintro e w1 ⟨la, lc, rfl, hb1, hcap, hil⟩
  have q0 := row_below r0 hb1 r0.lt
  have c0 := q0.cell (i := 0) rfl
  have c1 := q0.cell (i := 1) rfl
  have hB1 := Hb.out.trans (hb1.mono (by simp))
  have hs1 := hB1.size
  clear hck
  go_wp2_with fail
  refine (t1 _ hB1).mono ?_
  rintro e w2 ⟨rfl, hb2⟩
  clear c0 c1
  have q2 := row_below q0 hb2 q0.lt
  have c0 := q2.cell (i := 0) rfl
  have c1 := q2.cell (i := 1) rfl
  have hB2 := hB1.trans (hb2.mono hs1)
  have hs2 := hB2.size
  clear t1
  go_wp2_with fail
  refine (k1 _ ((hvF.below (hB2.mono hn₀)).mono (by omega))).mono ?_
  rintro e w3 ⟨p, rfl, hp, hb3, hr3⟩
  have z2 := hb2.size
  have z3 := hb3.size
  have q3 := row_below q2 hb3 q2.lt
  have hB3 := hB2.trans (hb3.mono hs2)
  have hs3 := hB3.size
  clear c0 c1 k1
  obtain ⟨W1, hW1⟩ : ∃ W1, w3.alloc (.cells #[.int .i64 n, .slice (some ⟨p, 0, none⟩) (n * n) (n * n)] 54) = W1 := ⟨_, rfl⟩
  obtain ⟨r8, hB4, hs4⟩ := sq_cells w3 _ _ hW1
  have ltp := hr3.lt
  have q4 := row_below q3 hB4 q3.lt
  have p4 := row_below hr3 hB4 hr3.lt
  have hBW := hB3.trans (hB4.mono hs3)
  have c0 := q4.cell (i := 0) rfl
  go_wp2_with fail
  clear c0 hW1
  generalize w3.heap.size = B at *
  have hsz := hBW.size
  go_loopw [29] (fun i wr => ∃ k : Nat, k ≤ n ∧ i = .int .i64 k ∧ Below W1.heap.size W1 wr ∧ ∀ a, a < k → mat n F a a = 1 ∨ mat n F a a = -1) (fun i _ => n - (intOf i).toNat)
  case atStart => exact ⟨0, Nat.zero_le _, rfl, Below.refl _ _, fun a ha => absurd ha (Nat.not_lt_zero _)⟩
  case round =>
    obtain ⟨k, hk, rfl, hB, hK⟩ := hrel
    have s8 := row_below r8 hB r8.lt
    have s4 := row_below p4 hB p4.lt
    have hBz := hB.size
    by_cases hlt : k < n
    · have hpl := plc_lt hlt hlt
      have d0 := s8.cell (i := 0) rfl
      have d1 := s8.cell (i := 1) rfl
      have e1 := pm_toInt (x := bd F (k * n + k))
      go_wp2_with fail
      refine (hrow p k hl hlt _).mono ?_
      rintro e w5 ⟨rfl, hb5⟩
      have kf := (s4.keep hb5).cell (bvals_at (i := k * n + k) (by omega))
      have hB5 := hB.trans (hb5.mono hBz)
      clear d0 d1 s4 s8
      by_cases h1 : bd F (k * n + k) = 1
      · have g1 : ((bd F (k * n + k)).toInt != 1) = false := by rw [h1]; rfl
        have HK := hide hK
        have H1 := hide (show mat n F k k = 1 from h1)
        clear hK h1 e1
        generalize (bd F (k * n + k)).toInt = x at *
        go_wp2_with fail
        go_roundw
        case rel => exact ⟨k + 1, by omega, by go_num, hB5, fun a ha => by
          by_cases e : a = k
          · subst e; exact .inl H1.out
          · exact HK.out a (by omega)⟩
        case measure => simp [intOf]; omega
      · by_cases h2' : bd F (k * n + k) = -1
        · have g1 : ((bd F (k * n + k)).toInt != 1) = true := by rw [h2']; rfl
          have g2 : ((bd F (k * n + k)).toInt != -1) = false := by rw [h2']; rfl
          have HK := hide hK
          have H1 := hide (show mat n F k k = -1 from h2')
          clear hK h1 h2' e1
          generalize (bd F (k * n + k)).toInt = x at *
          go_wp2_with fail
          go_roundw
          case rel => exact ⟨k + 1, by omega, by go_num, hB5, fun a ha => by
            by_cases e : a = k
            · subst e; exact .inr H1.out
            · exact HK.out a (by omega)⟩
          case measure => simp [intOf]; omega
        · have g1 : ((bd F (k * n + k)).toInt != 1) = true := by rw [bne_iff_ne]; exact fun h => h1 (e1.1.1 h)
          have g2 : ((bd F (k * n + k)).toInt != -1) = true := by rw [bne_iff_ne]; exact fun h => h2' (e1.2.1 h)
          clear hK h1 h2' e1
          generalize (bd F (k * n + k)).toInt = x at *
          go_wp2_with fail
          go_ret2
          exact ⟨rfl, hBW.trans (hB5.mono hsz)⟩
    · obtain rfl : k = n := by omega
      exact absurd hK hno

set_option maxRecDepth 100000 in
set_option maxHeartbeats 4000000 in
theorem Inverse_ok (n : Nat) (a : Option Addr) (cap : Nat) (us : List Nat) (af : Option Addr) (cf : Nat) (F : List B64) (n₀ : Nat) (hn : n = us.length) (hf : Fit us) (w : World) (hT : TabAt w) (hw : IsWords n₀ w a us) (hvF : ZInts n₀ w af (tiL F)) (hg : 0 < n₀) (hn₀ : n₀ ≤ w.heap.size) (hc : codeOf n us = 0) (hF : IsTab us F) (hpm : PM n (mat n F)) :
    Calls Tryd.prog 23 #[.agg #[.int .i64 n, .slice a n cap], .slice af (n * n) cf] w fun e w' => ∃ p, e = .returned (.tuple #[.slice (some ⟨p, 0, none⟩) (n * n) (n * n), .int .i64 0]) ∧ w.heap.size ≤ p ∧ Below w.heap.size w w' ∧ Row w' p 2 (bvals (tabL n (invG (mat n F) (sortL us)))) := by
  have hl : n ≤ 16 := by have := (code_zero hc).2.1; omega
  obtain ⟨r0, hb0, hs0⟩ := one_row w 24 (.int .i64 n) (.slice a n cap) rfl
  have hck := sorted_ans n a cap us hn hf hc _ (hT.below hb0 (by omega)) ((hw.below (hb0.mono hn₀)).mono (by omega)) (by omega)
  have t1 := fun (W : World) (hb : Below w.heap.size w W) => isTable_any n a cap us af cf F n₀ hn hf hl W (hw.below (hb.mono hn₀)) (hvF.below (hb.mono hn₀)) (by have := hb.size; omega)
  have hlF : F.length = n * n := by rw [hF.1, hn]
  have h2 : n * n ≤ 256 := Nat.mul_le_mul hl hl
  rw [tabB_true.2 hF, hlF] at t1
  have k1 := fun W hw => copied_any n hl af cf W.heap.size F hlF W hw (Nat.le_refl _)
  have hrow := row_any n
  unfold sqV at k1 hrow
  have ho : IsOrd us := (code_zero hc).2.2.2.2
  have hL := sortL_line ho
  have hlen : (sortL us).length = n := by rw [hL.len, hn]
  have hinv := fun p av cv hcap W h1 h2 => inverse_any n p hl F hlF av cv (sortL us) hlen hcap (fun x hx => by rw [hn]; exact (hL.mem x).1 hx) hL.nodup W.heap.size W h1 h2 (Nat.le_refl _)
  unfold sqV at hinv
  have Hb := hide hb0
  have HPM := hide hpm
  clear hb0 hc hn hF hL ho hpm
  go_enter Tryd.func23, Tryd.ntmps23
  go_wp2_with fail
  refine hck.mono ?_
  rintro e w1 ⟨la, lc, rfl, hb1, hcap, hil⟩
  have q0 := row_below r0 hb1 r0.lt
  have c0 := q0.cell (i := 0) rfl
  have c1 := q0.cell (i := 1) rfl
  have hB1 := Hb.out.trans (hb1.mono (by simp))
  have hs1 := hB1.size
  clear hck
  go_wp2_with fail
  refine (t1 _ hB1).mono ?_
  rintro e w2 ⟨rfl, hb2⟩
  clear c0 c1
  have q2 := row_below q0 hb2 q0.lt
  have c0 := q2.cell (i := 0) rfl
  have c1 := q2.cell (i := 1) rfl
  have hB2 := hB1.trans (hb2.mono hs1)
  have hs2 := hB2.size
  clear t1
  go_wp2_with fail
  refine (k1 _ ((hvF.below (hB2.mono hn₀)).mono (by omega))).mono ?_
  rintro e w3 ⟨p, rfl, hp, hb3, hr3⟩
  have z2 := hb2.size
  have z3 := hb3.size
  have q3 := row_below q2 hb3 q2.lt
  have hB3 := hB2.trans (hb3.mono hs2)
  have hs3 := hB3.size
  clear c0 c1 k1
  obtain ⟨W1, hW1⟩ : ∃ W1, w3.alloc (.cells #[.int .i64 n, .slice (some ⟨p, 0, none⟩) (n * n) (n * n)] 54) = W1 := ⟨_, rfl⟩
  obtain ⟨r8, hB4, hs4⟩ := sq_cells w3 _ _ hW1
  have ltp := hr3.lt
  have q4 := row_below q3 hB4 q3.lt
  have p4 := row_below hr3 hB4 hr3.lt
  have hBW := hB3.trans (hB4.mono hs3)
  have c0 := q4.cell (i := 0) rfl
  go_wp2_with fail
  clear c0 hW1
  generalize w3.heap.size = B at *
  have hsz := hBW.size
  go_loopw [29] (fun i wr => ∃ k : Nat, k ≤ n ∧ i = .int .i64 k ∧ Below W1.heap.size W1 wr ∧ ∀ a, a < k → mat n F a a = 1 ∨ mat n F a a = -1) (fun i _ => n - (intOf i).toNat)
  case atStart => exact ⟨0, Nat.zero_le _, rfl, Below.refl _ _, fun a ha => absurd ha (Nat.not_lt_zero _)⟩
  case round =>
    obtain ⟨k, hk, rfl, hB, hK⟩ := hrel
    have s8 := row_below r8 hB r8.lt
    have s4 := row_below p4 hB p4.lt
    have hBz := hB.size
    by_cases hlt : k < n
    · have hpl := plc_lt hlt hlt
      have d0 := s8.cell (i := 0) rfl
      have d1 := s8.cell (i := 1) rfl
      have e1 := pm_toInt (x := bd F (k * n + k))
      go_wp2_with fail
      refine (hrow p k hl hlt _).mono ?_
      rintro e w5 ⟨rfl, hb5⟩
      have kf := (s4.keep hb5).cell (bvals_at (i := k * n + k) (by omega))
      have hB5 := hB.trans (hb5.mono hBz)
      clear d0 d1 s4 s8
      by_cases h1 : bd F (k * n + k) = 1
      · have g1 : ((bd F (k * n + k)).toInt != 1) = false := by rw [h1]; rfl
        have HK := hide hK
        have H1 := hide (show mat n F k k = 1 from h1)
        clear hK h1 e1
        generalize (bd F (k * n + k)).toInt = x at *
        go_wp2_with fail
        go_roundw
        case rel => exact ⟨k + 1, by omega, by go_num, hB5, fun a ha => by
          by_cases e : a = k
          · subst e; exact .inl H1.out
          · exact HK.out a (by omega)⟩
        case measure => simp [intOf]; omega
      · by_cases h2' : bd F (k * n + k) = -1
        · have g1 : ((bd F (k * n + k)).toInt != 1) = true := by rw [h2']; rfl
          have g2 : ((bd F (k * n + k)).toInt != -1) = false := by rw [h2']; rfl
          have HK := hide hK
          have H1 := hide (show mat n F k k = -1 from h2')
          clear hK h1 h2' e1
          generalize (bd F (k * n + k)).toInt = x at *
          go_wp2_with fail
          go_roundw
          case rel => exact ⟨k + 1, by omega, by go_num, hB5, fun a ha => by
            by_cases e : a = k
            · subst e; exact .inr H1.out
            · exact HK.out a (by omega)⟩
          case measure => simp [intOf]; omega
        · have g1 : ((bd F (k * n + k)).toInt != 1) = true := by rw [bne_iff_ne]; exact fun h => h1 (e1.1.1 h)
          have g2 : ((bd F (k * n + k)).toInt != -1) = true := by rw [bne_iff_ne]; exact fun h => h2' (e1.2.1 h)
          exact absurd (HPM.out k hlt) (fun h => h.elim h1 h2')
    · obtain rfl : k = n := by omega
      have d0 := s8.cell (i := 0) rfl
      have d1 := s8.cell (i := 1) rfl
      have hil4 := (IsInts.below (IsInts.below (IsInts.below (IsInts.below hil hb2) (hb3.mono hb2.size)) (hB4.mono (by omega))) (hB.mono (by omega))).up (show w1.heap.size ≤ wr.heap.size by have := hb2.size; omega)
      clear hK hrow
      go_wp2_with fail
      refine (hinv _ _ _ hcap _ s4 hil4).mono ?_
      rintro e w6 ⟨g, rfl, hg6, hb6, hr6⟩
      have hfr := run_field_at k (some ⟨g, 0, none⟩) (k * k) (k * k)
      go_wp2
      go_ret2
      exact ⟨g, rfl, by omega, (hBW.trans (hB.mono hsz)).trans (hb6.mono (by omega)), hr6⟩
end Go.Proofs.YtilffmalkegioaaDoor

namespace Go.Proofs.YtilffmalkegioaaDoor
open Go.RowKit Go.Shelf

/-- the list of the inverse -/
def invL (us : List Nat) (n : Nat) (F : List B64) : List B64 := tabL n (invG (mat n F) (sortL us))
theorem invL_len (us : List Nat) (n : Nat) (F : List B64) : (invL us n F).length = n * n := tabL_len _ _
theorem invL_mat (us : List Nat) (n : Nat) (F : List B64) : EqN n (mat n (invL us n F)) (invG (mat n F) (sortL us)) := mat_tabL _
theorem tabL_tab {us : List Nat} {f : Mat} (h : Tab us f) : IsTab us (tabL us.length f) :=
  ⟨tabL_len _ _, fun a ha b hb hno => by rw [mat_tabL f a ha b hb]; exact h a ha b hb hno⟩
theorem one_tab {us : List Nat} (ho : IsOrd us) : Tab us one := fun a ha b _ h => one_ne fun e => h (by subst e; exact leW_refl ho ha)
section
variable {us : List Nat} {F : List B64} (ho : IsOrd us) (hF : IsTab us F) (hpm : PM us.length (mat us.length F))
include ho hF hpm
omit hpm in
theorem invL_tab : IsTab us (invL us us.length F) := tabL_tab (inv_tab ho (sortL_line ho) hF.2)
theorem invL_pm : PM us.length (mat us.length (invL us us.length F)) := fun a ha => by
  rw [invL_mat us us.length F a ha a ha, inv_diag ho (sortL_line ho) hF.2 ha]; exact hpm a ha
theorem invL_inv : invL us us.length (invL us us.length F) = F := by
  have h1 : EqN us.length (invG (mat us.length (invL us us.length F)) (sortL us)) (mat us.length F) :=
    (invG_congr (invL_mat us us.length F) fun x hx => ((sortL_line ho).mem x).1 hx).trans (inv_inv ho (sortL_line ho) hF.2 hpm.unit)
  have h2 : invL us us.length (invL us us.length F) = tabL us.length (mat us.length F) := tabL_congr h1
  rw [h2, tabL_mat hF.1]
theorem invL_right : tabL us.length (mm us.length (mat us.length F) (mat us.length (invL us us.length F))) = tabL us.length one :=
  tabL_congr ((mm_congr (EqN.refl _ _) (invL_mat us us.length F)).trans (inv_right (sortL_line ho) hF.2 hpm.unit))
theorem invL_left : tabL us.length (mm us.length (mat us.length (invL us us.length F)) (mat us.length F)) = tabL us.length one :=
  tabL_congr ((mm_congr (invL_mat us us.length F) (EqN.refl _ _)).trans (inv_left ho (sortL_line ho) hF.2 hpm.unit))
end
end Go.Proofs.YtilffmalkegioaaDoor

namespace Go.Proofs.YtilffmalkegioaaDoor
open Go.RowKit Go.Shelf

theorem sound_any (n : Int) (a : Option Addr) (cap : Nat) (us : List Nat) (n₀ : Nat) (hf : Fit us) (w : World) (hw : IsWords n₀ w a us) (hn₀ : n₀ ≤ w.heap.size) :
    Calls Tryd.prog 30 #[.agg #[.int .i64 n, .slice a us.length cap]] w fun e w' => e = .returned (.bool (codeOf n us == 0)) ∧ Below w.heap.size w w' := by
  have hb0 : Below w.heap.size w (w.alloc (.cells #[.int .i64 n, .slice a us.length cap] 24)) := (Below.refl _ _).alloc (Nat.le_refl _) _
  have hck := OrderCheck_any n a cap us n₀ hf _ (hw.below (hb0.mono hn₀)) (by simp; omega)
  generalize codeOf n us = c at *
  have Hb := hide hb0
  clear hb0
  go_enter Tryd.func30, Tryd.ntmps30
  go_wp2_with (go_at_call 16; refine hck.mono ?_; rintro e w1 ⟨rfl, hb1⟩)
  go_ret
  exact ⟨rfl, Hb.out.trans (hb1.mono (by simp))⟩
end Go.Proofs.YtilffmalkegioaaDoor

namespace Go.Proofs.YtilffmalkegioaaDoor
open Go.RowKit Go.Shelf

theorem refused_any (n : Int) (a : Option Addr) (cap : Nat) (us : List Nat) (n₀ : Nat) (hf : Fit us) (w : World) (hT : TabAt w) (hw : IsWords n₀ w a us) (hg : 0 < n₀) (hn₀ : n₀ ≤ w.heap.size) :
    Calls Tryd.prog 31 #[.agg #[.int .i64 n, .slice a us.length cap]] w fun e w' => e = .returned (.bool (codeOf n us != 0)) ∧ Below w.heap.size w w' := by
  have hb0 : Below w.heap.size w (w.alloc (.cells #[.int .i64 n, .slice a us.length cap] 24)) := (Below.refl _ _).alloc (Nat.le_refl _) _
  have hck := Check_any n a cap us n₀ hf _ (hT.below hb0 (by omega)) (hw.below (hb0.mono hn₀)) hg (by simp; omega)
  generalize codeOf n us = c at *
  have Hb := hide hb0
  clear hb0
  go_enter Tryd.func31, Tryd.ntmps31
  go_wp2_with (go_at_call 37; refine hck.mono ?_; rintro e w1 ⟨rfl, hb1⟩)
  go_ret
  exact ⟨rfl, Hb.out.trans (hb1.mono (by simp))⟩

end Go.Proofs.YtilffmalkegioaaDoor

namespace Go.Proofs.YtilffmalkegioaaDoor
open Go.RowKit Go.Shelf

theorem ZInts.step {A B : World} {a : Option Addr} {l : List Int} (h : ZInts A.heap.size A a l) (hb : Below A.heap.size A B) : ZInts B.heap.size B a l := (h.below hb).mono hb.size
theorem mm_tab {us : List Nat} (ho : IsOrd us) {f g : Mat} (hf : Tab us f) (hg : Tab us g) : Tab us (mm us.length f g) := fun a ha b hb hno => sm_zero fun x hx => by
  by_cases h1 : leW us a x
  · by_cases h2 : leW us x b
    · exact absurd (leW_trans ho ha hx hb h1 h2) hno
    · rw [hg x hx b hb h2]; simp
  · rw [hf a ha x hx h1]; simp
/-- what the law asks of the lists -/
theorem alg_lists {us : List Nat} (ho : IsOrd us) {F G H : List B64} (hF : IsTab us F) (hG : IsTab us G) (hH : IsTab us H) :
    IsTab us (tabL us.length (mm us.length (mat us.length F) (mat us.length G))) ∧ IsTab us (tabL us.length (mm us.length (mat us.length G) (mat us.length H))) ∧ IsTab us (addL G H) ∧ IsTab us (tabL us.length one) ∧
    tabL us.length (mm us.length (mat us.length (tabL us.length (mm us.length (mat us.length F) (mat us.length G)))) (mat us.length H)) = tabL us.length (mm us.length (mat us.length F) (mat us.length (tabL us.length (mm us.length (mat us.length G) (mat us.length H))))) ∧
    tabL us.length (mm us.length (mat us.length F) (mat us.length (addL G H))) = addL (tabL us.length (mm us.length (mat us.length F) (mat us.length G))) (tabL us.length (mm us.length (mat us.length F) (mat us.length H))) ∧
    tabL us.length (mm us.length (mat us.length F) (mat us.length (tabL us.length one))) = F ∧ tabL us.length (mm us.length (mat us.length (tabL us.length one)) (mat us.length F)) = F := by
  refine ⟨tabL_tab (mm_tab ho hF.2 hG.2), tabL_tab (mm_tab ho hG.2 hH.2), ⟨by rw [addL_len, hG.1], fun a ha b hb hno => ?_⟩, tabL_tab (one_tab ho), tabL_congr ?_, ?_, ?_, ?_⟩
  · refine (addL_mat hG.1 a ha b hb).trans ?_
    show mat us.length G a b + mat us.length H a b = 0
    rw [hG.2 a ha b hb hno, hH.2 a ha b hb hno]; simp
  · refine (mm_congr (mat_tabL _) (EqN.refl _ _)).trans ?_
    rw [mm_assoc]
    exact mm_congr (EqN.refl _ _) (mat_tabL _).symm
  · refine mat_ext (tabL_len _ _) (by rw [addL_len, tabL_len]) ((mat_tabL _).trans (EqN.trans ?_ (addL_mat (tabL_len _ _)).symm))
    refine (mm_congr (EqN.refl _ _) (addL_mat hG.1)).trans ?_
    rw [mm_add]
    intro a ha b hb
    show _ = mat us.length _ a b + mat us.length _ a b
    rw [mat_tabL _ a ha b hb, mat_tabL _ a ha b hb]
  · exact (tabL_congr ((mm_congr (EqN.refl _ _) (mat_tabL _)).trans (mm_one _ _))).trans (tabL_mat hF.1)
  · exact (tabL_congr ((mm_congr (mat_tabL _) (EqN.refl _ _)).trans (one_mm _ _))).trans (tabL_mat hF.1)
/-- Times, with its code alone -/
theorem Times_code (n : Nat) (a : Option Addr) (cap : Nat) (us : List Nat) (af : Option Addr) (cf : Nat) (F : List B64) (ag : Option Addr) (cg : Nat) (G : List B64) (n₀ : Nat) (hn : n = us.length) (hf : Fit us) (w : World) (hT : TabAt w) (hw : IsWords n₀ w a us) (hvF : ZInts n₀ w af (tiL F)) (hvG : ZInts n₀ w ag (tiL G)) (hg : 0 < n₀) (hn₀ : n₀ ≤ w.heap.size) (hc : codeOf n us = 0) :
    Calls Tryd.prog 20 #[.agg #[.int .i64 n, .slice a n cap], .slice af F.length cf, .slice ag G.length cg] w fun e w' => ∃ v lv cv, e = .returned (.tuple #[.slice v lv cv, .int .i64 (if (tabB us F && tabB us G) = true then 0 else 2)]) ∧ Below w.heap.size w w' := by
  by_cases h : (tabB us F && tabB us G) = true
  · have h2 := h
    rw [Bool.and_eq_true] at h2
    have hF := tabB_true.1 h2.1
    have hG := tabB_true.1 h2.2
    rw [if_pos h]
    have := Times_ok n a cap us af cf F ag cg G n₀ hn hf w hT hw hvF hvG hg hn₀ hc hF hG
    rw [show F.length = n * n by rw [hF.1, hn], show G.length = n * n by rw [hG.1, hn]]
    refine this.mono ?_
    rintro e w' ⟨p, rfl, _, hb, _⟩
    exact ⟨_, _, _, rfl, hb⟩
  · rw [if_neg h]
    refine (Times_none n a cap us af cf F ag cg G n₀ hn hf w hT hw hvF hvG hg hn₀ hc (by simpa using h)).mono ?_
    rintro e w' ⟨rfl, hb⟩
    exact ⟨_, _, _, rfl, hb⟩
set_option maxRecDepth 100000 in
set_option maxHeartbeats 4000000 in
theorem malg_bad (n : Int) (a : Option Addr) (cap : Nat) (us : List Nat) (a1 : Option Addr) (c1_ : Nat) (l1 : List B64) (a2 : Option Addr) (c2_ : Nat) (l2 : List B64) (a3 : Option Addr) (c3_ : Nat) (l3 : List B64) (n₀ : Nat) (hf : Fit us) (w : World) (hT : TabAt w) (hw : IsWords n₀ w a us) (z1 : ZInts n₀ w a1 (tiL l1)) (z2 : ZInts n₀ w a2 (tiL l2)) (z3 : ZInts n₀ w a3 (tiL l3)) (hg : 0 < n₀) (hn₀ : n₀ ≤ w.heap.size) (hc : codeOf n us ≠ 0) :
    Calls Tryd.prog 8 #[.agg #[.int .i64 n, .slice a us.length cap], .slice a1 l1.length c1_, .slice a2 l2.length c2_, .slice a3 l3.length c3_] w fun e w' => e = .returned (.bool true) ∧ Below w.heap.size w w' := by
  have k1 := fun W hw => sound_any n a cap us W.heap.size hf W hw (Nat.le_refl _)
  have k2 := fun W hT hw hg => refused_any n a cap us W.heap.size hf W hT hw hg (Nat.le_refl _)
  have e1 : (codeOf n us == 0) = false := by rw [beq_eq_false_iff_ne]; exact hc
  have e2 : (codeOf n us != 0) = true := by rw [bne_iff_ne]; exact hc
  rw [e1] at k1
  rw [e2] at k2
  clear hc e1 e2
  obtain ⟨W0, hW0⟩ : ∃ V, w.alloc (.cells #[.int .i64 n, .slice a us.length cap] 24) = V := ⟨_, rfl⟩
  obtain ⟨r0, hB, hs0⟩ := one_row w 24 (.int .i64 n) (.slice a us.length cap) hW0
  replace hw := (hw.below (hB.mono hn₀)).mono (show n₀ ≤ W0.heap.size by omega)
  replace z1 := (z1.below (hB.mono hn₀)).mono (show n₀ ≤ W0.heap.size by omega)
  replace z2 := (z2.below (hB.mono hn₀)).mono (show n₀ ≤ W0.heap.size by omega)
  replace z3 := (z3.below (hB.mono hn₀)).mono (show n₀ ≤ W0.heap.size by omega)
  replace hT := hT.below hB (by omega)
  replace hg : 0 < W0.heap.size := by omega
  clear hs0 hn₀
  have c0 := r0.cell (i := 0) rfl
  have c1 := r0.cell (i := 1) rfl
  go_enter Tryd.func8, Tryd.ntmps8
  go_wp2_with fail
  clear hW0
  refine (k1 _ hw).mono ?_
  rintro e w1 ⟨rfl, hb⟩
  clear c0 c1
  replace r0 := row_below r0 hb r0.lt
  replace hw := (hw.below hb).mono hb.size
  replace z1 := z1.step hb
  replace z2 := z2.step hb
  replace z3 := z3.step hb
  replace hT := hT.below hb hg
  replace hg := Nat.lt_of_lt_of_le hg hb.size
  replace hB := hB.trans (hb.mono hB.size)
  have c0 := r0.cell (i := 0) rfl
  have c1 := r0.cell (i := 1) rfl
  clear hb
  go_wp2_with fail
  refine (k2 _ hT hw hg).mono ?_
  rintro e w2 ⟨rfl, hb⟩
  clear c0 c1
  replace r0 := row_below r0 hb r0.lt
  replace hw := (hw.below hb).mono hb.size
  replace z1 := z1.step hb
  replace z2 := z2.step hb
  replace z3 := z3.step hb
  replace hT := hT.below hb hg
  replace hg := Nat.lt_of_lt_of_le hg hb.size
  replace hB := hB.trans (hb.mono hB.size)
  have c0 := r0.cell (i := 0) rfl
  have c1 := r0.cell (i := 1) rfl
  clear hb
  go_wp2_with fail
  go_ret
  exact ⟨rfl, hB⟩

set_option maxRecDepth 100000 in
set_option maxHeartbeats 4000000 in
theorem malg_none (n : Nat) (a : Option Addr) (cap : Nat) (us : List Nat) (a1 : Option Addr) (c1_ : Nat) (l1 : List B64) (a2 : Option Addr) (c2_ : Nat) (l2 : List B64) (a3 : Option Addr) (c3_ : Nat) (l3 : List B64) (n₀ : Nat) (hn : n = us.length) (hf : Fit us) (w : World) (hT : TabAt w) (hw : IsWords n₀ w a us) (z1 : ZInts n₀ w a1 (tiL l1)) (z2 : ZInts n₀ w a2 (tiL l2)) (z3 : ZInts n₀ w a3 (tiL l3)) (hg : 0 < n₀) (hn₀ : n₀ ≤ w.heap.size) (hc : codeOf n us = 0) (hno : ¬ (IsTab us l1 ∧ IsTab us l2 ∧ IsTab us l3)) :
    Calls Tryd.prog 8 #[.agg #[.int .i64 n, .slice a n cap], .slice a1 l1.length c1_, .slice a2 l2.length c2_, .slice a3 l3.length c3_] w fun e w' => e = .returned (.bool true) ∧ Below w.heap.size w w' := by
  have ks := fun W hw => sound_any n a cap us W.heap.size hf W hw (Nat.le_refl _)
  have e1 : (codeOf n us == 0) = true := by rw [hc]; rfl
  rw [e1, ← hn] at ks
  clear e1
  have hl : n ≤ 16 := by have := (code_zero hc).2.1; omega
  have k12 := fun W hT hw z1 z2 hg => Times_code n a cap us a1 c1_ l1 a2 c2_ l2 W.heap.size hn hf W hT hw z1 z2 hg (Nat.le_refl _) hc
  have k23 := fun W hT hw z2 z3 hg => Times_code n a cap us a2 c2_ l2 a3 c3_ l3 W.heap.size hn hf W hT hw z2 z3 hg (Nat.le_refl _) hc
  have k13 := fun W hT hw z1 z3 hg => Times_code n a cap us a1 c1_ l1 a3 c3_ l3 W.heap.size hn hf W hT hw z1 z3 hg (Nat.le_refl _) hc
  have t1 := fun W hw z1 => Table_any n a cap us a1 c1_ l1 W.heap.size hn hf hl W hw z1 (Nat.le_refl _)
  have t2 := fun W hw z2 => Table_any n a cap us a2 c2_ l2 W.heap.size hn hf hl W hw z2 (Nat.le_refl _)
  have t3 := fun W hw z3 => Table_any n a cap us a3 c3_ l3 W.heap.size hn hf hl W hw z3 (Nat.le_refl _)
  have hx : ¬ (tabB us l1 = true ∧ tabB us l2 = true ∧ tabB us l3 = true) := fun h => hno ⟨tabB_true.1 h.1, tabB_true.1 h.2.1, tabB_true.1 h.2.2⟩
  generalize tabB us l1 = x1 at *
  generalize tabB us l2 = x2 at *
  generalize tabB us l3 = x3 at *
  have hcase : x1 = false ∨ (x1 = true ∧ x2 = false) ∨ (x1 = true ∧ x2 = true ∧ x3 = false) := by
    cases x1 <;> cases x2 <;> cases x3 <;> simp_all
  clear hc hn hno hl hx
  rcases hcase with rfl | ⟨rfl, rfl⟩ | ⟨rfl, rfl, rfl⟩
  · simp only [Bool.false_and, if_false, Bool.false_eq_true] at k12 k23 k13
    generalize (if (x2 && x3) = true then (0 : Int) else 2) = d23 at *
    obtain ⟨W0, hW0⟩ : ∃ V, w.alloc (.cells #[.int .i64 n, .slice a n cap] 24) = V := ⟨_, rfl⟩
    obtain ⟨r0, hB, hs0⟩ := one_row w 24 (.int .i64 n) (.slice a n cap) hW0
    replace hw := (hw.below (hB.mono hn₀)).mono (show n₀ ≤ W0.heap.size by omega)
    replace z1 := (z1.below (hB.mono hn₀)).mono (show n₀ ≤ W0.heap.size by omega)
    replace z2 := (z2.below (hB.mono hn₀)).mono (show n₀ ≤ W0.heap.size by omega)
    replace z3 := (z3.below (hB.mono hn₀)).mono (show n₀ ≤ W0.heap.size by omega)
    replace hT := hT.below hB (by omega)
    replace hg : 0 < W0.heap.size := by omega
    clear hs0 hn₀
    have c0 := r0.cell (i := 0) rfl
    have c1 := r0.cell (i := 1) rfl
    go_enter Tryd.func8, Tryd.ntmps8
    go_wp2_with fail
    clear hW0
    refine (ks _ hw).mono ?_
    rintro e w1 ⟨rfl, hb⟩
    clear c0 c1
    replace r0 := row_below r0 hb r0.lt
    replace hw := (hw.below hb).mono hb.size
    replace z1 := z1.step hb
    replace z2 := z2.step hb
    replace z3 := z3.step hb
    replace hT := hT.below hb hg
    replace hg := Nat.lt_of_lt_of_le hg hb.size
    replace hB := hB.trans (hb.mono hB.size)
    have c0 := r0.cell (i := 0) rfl
    have c1 := r0.cell (i := 1) rfl
    clear hb
    go_wp2_with fail
    refine (k12 _ hT hw z1 z2 hg).mono ?_
    rintro e w2 ⟨v, lv, cv, rfl, hb⟩
    clear c0 c1
    replace r0 := row_below r0 hb r0.lt
    replace hw := (hw.below hb).mono hb.size
    replace z1 := z1.step hb
    replace z2 := z2.step hb
    replace z3 := z3.step hb
    replace hT := hT.below hb hg
    replace hg := Nat.lt_of_lt_of_le hg hb.size
    replace hB := hB.trans (hb.mono hB.size)
    have c0 := r0.cell (i := 0) rfl
    have c1 := r0.cell (i := 1) rfl
    clear hb
    go_wp2_with fail
    refine (k23 _ hT hw z2 z3 hg).mono ?_
    rintro e w3 ⟨v2, lv2, cv2, rfl, hb⟩
    clear c0 c1
    replace r0 := row_below r0 hb r0.lt
    replace hw := (hw.below hb).mono hb.size
    replace z1 := z1.step hb
    replace z2 := z2.step hb
    replace z3 := z3.step hb
    replace hT := hT.below hb hg
    replace hg := Nat.lt_of_lt_of_le hg hb.size
    replace hB := hB.trans (hb.mono hB.size)
    have c0 := r0.cell (i := 0) rfl
    have c1 := r0.cell (i := 1) rfl
    clear hb
    go_wp2_with fail
    refine (k13 _ hT hw z1 z3 hg).mono ?_
    rintro e w4 ⟨v3, lv3, cv3, rfl, hb⟩
    clear c0 c1
    replace r0 := row_below r0 hb r0.lt
    replace hw := (hw.below hb).mono hb.size
    replace z1 := z1.step hb
    replace z2 := z2.step hb
    replace z3 := z3.step hb
    replace hT := hT.below hb hg
    replace hg := Nat.lt_of_lt_of_le hg hb.size
    replace hB := hB.trans (hb.mono hB.size)
    have c0 := r0.cell (i := 0) rfl
    have c1 := r0.cell (i := 1) rfl
    clear hb
    go_wp2_with fail
    refine (t1 _ hw z1).mono ?_
    rintro e w5 ⟨rfl, hb⟩
    clear c0 c1
    replace r0 := row_below r0 hb r0.lt
    replace hw := (hw.below hb).mono hb.size
    replace z1 := z1.step hb
    replace z2 := z2.step hb
    replace z3 := z3.step hb
    replace hT := hT.below hb hg
    replace hg := Nat.lt_of_lt_of_le hg hb.size
    replace hB := hB.trans (hb.mono hB.size)
    have c0 := r0.cell (i := 0) rfl
    have c1 := r0.cell (i := 1) rfl
    clear hb
    go_wp2_with fail
    go_ret
    exact ⟨rfl, hB⟩
  · simp only [Bool.false_and, Bool.and_false, Bool.true_and, if_false, Bool.false_eq_true] at k12 k23 k13
    generalize (if x3 = true then (0 : Int) else 2) = d13 at *
    obtain ⟨W0, hW0⟩ : ∃ V, w.alloc (.cells #[.int .i64 n, .slice a n cap] 24) = V := ⟨_, rfl⟩
    obtain ⟨r0, hB, hs0⟩ := one_row w 24 (.int .i64 n) (.slice a n cap) hW0
    replace hw := (hw.below (hB.mono hn₀)).mono (show n₀ ≤ W0.heap.size by omega)
    replace z1 := (z1.below (hB.mono hn₀)).mono (show n₀ ≤ W0.heap.size by omega)
    replace z2 := (z2.below (hB.mono hn₀)).mono (show n₀ ≤ W0.heap.size by omega)
    replace z3 := (z3.below (hB.mono hn₀)).mono (show n₀ ≤ W0.heap.size by omega)
    replace hT := hT.below hB (by omega)
    replace hg : 0 < W0.heap.size := by omega
    clear hs0 hn₀
    have c0 := r0.cell (i := 0) rfl
    have c1 := r0.cell (i := 1) rfl
    go_enter Tryd.func8, Tryd.ntmps8
    go_wp2_with fail
    clear hW0
    refine (ks _ hw).mono ?_
    rintro e w1 ⟨rfl, hb⟩
    clear c0 c1
    replace r0 := row_below r0 hb r0.lt
    replace hw := (hw.below hb).mono hb.size
    replace z1 := z1.step hb
    replace z2 := z2.step hb
    replace z3 := z3.step hb
    replace hT := hT.below hb hg
    replace hg := Nat.lt_of_lt_of_le hg hb.size
    replace hB := hB.trans (hb.mono hB.size)
    have c0 := r0.cell (i := 0) rfl
    have c1 := r0.cell (i := 1) rfl
    clear hb
    go_wp2_with fail
    refine (k12 _ hT hw z1 z2 hg).mono ?_
    rintro e w2 ⟨v, lv, cv, rfl, hb⟩
    clear c0 c1
    replace r0 := row_below r0 hb r0.lt
    replace hw := (hw.below hb).mono hb.size
    replace z1 := z1.step hb
    replace z2 := z2.step hb
    replace z3 := z3.step hb
    replace hT := hT.below hb hg
    replace hg := Nat.lt_of_lt_of_le hg hb.size
    replace hB := hB.trans (hb.mono hB.size)
    have c0 := r0.cell (i := 0) rfl
    have c1 := r0.cell (i := 1) rfl
    clear hb
    go_wp2_with fail
    refine (k23 _ hT hw z2 z3 hg).mono ?_
    rintro e w3 ⟨v2, lv2, cv2, rfl, hb⟩
    clear c0 c1
    replace r0 := row_below r0 hb r0.lt
    replace hw := (hw.below hb).mono hb.size
    replace z1 := z1.step hb
    replace z2 := z2.step hb
    replace z3 := z3.step hb
    replace hT := hT.below hb hg
    replace hg := Nat.lt_of_lt_of_le hg hb.size
    replace hB := hB.trans (hb.mono hB.size)
    have c0 := r0.cell (i := 0) rfl
    have c1 := r0.cell (i := 1) rfl
    clear hb
    go_wp2_with fail
    refine (k13 _ hT hw z1 z3 hg).mono ?_
    rintro e w4 ⟨v3, lv3, cv3, rfl, hb⟩
    clear c0 c1
    replace r0 := row_below r0 hb r0.lt
    replace hw := (hw.below hb).mono hb.size
    replace z1 := z1.step hb
    replace z2 := z2.step hb
    replace z3 := z3.step hb
    replace hT := hT.below hb hg
    replace hg := Nat.lt_of_lt_of_le hg hb.size
    replace hB := hB.trans (hb.mono hB.size)
    have c0 := r0.cell (i := 0) rfl
    have c1 := r0.cell (i := 1) rfl
    clear hb
    go_wp2_with fail
    refine (t1 _ hw z1).mono ?_
    rintro e w5 ⟨rfl, hb⟩
    clear c0 c1
    replace r0 := row_below r0 hb r0.lt
    replace hw := (hw.below hb).mono hb.size
    replace z1 := z1.step hb
    replace z2 := z2.step hb
    replace z3 := z3.step hb
    replace hT := hT.below hb hg
    replace hg := Nat.lt_of_lt_of_le hg hb.size
    replace hB := hB.trans (hb.mono hB.size)
    have c0 := r0.cell (i := 0) rfl
    have c1 := r0.cell (i := 1) rfl
    clear hb
    go_wp2_with fail
    refine (t2 _ hw z2).mono ?_
    rintro e w6 ⟨rfl, hb⟩
    clear c0 c1
    replace r0 := row_below r0 hb r0.lt
    replace hw := (hw.below hb).mono hb.size
    replace z1 := z1.step hb
    replace z2 := z2.step hb
    replace z3 := z3.step hb
    replace hT := hT.below hb hg
    replace hg := Nat.lt_of_lt_of_le hg hb.size
    replace hB := hB.trans (hb.mono hB.size)
    have c0 := r0.cell (i := 0) rfl
    have c1 := r0.cell (i := 1) rfl
    clear hb
    go_wp2_with fail
    go_ret
    exact ⟨rfl, hB⟩
  · simp only [Bool.and_false, Bool.and_self, if_true, if_false, Bool.false_eq_true] at k12 k23 k13
    obtain ⟨W0, hW0⟩ : ∃ V, w.alloc (.cells #[.int .i64 n, .slice a n cap] 24) = V := ⟨_, rfl⟩
    obtain ⟨r0, hB, hs0⟩ := one_row w 24 (.int .i64 n) (.slice a n cap) hW0
    replace hw := (hw.below (hB.mono hn₀)).mono (show n₀ ≤ W0.heap.size by omega)
    replace z1 := (z1.below (hB.mono hn₀)).mono (show n₀ ≤ W0.heap.size by omega)
    replace z2 := (z2.below (hB.mono hn₀)).mono (show n₀ ≤ W0.heap.size by omega)
    replace z3 := (z3.below (hB.mono hn₀)).mono (show n₀ ≤ W0.heap.size by omega)
    replace hT := hT.below hB (by omega)
    replace hg : 0 < W0.heap.size := by omega
    clear hs0 hn₀
    have c0 := r0.cell (i := 0) rfl
    have c1 := r0.cell (i := 1) rfl
    go_enter Tryd.func8, Tryd.ntmps8
    go_wp2_with fail
    clear hW0
    refine (ks _ hw).mono ?_
    rintro e w1 ⟨rfl, hb⟩
    clear c0 c1
    replace r0 := row_below r0 hb r0.lt
    replace hw := (hw.below hb).mono hb.size
    replace z1 := z1.step hb
    replace z2 := z2.step hb
    replace z3 := z3.step hb
    replace hT := hT.below hb hg
    replace hg := Nat.lt_of_lt_of_le hg hb.size
    replace hB := hB.trans (hb.mono hB.size)
    have c0 := r0.cell (i := 0) rfl
    have c1 := r0.cell (i := 1) rfl
    clear hb
    go_wp2_with fail
    refine (k12 _ hT hw z1 z2 hg).mono ?_
    rintro e w2 ⟨v, lv, cv, rfl, hb⟩
    clear c0 c1
    replace r0 := row_below r0 hb r0.lt
    replace hw := (hw.below hb).mono hb.size
    replace z1 := z1.step hb
    replace z2 := z2.step hb
    replace z3 := z3.step hb
    replace hT := hT.below hb hg
    replace hg := Nat.lt_of_lt_of_le hg hb.size
    replace hB := hB.trans (hb.mono hB.size)
    have c0 := r0.cell (i := 0) rfl
    have c1 := r0.cell (i := 1) rfl
    clear hb
    go_wp2_with fail
    refine (k23 _ hT hw z2 z3 hg).mono ?_
    rintro e w3 ⟨v2, lv2, cv2, rfl, hb⟩
    clear c0 c1
    replace r0 := row_below r0 hb r0.lt
    replace hw := (hw.below hb).mono hb.size
    replace z1 := z1.step hb
    replace z2 := z2.step hb
    replace z3 := z3.step hb
    replace hT := hT.below hb hg
    replace hg := Nat.lt_of_lt_of_le hg hb.size
    replace hB := hB.trans (hb.mono hB.size)
    have c0 := r0.cell (i := 0) rfl
    have c1 := r0.cell (i := 1) rfl
    clear hb
    go_wp2_with fail
    refine (k13 _ hT hw z1 z3 hg).mono ?_
    rintro e w4 ⟨v3, lv3, cv3, rfl, hb⟩
    clear c0 c1
    replace r0 := row_below r0 hb r0.lt
    replace hw := (hw.below hb).mono hb.size
    replace z1 := z1.step hb
    replace z2 := z2.step hb
    replace z3 := z3.step hb
    replace hT := hT.below hb hg
    replace hg := Nat.lt_of_lt_of_le hg hb.size
    replace hB := hB.trans (hb.mono hB.size)
    have c0 := r0.cell (i := 0) rfl
    have c1 := r0.cell (i := 1) rfl
    clear hb
    go_wp2_with fail
    refine (t1 _ hw z1).mono ?_
    rintro e w5 ⟨rfl, hb⟩
    clear c0 c1
    replace r0 := row_below r0 hb r0.lt
    replace hw := (hw.below hb).mono hb.size
    replace z1 := z1.step hb
    replace z2 := z2.step hb
    replace z3 := z3.step hb
    replace hT := hT.below hb hg
    replace hg := Nat.lt_of_lt_of_le hg hb.size
    replace hB := hB.trans (hb.mono hB.size)
    have c0 := r0.cell (i := 0) rfl
    have c1 := r0.cell (i := 1) rfl
    clear hb
    go_wp2_with fail
    refine (t2 _ hw z2).mono ?_
    rintro e w6 ⟨rfl, hb⟩
    clear c0 c1
    replace r0 := row_below r0 hb r0.lt
    replace hw := (hw.below hb).mono hb.size
    replace z1 := z1.step hb
    replace z2 := z2.step hb
    replace z3 := z3.step hb
    replace hT := hT.below hb hg
    replace hg := Nat.lt_of_lt_of_le hg hb.size
    replace hB := hB.trans (hb.mono hB.size)
    have c0 := r0.cell (i := 0) rfl
    have c1 := r0.cell (i := 1) rfl
    clear hb
    go_wp2_with fail
    refine (t3 _ hw z3).mono ?_
    rintro e w7 ⟨rfl, hb⟩
    clear c0 c1
    replace r0 := row_below r0 hb r0.lt
    replace hw := (hw.below hb).mono hb.size
    replace z1 := z1.step hb
    replace z2 := z2.step hb
    replace z3 := z3.step hb
    replace hT := hT.below hb hg
    replace hg := Nat.lt_of_lt_of_le hg hb.size
    replace hB := hB.trans (hb.mono hB.size)
    have c0 := r0.cell (i := 0) rfl
    have c1 := r0.cell (i := 1) rfl
    clear hb
    go_wp2_with fail
    go_ret
    exact ⟨rfl, hB⟩

set_option maxRecDepth 100000 in
set_option maxHeartbeats 16000000 in
theorem malg_tab (n : Nat) (a : Option Addr) (cap : Nat) (us : List Nat) (a1 : Option Addr) (c1_ : Nat) (l1 : List B64) (a2 : Option Addr) (c2_ : Nat) (l2 : List B64) (a3 : Option Addr) (c3_ : Nat) (l3 : List B64) (n₀ : Nat) (hn : n = us.length) (hf : Fit us) (w : World) (hT : TabAt w) (hw : IsWords n₀ w a us) (z1 : ZInts n₀ w a1 (tiL l1)) (z2 : ZInts n₀ w a2 (tiL l2)) (z3 : ZInts n₀ w a3 (tiL l3)) (hg : 0 < n₀) (hn₀ : n₀ ≤ w.heap.size) (hc : codeOf n us = 0) (h1 : IsTab us l1) (h2 : IsTab us l2) (h3 : IsTab us l3) :
    Calls Tryd.prog 8 #[.agg #[.int .i64 n, .slice a n cap], .slice a1 l1.length c1_, .slice a2 l2.length c2_, .slice a3 l3.length c3_] w fun e w' => e = .returned (.bool true) ∧ Below w.heap.size w w' := by
  have ks := fun W hw => sound_any n a cap us W.heap.size hf W hw (Nat.le_refl _)
  have e1 : (codeOf n us == 0) = true := by rw [hc]; rfl
  rw [e1, ← hn] at ks
  clear e1
  have hl : n ≤ 16 := by have := (code_zero hc).2.1; omega
  have hnn : n * n ≤ 256 := Nat.mul_le_mul hl hl
  have ho : IsOrd us := (code_zero hc).2.2.2.2
  have hl1 : l1.length = n * n := by rw [h1.1, hn]
  have hl2 : l2.length = n * n := by rw [h2.1, hn]
  have hl3 : l3.length = n * n := by rw [h3.1, hn]
  obtain ⟨i12, i23, iad, ion, e1, e2, e3, e4⟩ : IsTab us (tabL n (mm n (mat n l1) (mat n l2))) ∧ IsTab us (tabL n (mm n (mat n l2) (mat n l3))) ∧ IsTab us (addL l2 l3) ∧ IsTab us (tabL n one) ∧
      tabL n (mm n (mat n (tabL n (mm n (mat n l1) (mat n l2)))) (mat n l3)) = tabL n (mm n (mat n l1) (mat n (tabL n (mm n (mat n l2) (mat n l3))))) ∧
      tabL n (mm n (mat n l1) (mat n (addL l2 l3))) = addL (tabL n (mm n (mat n l1) (mat n l2))) (tabL n (mm n (mat n l1) (mat n l3))) ∧
      tabL n (mm n (mat n l1) (mat n (tabL n one))) = l1 ∧ tabL n (mm n (mat n (tabL n one)) (mat n l1)) = l1 := by
    subst hn; exact alg_lists ho h1 h2 h3
  have k12 := fun W hT hw z1 z2 hg => Times_ok n a cap us a1 c1_ l1 a2 c2_ l2 W.heap.size hn hf W hT hw z1 z2 hg (Nat.le_refl _) hc h1 h2
  have k23 := fun W hT hw z2 z3 hg => Times_ok n a cap us a2 c2_ l2 a3 c3_ l3 W.heap.size hn hf W hT hw z2 z3 hg (Nat.le_refl _) hc h2 h3
  have k13 := fun W hT hw z1 z3 hg => Times_ok n a cap us a1 c1_ l1 a3 c3_ l3 W.heap.size hn hf W hT hw z1 z3 hg (Nat.le_refl _) hc h1 h3
  have t1 := fun W hw z1 => Table_any n a cap us a1 c1_ l1 W.heap.size hn hf hl W hw z1 (Nat.le_refl _)
  have t2 := fun W hw z2 => Table_any n a cap us a2 c2_ l2 W.heap.size hn hf hl W hw z2 (Nat.le_refl _)
  have t3 := fun W hw z3 => Table_any n a cap us a3 c3_ l3 W.heap.size hn hf hl W hw z3 (Nat.le_refl _)
  rw [tabB_true.2 h1, hl1] at t1
  rw [tabB_true.2 h2, hl2] at t2
  rw [tabB_true.2 h3, hl3] at t3
  have ka := fun ax cx W hT hw zx z3 hg => Times_ok n a cap us ax cx (tabL n (mm n (mat n l1) (mat n l2))) a3 c3_ l3 W.heap.size hn hf W hT hw zx z3 hg (Nat.le_refl _) hc i12 h3
  have kb := fun ax cx W hT hw z1 zx hg => Times_ok n a cap us a1 c1_ l1 ax cx (tabL n (mm n (mat n l2) (mat n l3))) W.heap.size hn hf W hT hw z1 zx hg (Nat.le_refl _) hc h1 i23
  have kc := fun ax cx W hT hw z1 zx hg => Times_ok n a cap us a1 c1_ l1 ax cx (addL l2 l3) W.heap.size hn hf W hT hw z1 zx hg (Nat.le_refl _) hc h1 iad
  have kd := fun ax cx W hT hw z1 zx hg => Times_ok n a cap us a1 c1_ l1 ax cx (tabL n one) W.heap.size hn hf W hT hw z1 zx hg (Nat.le_refl _) hc h1 ion
  have ke := fun ax cx W hT hw zx z1 hg => Times_ok n a cap us ax cx (tabL n one) a1 c1_ l1 W.heap.size hn hf W hT hw zx z1 hg (Nat.le_refl _) hc ion h1
  rw [e1] at ka
  rw [e2] at kc
  rw [e3] at kd
  rw [e4] at ke
  have kadd := fun W z2 z3 => added_any (n * n) (by omega) a2 c2_ l2 a3 c3_ l3 hl2 hl3 W.heap.size W z2 z3 (Nat.le_refl _)
  have kad2 := fun ax cx ay cy W zx zy => added_any (n * n) (by omega) ax cx (tabL n (mm n (mat n l1) (mat n l2))) ay cy (tabL n (mm n (mat n l1) (mat n l3))) (tabL_len _ _) (tabL_len _ _) W.heap.size W zx zy (Nat.le_refl _)
  have kone := fun W => kones_any n hl W
  have hlA := tabL_len n (mm n (mat n l1) (mat n (tabL n (mm n (mat n l2) (mat n l3)))))
  have hlC : (addL (tabL n (mm n (mat n l1) (mat n l2))) (tabL n (mm n (mat n l1) (mat n l3)))).length = n * n := by rw [addL_len, tabL_len]
  generalize tabL n (mm n (mat n l1) (mat n (tabL n (mm n (mat n l2) (mat n l3))))) = A at *
  generalize addL (tabL n (mm n (mat n l1) (mat n l2))) (tabL n (mm n (mat n l1) (mat n l3))) = C at *
  generalize tabL n (mm n (mat n l1) (mat n l2)) = FG at *
  generalize tabL n (mm n (mat n l2) (mat n l3)) = GH at *
  generalize tabL n (mm n (mat n l1) (mat n l3)) = FH at *
  generalize tabL n one = O at *
  generalize addL l2 l3 = GpH at *
  rw [hl1, hl2, hl3]
  clear hc hn e1 e2 e3 e4 i12 i23 iad ion h1 h2 h3 ho hf
  obtain ⟨W0, hW0⟩ : ∃ V, w.alloc (.cells #[.int .i64 n, .slice a n cap] 24) = V := ⟨_, rfl⟩
  obtain ⟨r0, hB, hs0⟩ := one_row w 24 (.int .i64 n) (.slice a n cap) hW0
  replace hw := (hw.below (hB.mono hn₀)).mono (show n₀ ≤ W0.heap.size by omega)
  replace z1 := (z1.below (hB.mono hn₀)).mono (show n₀ ≤ W0.heap.size by omega)
  replace z2 := (z2.below (hB.mono hn₀)).mono (show n₀ ≤ W0.heap.size by omega)
  replace z3 := (z3.below (hB.mono hn₀)).mono (show n₀ ≤ W0.heap.size by omega)
  replace hT := hT.below hB (by omega)
  replace hg : 0 < W0.heap.size := by omega
  clear hs0 hn₀
  have c0 := r0.cell (i := 0) rfl
  have c1 := r0.cell (i := 1) rfl
  go_enter Tryd.func8, Tryd.ntmps8
  go_wp2_with fail
  clear hW0
  refine (ks _ hw).mono ?_
  rintro e w1 ⟨rfl, hb⟩
  clear c0 c1
  replace r0 := row_below r0 hb r0.lt
  replace hw := (hw.below hb).mono hb.size
  replace z1 := z1.step hb
  replace z2 := z2.step hb
  replace z3 := z3.step hb
  replace hT := hT.below hb hg
  replace hg := Nat.lt_of_lt_of_le hg hb.size
  replace hB := hB.trans (hb.mono hB.size)
  have c0 := r0.cell (i := 0) rfl
  have c1 := r0.cell (i := 1) rfl
  clear hb
  go_wp2_with fail
  refine (k12 _ hT hw z1 z2 hg).mono ?_
  rintro e w2 ⟨p1, rfl, hp, hb, hr⟩
  clear c0 c1
  replace r0 := row_below r0 hb r0.lt
  replace hw := (hw.below hb).mono hb.size
  replace z1 := z1.step hb
  replace z2 := z2.step hb
  replace z3 := z3.step hb
  replace hT := hT.below hb hg
  replace hg := Nat.lt_of_lt_of_le hg hb.size
  replace hB := hB.trans (hb.mono hB.size)
  have c0 := r0.cell (i := 0) rfl
  have c1 := r0.cell (i := 1) rfl
  have z4 := hr.b hr.lt
  clear hr hp
  clear hb
  go_wp2_with fail
  refine (k23 _ hT hw z2 z3 hg).mono ?_
  rintro e w3 ⟨p2, rfl, hp, hb, hr⟩
  clear c0 c1
  replace r0 := row_below r0 hb r0.lt
  replace hw := (hw.below hb).mono hb.size
  replace z1 := z1.step hb
  replace z2 := z2.step hb
  replace z3 := z3.step hb
  replace z4 := z4.step hb
  replace hT := hT.below hb hg
  replace hg := Nat.lt_of_lt_of_le hg hb.size
  replace hB := hB.trans (hb.mono hB.size)
  have c0 := r0.cell (i := 0) rfl
  have c1 := r0.cell (i := 1) rfl
  have z5 := hr.b hr.lt
  clear hr hp
  clear hb
  go_wp2_with fail
  refine (k13 _ hT hw z1 z3 hg).mono ?_
  rintro e w4 ⟨p3, rfl, hp, hb, hr⟩
  clear c0 c1
  replace r0 := row_below r0 hb r0.lt
  replace hw := (hw.below hb).mono hb.size
  replace z1 := z1.step hb
  replace z2 := z2.step hb
  replace z3 := z3.step hb
  replace z4 := z4.step hb
  replace z5 := z5.step hb
  replace hT := hT.below hb hg
  replace hg := Nat.lt_of_lt_of_le hg hb.size
  replace hB := hB.trans (hb.mono hB.size)
  have c0 := r0.cell (i := 0) rfl
  have c1 := r0.cell (i := 1) rfl
  have z6 := hr.b hr.lt
  clear hr hp
  clear hb
  go_wp2_with fail
  refine (t1 _ hw z1).mono ?_
  rintro e w5 ⟨rfl, hb⟩
  clear c0 c1
  replace r0 := row_below r0 hb r0.lt
  replace hw := (hw.below hb).mono hb.size
  replace z1 := z1.step hb
  replace z2 := z2.step hb
  replace z3 := z3.step hb
  replace z4 := z4.step hb
  replace z5 := z5.step hb
  replace z6 := z6.step hb
  replace hT := hT.below hb hg
  replace hg := Nat.lt_of_lt_of_le hg hb.size
  replace hB := hB.trans (hb.mono hB.size)
  have c0 := r0.cell (i := 0) rfl
  have c1 := r0.cell (i := 1) rfl
  clear hb
  go_wp2_with fail
  refine (t2 _ hw z2).mono ?_
  rintro e w6 ⟨rfl, hb⟩
  clear c0 c1
  replace r0 := row_below r0 hb r0.lt
  replace hw := (hw.below hb).mono hb.size
  replace z1 := z1.step hb
  replace z2 := z2.step hb
  replace z3 := z3.step hb
  replace z4 := z4.step hb
  replace z5 := z5.step hb
  replace z6 := z6.step hb
  replace hT := hT.below hb hg
  replace hg := Nat.lt_of_lt_of_le hg hb.size
  replace hB := hB.trans (hb.mono hB.size)
  have c0 := r0.cell (i := 0) rfl
  have c1 := r0.cell (i := 1) rfl
  clear hb
  go_wp2_with fail
  refine (t3 _ hw z3).mono ?_
  rintro e w7 ⟨rfl, hb⟩
  clear c0 c1
  replace r0 := row_below r0 hb r0.lt
  replace hw := (hw.below hb).mono hb.size
  replace z1 := z1.step hb
  replace z2 := z2.step hb
  replace z3 := z3.step hb
  replace z4 := z4.step hb
  replace z5 := z5.step hb
  replace z6 := z6.step hb
  replace hT := hT.below hb hg
  replace hg := Nat.lt_of_lt_of_le hg hb.size
  replace hB := hB.trans (hb.mono hB.size)
  have c0 := r0.cell (i := 0) rfl
  have c1 := r0.cell (i := 1) rfl
  clear hb
  go_wp2_with fail
  refine (ka _ _ _ hT hw z4 z3 hg).mono ?_
  rintro e w8 ⟨p4, rfl, hp, hb, hr⟩
  clear c0 c1
  replace r0 := row_below r0 hb r0.lt
  replace hw := (hw.below hb).mono hb.size
  replace z1 := z1.step hb
  replace z2 := z2.step hb
  replace z3 := z3.step hb
  replace z4 := z4.step hb
  replace z5 := z5.step hb
  replace z6 := z6.step hb
  replace hT := hT.below hb hg
  replace hg := Nat.lt_of_lt_of_le hg hb.size
  replace hB := hB.trans (hb.mono hB.size)
  have c0 := r0.cell (i := 0) rfl
  have c1 := r0.cell (i := 1) rfl
  have z7 := hr.b hr.lt
  clear hr hp
  clear hb
  go_wp2_with fail
  refine (kb _ _ _ hT hw z1 z5 hg).mono ?_
  rintro e w9 ⟨p5, rfl, hp, hb, hr⟩
  clear c0 c1
  replace r0 := row_below r0 hb r0.lt
  replace hw := (hw.below hb).mono hb.size
  replace z1 := z1.step hb
  replace z2 := z2.step hb
  replace z3 := z3.step hb
  replace z4 := z4.step hb
  replace z5 := z5.step hb
  replace z6 := z6.step hb
  replace z7 := z7.step hb
  replace hT := hT.below hb hg
  replace hg := Nat.lt_of_lt_of_le hg hb.size
  replace hB := hB.trans (hb.mono hB.size)
  have c0 := r0.cell (i := 0) rfl
  have c1 := r0.cell (i := 1) rfl
  have z8 := hr.b hr.lt
  clear hr hp
  clear hb
  clear ks k12 k23 k13 t1 t2 t3 ka kb
  go_wp2_with fail
  have hst : OrdSt w n a cap w9 := ⟨hB, r0⟩
  clear c0 c1
  have zz1 := z1.step (Below.refl _ _).drew
  have zz2 := z2.step (Below.refl _ _).drew
  have zz3 := z3.step (Below.refl _ _).drew
  have hTd : TabAt w9.drew := hT
  have hgd : 0 < w9.drew.heap.size := hg
  have hwd : IsWords w9.drew.heap.size w9.drew a us := (hw.below (Below.refl _ _).drew).mono (Nat.le_refl w9.heap.size)
  go_region_held3 (fun V => V.cell? ⟨w.heap.size, 0, none⟩ = some (.int .i64 n) ∧ V.cell? ⟨w.heap.size, 1, none⟩ = some (.slice a n cap) ∧ OrdSt w n a cap V) ((go_split_ands; first | exact OrdSt.all hst | exact OrdSt.all hst.drew | exact OrdSt.all (by assumption) | exact OrdSt.all (OrdSt.keep hx1 (by assumption)) | exact OrdSt.all (OrdSt.keep hx2 (by assumption)) | fail))
    (first
      | (go_at_call 32; with_reducible refine (kadd _ zz2 zz3).mono ?_; rintro e X1 ⟨av, cv, rfl, hx1, hr1⟩)
      | (go_at_call 20; with_reducible refine (kc _ _ _ (hTd.below hx1 hgd) ((hwd.below hx1).mono hx1.size) (zz1.step hx1) (ownsRow_b hr1) (Nat.lt_of_lt_of_le hgd hx1.size)).mono ?_; rintro e Y1 ⟨p6, rfl, hp6, hx2, hr2⟩))
  go_split_ands
  have hb : Below w9.heap.size w9 Y1 := (Below.refl _ w9).drew.trans (hx1.trans (hx2.mono hx1.size))
  clear hst zz1 zz2 zz3 hTd hwd hgd
  have c0 := r0.cell (i := 0) rfl
  have c1 := r0.cell (i := 1) rfl
  clear c0 c1
  replace r0 := row_below r0 hb r0.lt
  replace hw := (hw.below hb).mono hb.size
  replace z1 := z1.step hb
  replace z2 := z2.step hb
  replace z3 := z3.step hb
  replace z4 := z4.step hb
  replace z5 := z5.step hb
  replace z6 := z6.step hb
  replace z7 := z7.step hb
  replace z8 := z8.step hb
  replace hT := hT.below hb hg
  replace hg := Nat.lt_of_lt_of_le hg hb.size
  replace hB := hB.trans (hb.mono hB.size)
  have c0 := r0.cell (i := 0) rfl
  have c1 := r0.cell (i := 1) rfl
  have z9 := hr2.b hr2.lt
  clear hb hx1 hx2 hr2 hr1 hp6
  go_wp2_with fail
  have hst : OrdSt w n a cap Y1 := ⟨hB, r0⟩
  clear c0 c1
  have zz1 := z1.step (Below.refl _ _).drew
  have zz2 := z2.step (Below.refl _ _).drew
  have zz3 := z3.step (Below.refl _ _).drew
  have hTd : TabAt Y1.drew := hT
  have hgd : 0 < Y1.drew.heap.size := hg
  have hwd : IsWords Y1.drew.heap.size Y1.drew a us := (hw.below (Below.refl _ _).drew).mono (Nat.le_refl Y1.heap.size)
  go_region_held3 (fun V => V.cell? ⟨w.heap.size, 0, none⟩ = some (.int .i64 n) ∧ V.cell? ⟨w.heap.size, 1, none⟩ = some (.slice a n cap) ∧ OrdSt w n a cap V) ((go_split_ands; first | exact OrdSt.all hst | exact OrdSt.all hst.drew | exact OrdSt.all (by assumption) | exact OrdSt.all (OrdSt.keep hx1 (by assumption)) | exact OrdSt.all (OrdSt.keep hx2 (by assumption)) | fail))
    (first
      | (go_at_call 33; with_reducible refine (kone _).mono ?_; rintro e X2 ⟨q7, rfl, hq7, hx1, hr1⟩)
      | (go_at_call 20; with_reducible refine (kd _ _ _ (hTd.below hx1 hgd) ((hwd.below hx1).mono hx1.size) (zz1.step hx1) (hr1.b hr1.lt) (Nat.lt_of_lt_of_le hgd hx1.size)).mono ?_; rintro e Y2 ⟨p7, rfl, hp7, hx2, hr2⟩))
  go_split_ands
  have hb : Below Y1.heap.size Y1 Y2 := (Below.refl _ Y1).drew.trans (hx1.trans (hx2.mono hx1.size))
  clear hst zz1 zz2 zz3 hTd hwd hgd
  have c0 := r0.cell (i := 0) rfl
  have c1 := r0.cell (i := 1) rfl
  clear c0 c1
  replace r0 := row_below r0 hb r0.lt
  replace hw := (hw.below hb).mono hb.size
  replace z1 := z1.step hb
  replace z2 := z2.step hb
  replace z3 := z3.step hb
  replace z4 := z4.step hb
  replace z5 := z5.step hb
  replace z6 := z6.step hb
  replace z7 := z7.step hb
  replace z8 := z8.step hb
  replace z9 := z9.step hb
  replace hT := hT.below hb hg
  replace hg := Nat.lt_of_lt_of_le hg hb.size
  replace hB := hB.trans (hb.mono hB.size)
  have c0 := r0.cell (i := 0) rfl
  have c1 := r0.cell (i := 1) rfl
  have z10 := hr2.b hr2.lt
  clear hb hx1 hx2 hr2 hr1 hp7 hq7
  go_wp2_with fail
  have hst : OrdSt w n a cap Y2 := ⟨hB, r0⟩
  clear c0 c1
  have zz1 := z1.step (Below.refl _ _).drew
  have zz2 := z2.step (Below.refl _ _).drew
  have zz3 := z3.step (Below.refl _ _).drew
  have hTd : TabAt Y2.drew := hT
  have hgd : 0 < Y2.drew.heap.size := hg
  have hwd : IsWords Y2.drew.heap.size Y2.drew a us := (hw.below (Below.refl _ _).drew).mono (Nat.le_refl Y2.heap.size)
  go_region_held3 (fun V => V.cell? ⟨w.heap.size, 0, none⟩ = some (.int .i64 n) ∧ V.cell? ⟨w.heap.size, 1, none⟩ = some (.slice a n cap) ∧ OrdSt w n a cap V) ((go_split_ands; first | exact OrdSt.all hst | exact OrdSt.all hst.drew | exact OrdSt.all (by assumption) | exact OrdSt.all (OrdSt.keep hx1 (by assumption)) | exact OrdSt.all (OrdSt.keep hx2 (by assumption)) | fail))
    (first
      | (go_at_call 33; with_reducible refine (kone _).mono ?_; rintro e X3 ⟨q8, rfl, hq8, hx1, hr1⟩)
      | (go_at_call 20; with_reducible refine (ke _ _ _ (hTd.below hx1 hgd) ((hwd.below hx1).mono hx1.size) (hr1.b hr1.lt) (zz1.step hx1) (Nat.lt_of_lt_of_le hgd hx1.size)).mono ?_; rintro e Y3 ⟨p8, rfl, hp8, hx2, hr2⟩))
  go_split_ands
  have hb : Below Y2.heap.size Y2 Y3 := (Below.refl _ Y2).drew.trans (hx1.trans (hx2.mono hx1.size))
  clear hst zz1 zz2 zz3 hTd hwd hgd
  have c0 := r0.cell (i := 0) rfl
  have c1 := r0.cell (i := 1) rfl
  clear c0 c1
  replace r0 := row_below r0 hb r0.lt
  replace hw := (hw.below hb).mono hb.size
  replace z1 := z1.step hb
  replace z2 := z2.step hb
  replace z3 := z3.step hb
  replace z4 := z4.step hb
  replace z5 := z5.step hb
  replace z6 := z6.step hb
  replace z7 := z7.step hb
  replace z8 := z8.step hb
  replace z9 := z9.step hb
  replace z10 := z10.step hb
  replace hT := hT.below hb hg
  replace hg := Nat.lt_of_lt_of_le hg hb.size
  replace hB := hB.trans (hb.mono hB.size)
  have c0 := r0.cell (i := 0) rfl
  have c1 := r0.cell (i := 1) rfl
  have z11 := hr2.b hr2.lt
  clear hb hx1 hx2 hr2 hr1 hp8 hq8
  go_wp2_with fail
  refine (Longs_same _ _ _ _ A (n * n) _ hlA (by omega) _ z7 z8 (Nat.le_refl _)).mono ?_
  rintro e w13 ⟨rfl, hb⟩
  clear c0 c1
  replace r0 := row_below r0 hb r0.lt
  replace hw := (hw.below hb).mono hb.size
  replace z1 := z1.step hb
  replace z2 := z2.step hb
  replace z3 := z3.step hb
  replace z4 := z4.step hb
  replace z5 := z5.step hb
  replace z6 := z6.step hb
  replace z7 := z7.step hb
  replace z8 := z8.step hb
  replace z9 := z9.step hb
  replace z10 := z10.step hb
  replace z11 := z11.step hb
  replace hT := hT.below hb hg
  replace hg := Nat.lt_of_lt_of_le hg hb.size
  replace hB := hB.trans (hb.mono hB.size)
  have c0 := r0.cell (i := 0) rfl
  have c1 := r0.cell (i := 1) rfl
  clear hb
  go_wp2_with fail
  refine (kad2 _ _ _ _ _ z4 z6).mono ?_
  rintro e w14 ⟨av2, cv2, rfl, hb, hown⟩
  clear c0 c1
  replace r0 := row_below r0 hb r0.lt
  replace hw := (hw.below hb).mono hb.size
  replace z1 := z1.step hb
  replace z2 := z2.step hb
  replace z3 := z3.step hb
  replace z4 := z4.step hb
  replace z5 := z5.step hb
  replace z6 := z6.step hb
  replace z7 := z7.step hb
  replace z8 := z8.step hb
  replace z9 := z9.step hb
  replace z10 := z10.step hb
  replace z11 := z11.step hb
  replace hT := hT.below hb hg
  replace hg := Nat.lt_of_lt_of_le hg hb.size
  replace hB := hB.trans (hb.mono hB.size)
  have c0 := r0.cell (i := 0) rfl
  have c1 := r0.cell (i := 1) rfl
  have z12 := ownsRow_b hown
  clear hown
  clear hb
  go_wp2_with fail
  refine (Longs_same _ _ _ _ C (n * n) _ hlC (by omega) _ z9 z12 (Nat.le_refl _)).mono ?_
  rintro e w15 ⟨rfl, hb⟩
  clear c0 c1
  replace r0 := row_below r0 hb r0.lt
  replace hw := (hw.below hb).mono hb.size
  replace z1 := z1.step hb
  replace z2 := z2.step hb
  replace z3 := z3.step hb
  replace z4 := z4.step hb
  replace z5 := z5.step hb
  replace z6 := z6.step hb
  replace z7 := z7.step hb
  replace z8 := z8.step hb
  replace z9 := z9.step hb
  replace z10 := z10.step hb
  replace z11 := z11.step hb
  replace z12 := z12.step hb
  replace hT := hT.below hb hg
  replace hg := Nat.lt_of_lt_of_le hg hb.size
  replace hB := hB.trans (hb.mono hB.size)
  have c0 := r0.cell (i := 0) rfl
  have c1 := r0.cell (i := 1) rfl
  clear hb
  go_wp2_with fail
  refine (Longs_same _ _ _ _ l1 (n * n) _ hl1 (by omega) _ z10 z1 (Nat.le_refl _)).mono ?_
  rintro e w16 ⟨rfl, hb⟩
  clear c0 c1
  replace r0 := row_below r0 hb r0.lt
  replace hw := (hw.below hb).mono hb.size
  replace z1 := z1.step hb
  replace z2 := z2.step hb
  replace z3 := z3.step hb
  replace z4 := z4.step hb
  replace z5 := z5.step hb
  replace z6 := z6.step hb
  replace z7 := z7.step hb
  replace z8 := z8.step hb
  replace z9 := z9.step hb
  replace z10 := z10.step hb
  replace z11 := z11.step hb
  replace z12 := z12.step hb
  replace hT := hT.below hb hg
  replace hg := Nat.lt_of_lt_of_le hg hb.size
  replace hB := hB.trans (hb.mono hB.size)
  have c0 := r0.cell (i := 0) rfl
  have c1 := r0.cell (i := 1) rfl
  clear hb
  go_wp2_with fail
  refine (Longs_same _ _ _ _ l1 (n * n) _ hl1 (by omega) _ z11 z1 (Nat.le_refl _)).mono ?_
  rintro e w17 ⟨rfl, hb⟩
  clear c0 c1
  replace r0 := row_below r0 hb r0.lt
  replace hw := (hw.below hb).mono hb.size
  replace z1 := z1.step hb
  replace z2 := z2.step hb
  replace z3 := z3.step hb
  replace z4 := z4.step hb
  replace z5 := z5.step hb
  replace z6 := z6.step hb
  replace z7 := z7.step hb
  replace z8 := z8.step hb
  replace z9 := z9.step hb
  replace z10 := z10.step hb
  replace z11 := z11.step hb
  replace z12 := z12.step hb
  replace hT := hT.below hb hg
  replace hg := Nat.lt_of_lt_of_le hg hb.size
  replace hB := hB.trans (hb.mono hB.size)
  have c0 := r0.cell (i := 0) rfl
  have c1 := r0.cell (i := 1) rfl
  clear hb
  go_wp2_with fail
  go_ret
  exact ⟨rfl, hB⟩

theorem malg_ok (n : Nat) (a : Option Addr) (cap : Nat) (us : List Nat) (a1 : Option Addr) (c1_ : Nat) (l1 : List B64) (a2 : Option Addr) (c2_ : Nat) (l2 : List B64) (a3 : Option Addr) (c3_ : Nat) (l3 : List B64) (n₀ : Nat) (hn : n = us.length) (hf : Fit us) (w : World) (hT : TabAt w) (hw : IsWords n₀ w a us) (z1 : ZInts n₀ w a1 (tiL l1)) (z2 : ZInts n₀ w a2 (tiL l2)) (z3 : ZInts n₀ w a3 (tiL l3)) (hg : 0 < n₀) (hn₀ : n₀ ≤ w.heap.size) (hc : codeOf n us = 0) :
    Calls Tryd.prog 8 #[.agg #[.int .i64 n, .slice a n cap], .slice a1 l1.length c1_, .slice a2 l2.length c2_, .slice a3 l3.length c3_] w fun e w' => e = .returned (.bool true) ∧ Below w.heap.size w w' := by
  by_cases h : IsTab us l1 ∧ IsTab us l2 ∧ IsTab us l3
  · exact malg_tab n a cap us a1 c1_ l1 a2 c2_ l2 a3 c3_ l3 n₀ hn hf w hT hw z1 z2 z3 hg hn₀ hc h.1 h.2.1 h.2.2
  · exact malg_none n a cap us a1 c1_ l1 a2 c2_ l2 a3 c3_ l3 n₀ hn hf w hT hw z1 z2 z3 hg hn₀ hc h
/-- **MobiusAlgebra answers true, for every order and any numbers, and writes nothing that was there** -/
theorem malg_any (n : Int) (a : Option Addr) (cap : Nat) (us : List Nat) (a1 : Option Addr) (c1_ : Nat) (l1 : List B64) (a2 : Option Addr) (c2_ : Nat) (l2 : List B64) (a3 : Option Addr) (c3_ : Nat) (l3 : List B64) (n₀ : Nat) (hf : Fit us) (_lz1 : l1.length ≤ 9223372036854775807) (_lz2 : l2.length ≤ 9223372036854775807) (_lz3 : l3.length ≤ 9223372036854775807) (w : World) (hT : TabAt w) (hw : IsWords n₀ w a us) (z1 : ZInts n₀ w a1 (tiL l1)) (z2 : ZInts n₀ w a2 (tiL l2)) (z3 : ZInts n₀ w a3 (tiL l3)) (hg : 0 < n₀) (hn₀ : n₀ ≤ w.heap.size) :
    Calls Tryd.prog 8 #[.agg #[.int .i64 n, .slice a us.length cap], .slice a1 l1.length c1_, .slice a2 l2.length c2_, .slice a3 l3.length c3_] w fun e w' => e = .returned (.bool true) ∧ Below w.heap.size w w' := by
  by_cases hc : codeOf n us = 0
  · obtain rfl := (code_zero hc).2.2.1
    exact malg_ok us.length a cap us a1 c1_ l1 a2 c2_ l2 a3 c3_ l3 n₀ rfl hf w hT hw z1 z2 z3 hg hn₀ hc
  · exact malg_bad n a cap us a1 c1_ l1 a2 c2_ l2 a3 c3_ l3 n₀ hf w hT hw z1 z2 z3 hg hn₀ hc
end Go.Proofs.YtilffmalkegioaaDoor
