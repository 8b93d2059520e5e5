/- The contract of the program's reached: for each element what is come to from it, by any number of pairs. -/
import Derived.Test.YtbdigkjahfdmjaaDoorCome
import Derived.StillTailTactics
import Derived.WalkKit
import Derived.Laws.EntriesVeiled
namespace Go.Proofs.YtbdigkjahfdmjaaDoor
open Go.RowKit Go.Shelf

def zp (ps : List (Int × Int)) (i : Nat) : Int × Int := ps.getD i (0, 0)
/-- a slice over pairs, whatever numbers they have -/
def ZPairs (n₀ : Nat) (W : World) (a : Option Addr) (ps : List (Int × Int)) : Prop :=
  ps = [] ∨ ∃ b off, a = some ⟨b, off, none⟩ ∧ b < n₀ ∧ ∀ i, i < ps.length → W.cell? ⟨b, off + i * 2, none⟩ = some (.int .i64 (zp ps i).1) ∧ W.cell? ⟨b, off + i * 2 + 1, none⟩ = some (.int .i64 (zp ps i).2)
theorem ZPairs.below {n₀ : Nat} {A B : World} {a : Option Addr} {l : List (Int × Int)} (h : ZPairs n₀ A a l) (hb : Below n₀ A B) : ZPairs n₀ B a l := by
  rcases h with h | ⟨b, off, h1, h2, h3⟩
  · exact .inl h
  · exact .inr ⟨b, off, h1, h2, fun i hi => ⟨(hb.cell (p := ⟨b, off + i * 2, none⟩) h2).trans (h3 i hi).1, (hb.cell (p := ⟨b, off + i * 2 + 1, none⟩) h2).trans (h3 i hi).2⟩⟩
theorem ZPairs.at {n₀ : Nat} {A : World} {a : Option Addr} {l : List (Int × Int)} (h : ZPairs n₀ A a l) {i : Nat} (hi : i < l.length) :
    ∃ b off, a = some ⟨b, off, none⟩ ∧ b < n₀ ∧ A.cell? ⟨b, off + i * 2, none⟩ = some (.int .i64 (zp l i).1) ∧ A.cell? ⟨b, off + i * 2 + 1, none⟩ = some (.int .i64 (zp l i).2) := by
  rcases h with h | ⟨b, off, h1, h2, h3⟩
  · subst h; simp at hi
  · exact ⟨b, off, h1, h2, (h3 i hi).1, (h3 i hi).2⟩
/-- both numbers of the pair are elements -/
def PairIn (n : Nat) (p : Int × Int) : Prop := 0 ≤ p.1 ∧ p.1 < (n : Int) ∧ 0 ≤ p.2 ∧ p.2 < (n : Int)
/-- nx has the steps of the first k pairs -/
structure NxTo (ps : List (Int × Int)) (n k : Nat) (nx : List Nat) : Prop where
  len : nx.length = n
  fit : Fit nx
  has : ∀ i z, hasB (wd nx i) z = true ↔ ∃ j, j < k ∧ j < ps.length ∧ (zp ps j).1 = (i : Int) ∧ (zp ps j).2 = (z : Int)
theorem NxTo.start (ps : List (Int × Int)) (n : Nat) : NxTo ps n 0 (List.replicate n 0) :=
  ⟨by simp, fun i => by rw [wd_replicate]; decide, fun i z => by rw [wd_replicate, hasB_zero]; simp⟩
theorem NxTo.step {ps : List (Int × Int)} {n k : Nat} {nx : List Nat} (h : NxTo ps n k nx) (hk : k < ps.length) {a b : Nat} (ha : (zp ps k).1 = (a : Int)) (hb : (zp ps k).2 = (b : Int)) (han : a < n) (hbn : b < 32) : NxTo ps n (k + 1) (nx.set a (orW (wd nx a) (bitW b))) := by
  have hal : a < nx.length := by rw [h.len]; exact han
  refine ⟨by rw [List.length_set]; exact h.len, fun i => ?_, fun i z => ?_⟩
  · rw [wd_set hal]; split
    · exact orW_lt (h.fit a) (bitW_lt hbn)
    · exact h.fit i
  · rw [wd_set hal]
    constructor
    · split
      · rename_i e
        subst e
        rw [hasB_or, hasB_bitW, Bool.or_eq_true]
        rintro (g | g)
        · obtain ⟨j, h1, h2, h3⟩ := (h.has a z).1 g
          exact ⟨j, by omega, h2, h3⟩
        · simp at g; subst g; exact ⟨k, by omega, hk, ha, hb⟩
      · intro g
        obtain ⟨j, h1, h2, h3⟩ := (h.has i z).1 g
        exact ⟨j, by omega, h2, h3⟩
    · rintro ⟨j, h1, h2, h3, h4⟩
      by_cases e : j = k
      · subst e
        have e1 : a = i := by omega
        have e2 : b = z := by omega
        subst e1; subst e2
        rw [if_pos rfl, hasB_or, hasB_bitW]; simp
      · have g := (h.has i z).2 ⟨j, by omega, h2, h3, h4⟩
        split
        · rename_i e'; subst e'; rw [hasB_or, g]; rfl
        · exact g

theorem below_two {n : Nat} {w W : World} (h : Below n w W) (hs : n ≤ W.heap.size) (o1 o2 : Obj) : Below n w ((W.alloc o1).alloc o2) := (h.alloc hs o1).alloc (by simp; omega) o2
theorem row_new2 (W : World) (o : Obj) (t : TypeId) (vs : List Value) : Row ((W.alloc o).alloc (.cells vs.toArray t)) (W.heap.size + 1) t vs := by
  have := Row.new (W.alloc o) t vs
  rw [World.size_alloc] at this
  exact this
theorem cell_new2 (W : World) (u : Value) (t : TypeId) (o : Obj) : ((W.alloc (.cells #[u] t)).alloc o).cell? ⟨W.heap.size, 0, none⟩ = some u := ((Boxed.new W t u).alloc o).cell
theorem cell_otherAt {W : World} {B b i : Nat} {u v : Value} (h : W.cell? ⟨B, 0, none⟩ = some u) (hl : B < W.heap.size) (hne : B ≠ b) : (W.setCell ⟨b, i, none⟩ v).cell? ⟨B, 0, none⟩ = some u := by
  have hb := (grownBy_setCellAt W b i v).block B hl (fun e => hne (by cases e; rfl))
  unfold World.cell? at *
  rw [hb]; exact h

set_option maxRecDepth 100000 in
set_option maxHeartbeats 1000000 in
theorem reached_any (n : Nat) (a : Option Addr) (cap : Nat) (ps : List (Int × Int)) (n₀ : Nat) (hn : n ≤ 16) (h63 : ps.length ≤ 256) (hin : ∀ i, i < ps.length → PairIn n (zp ps i)) (w : World) (hT : TabAt w) (hw : ZPairs n₀ w a ps) (hg : 0 < n₀) (hn₀ : n₀ ≤ w.heap.size) :
    Calls Tryd.prog 29 #[.int .i64 n, .slice a ps.length cap] w fun e w' => ∃ B up nx, e = .returned (.slice (some ⟨B, 0, none⟩) n n) ∧ Below w.heap.size w w' ∧ w.heap.size ≤ B ∧ Row w' B 36 (wvals up) ∧ up.length = n ∧ Fit up ∧ NxTo ps n ps.length nx ∧ ∀ i, i < n → ∀ z, hasB (wd up i) z = true ↔ Reach nx i z := by
  have hmk := run_make_row' (P := Tryd.prog) 23 36 (.int .u32 0) 4 Tryd.underlying23 info_u32 rfl .i64 .i64 n (by omega) (by omega)
  have r1 := Row.new w 36 (wvals (List.replicate n 0))
  rw [← wvals_replicate] at r1
  have b1 := Boxed.new (w.alloc (.cells (madeCells #[Value.int .u32 0] n) 36)) 23 (.slice (some ⟨w.heap.size, 0, none⟩) n n)
  rw [World.size_alloc] at b1
  go_enter Tryd.func29, Tryd.ntmps29
  go_wp2
  go_loopw [15] (fun i wr => ∃ (k : Nat) (nx : List Nat), k ≤ ps.length ∧ i = .int .i64 k ∧ NxTo ps n k nx ∧ Row wr w.heap.size 36 (wvals nx) ∧ Boxed wr (w.heap.size + 1) 23 (.slice (some ⟨w.heap.size, 0, none⟩) n n) ∧ Below w.heap.size w wr) (fun i _ => ps.length - (intOf i).toNat)
  case atStart => exact ⟨0, _, Nat.zero_le _, rfl, NxTo.start ps n, r1.alloc _, b1, ((Below.refl _ _).alloc (Nat.le_refl _) _).alloc (by simp) _⟩
  case round =>
    obtain ⟨k, nx, hk, rfl, hNx, rN, bN, hB⟩ := hrel
    by_cases hlt : k < ps.length
    · obtain ⟨p1, p2, p3, p4⟩ := hin k hlt
      obtain ⟨x, hx⟩ : ∃ x : Nat, (zp ps k).1 = (x : Int) := ⟨(zp ps k).1.toNat, by omega⟩
      obtain ⟨y, hy⟩ : ∃ y : Nat, (zp ps k).2 = (y : Int) := ⟨(zp ps k).2.toNat, by omega⟩
      obtain ⟨b, off, rfl, hb, cA, cB⟩ := (hw.below (hB.mono hn₀)).at hlt
      have HS := hide (hNx.step hlt hx hy (by omega) (by omega))
      rw [hx] at cA
      rw [hy] at cB
      have hxn : x < n := by omega
      have hyn : y < n := by omega
      have cN := bN.cell
      have cX := rN.cell (i := x) (wvals_at (by rw [hNx.len]; exact hxn))
      have fX := rN.frozen x
      have hsz := hB.size
      have hor := bits_or32 (wd nx x) (bitW y) (hNx.fit x) (bitW_lt (by omega))
      have ltN := bN.lt
      clear hx hy p1 p2 p3 p4 hmk
      go_wp2
      have rP := Row.new wr 33 [.int .i64 (x : Nat), .int .i64 (y : Nat)]
      have rN2 := rN.alloc (.cells #[.int .i64 (x : Nat), .int .i64 (y : Nat)] 33)
      have bN2 := bN.alloc (.cells #[.int .i64 (x : Nat), .int .i64 (y : Nat)] 33)
      have hB2 := hB.alloc hsz (.cells #[.int .i64 (x : Nat), .int .i64 (y : Nat)] 33)
      clear cA cB cN cX fX rN bN hB r1 b1
      obtain ⟨V, hV⟩ : ∃ V, wr.alloc (.cells #[.int .i64 (x : Nat), .int .i64 (y : Nat)] 33) = V := ⟨_, rfl⟩
      rw [show (wr.alloc (.cells [.int .i64 (x : Nat), .int .i64 (y : Nat)].toArray 33)) = V from hV] at rP
      rw [hV] at rN2 bN2 hB2 ⊢
      clear hV
      have c0 := rP.cell (i := 0) rfl
      have c1 := rP.cell (i := 1) rfl
      have cN := bN2.cell
      have cX := rN2.cell (i := x) (wvals_at (by rw [hNx.len]; exact hxn))
      have fX := rN2.frozen x
      refine wp_region_still_tail 9 (by kernel_rfl) (by kernel_rfl) ?_
      simp only [List.take_succ_cons, List.take_zero, List.drop_succ_cons, List.drop_zero]
      repeat (first | still_step | still_call (bit_any y (by omega) _))
      refine wpStill_nil ?_
      show wpList _ _ _ _ _ _
      go_wp2
      have rN3 := rN2.set x (.int .u32 (orW (wd nx x) (bitW y) : Nat))
      rw [wvals_set] at rN3
      exact ⟨⟨k + 1, _, by omega, by go_num, HS.out, rN3, boxed_otherAt bN2 (by omega) _ _, (hB2.setCell (p := ⟨w.heap.size, x, none⟩) (Nat.le_refl _) _).drew⟩, by simp [intOf]; omega⟩
    · obtain rfl : k = ps.length := by omega
      have cN := bN.cell
      have hsz := hB.size
      have ltN := bN.lt
      clear r1 b1
      obtain ⟨U, hU⟩ : ∃ U, U = wr := ⟨_, rfl⟩
      subst hU
      have ltR := rN.lt
      go_wp2
      go_loopw [35] (fun i W => ∃ (k : Nat) (up : List Nat), k ≤ n ∧ i = .int .i64 k ∧ up.length = n ∧ Fit up ∧ (∀ i, i < k → ∀ z, hasB (wd up i) z = true ↔ Reach nx i z) ∧ Row W (U.heap.size + 1) 36 (wvals up) ∧ W.cell? ⟨U.heap.size, 0, none⟩ = some (.func (.func 49) #[] #[.pointer (some ⟨w.heap.size + 1, 0, none⟩), .pointer (some ⟨U.heap.size, 0, none⟩)]) ∧ Row W w.heap.size 36 (wvals nx) ∧ W.cell? ⟨w.heap.size + 1, 0, none⟩ = some (.slice (some ⟨w.heap.size, 0, none⟩) n n) ∧ Below w.heap.size w W) (fun i _ => n - (intOf i).toNat)
      case atStart =>
        exact ⟨0, List.replicate n 0, Nat.zero_le _, rfl, by simp, fun i => by rw [wd_replicate]; decide, fun i hi => by omega, by rw [wvals_replicate]; exact row_new2 _ _ _ _, cell_new2 _ _ _ _, (rN.alloc _).alloc _, ((bN.alloc _).alloc _).cell, below_two hB hsz _ _⟩
      case round =>
        clear rN bN hB cN hmk
        obtain ⟨k, up, hk, rfl, hul, hfu, hup, rU, cC, rN, cN, hB⟩ := hrel
        have ltU := rU.lt
        by_cases hlt : k < n
        · have hcome := come_any (w.heap.size + 1) U.heap.size (some ⟨w.heap.size, 0, none⟩) n nx (U.heap.size + 1) hNx.fit (fun i hi j _ hj => by
              rw [hNx.len]
              obtain ⟨q, _, hq, _, hq2⟩ := (hNx.has i j).1 hj
              have := (hin q hq).2.2.2
              omega) (by rw [hNx.len]; exact hn) (by omega) (by omega) (by omega) _ k 0 wr (by rw [hNx.len]; exact hlt) (by omega) (hasB_zero k) (Nat.le_refl _) (hT.below hB (by omega)) (rN.words (by omega)) (by omega) (by rw [hNx.len]; exact cN) cC
          have hcome' : Calls Tryd.prog 49 #[.int .i64 (k : Nat), .int .u32 0, .pointer (some ⟨w.heap.size + 1, 0, none⟩), .pointer (some ⟨U.heap.size, 0, none⟩)] wr fun e w' => ∃ s : Nat, e = .returned (.int .u32 (s : Nat)) ∧ Below wr.heap.size wr w' ∧ Dfs nx k 0 s := hcome
          clear hcome
          go_wp2_with (go_at_call 49; refine hcome'.mono ?_; rintro e w4 ⟨s, rfl, hb4, hd4⟩; have rU4 := row_below rU hb4 ltU; have fU4 := rU4.frozen k; have cU4 := rU4.cell (i := k) (wvals_at (by rw [hul]; exact hlt)))
          have hs4 := hb4.size
          have rU5 := rU4.set k (.int .u32 (s : Nat))
          rw [wvals_set] at rU5
          have hkl : k < up.length := by rw [hul]; exact hlt
          exact ⟨⟨k + 1, up.set k s, by omega, by go_num, by simp [hul], fun i => by
            rw [wd_set hkl]; split
            · exact hd4.lt
            · exact hfu i, fun i hi z => by
            rw [wd_set hkl]; split
            · rename_i e; subst e; exact hd4.all z
            · exact hup i (by omega) z, rU5, cell_otherAt ((hb4.cell (p := ⟨U.heap.size, 0, none⟩) (by simp; omega)).trans cC) (by omega) (by omega), (row_below rN hb4 (by omega)).other (by omega) _ _, cell_otherAt ((hb4.cell (p := ⟨w.heap.size + 1, 0, none⟩) (by simp; omega)).trans cN) (by omega) (by omega), (hB.trans (hb4.mono (by omega))).setCell (p := ⟨U.heap.size + 1, k, none⟩) (by simp; omega) _⟩, by simp [intOf]; omega⟩
        · obtain rfl : k = n := by omega
          go_wp2
          go_ret
          exact ⟨_, up, nx, rfl, hB, by omega, rU, hul, hfu, hNx, hup⟩
end Go.Proofs.YtbdigkjahfdmjaaDoor
