/- The contract of the program's Of: the least order that has the pairs, or why there is none. -/
import Derived.Test.YtbdigkjahfdmjaaDoorReached
import Derived.Test.YtbdigkjahfdmjaaDoorMayBe
import Derived.Test.YtbdigkjahfdmjaaDoorOwns
namespace Go.Proofs.YtbdigkjahfdmjaaDoor
open Go.RowKit Go.Shelf

def ofErr (c : Int) : Ending := .returned (.tuple #[.agg #[.int .i64 0, .slice none 0 0], .int .i64 c])
def OfLarge (n : Int) (ps : List (Int × Int)) : Prop := n < 0 ∨ 16 < n ∨ 256 < ps.length
/-- how Of ends -/
def OfEnd (n : Int) (ps : List (Int × Int)) (B₀ : Nat) (e : Ending) (w' : World) : Prop :=
  (OfLarge n ps ∧ e = ofErr 1) ∨
  (¬ OfLarge n ps ∧ (∃ k, k < ps.length ∧ ¬ PairIn n.toNat (zp ps k)) ∧ e = ofErr 2) ∨
  (¬ OfLarge n ps ∧ (∀ k, k < ps.length → PairIn n.toNat (zp ps k)) ∧ ∃ nx up, NxTo ps n.toNat ps.length nx ∧ up.length = n.toNat ∧ Fit up ∧ (∀ i, i < n.toNat → ∀ z, hasB (wd up i) z = true ↔ Reach nx i z) ∧
    ((isOrdB up = false ∧ e = ofErr 4) ∨ (isOrdB up = true ∧ ∃ B, B₀ ≤ B ∧ e = .returned (.tuple #[.agg #[.int .i64 n, .slice (some ⟨B, 0, none⟩) n.toNat n.toNat], .int .i64 0]) ∧ Row w' B 36 (wvals up))))
/-- what is come to is an element -/
theorem reach_in {ps : List (Int × Int)} {n : Nat} {nx : List Nat} (h : NxTo ps n ps.length nx) (hin : ∀ k, k < ps.length → PairIn n (zp ps k)) {i z : Nat} (hi : i < n) (hr : Reach nx i z) : z < n := by
  induction hr with
  | here x => exact hi
  | step x y z h1 _ ih =>
    obtain ⟨q, _, hq, _, hq2⟩ := (h.has x y).1 h1
    have := (hin q hq).2.2.2
    exact ih (by omega)
theorem up_inside {ps : List (Int × Int)} {n : Nat} {nx up : List Nat} (h : NxTo ps n ps.length nx) (hin : ∀ k, k < ps.length → PairIn n (zp ps k)) (hl : up.length = n) (hu : ∀ i, i < n → ∀ z, hasB (wd up i) z = true ↔ Reach nx i z) : Inside up := fun i hi j _ hj => by
  rw [hl] at hi ⊢
  exact reach_in h hin hi ((hu i hi j).1 hj)

set_option maxRecDepth 100000 in
set_option maxHeartbeats 1000000 in
theorem Of_large (n : Int) (a : Option Addr) (cap : Nat) (ps : List (Int × Int)) (w : World) (hL : OfLarge n ps) :
    Calls Tryd.prog 9 #[.int .i64 n, .slice a ps.length cap] w fun e w' => e = ofErr 1 ∧ Below w.heap.size w w' := by
  obtain ⟨r0, hb0, hs0⟩ := one_row w 25 (.int .i64 0) (.slice none 0 0) rfl
  have k0 := r0.cell (i := 0) rfl
  have k1 := r0.cell (i := 1) rfl
  have f0 := r0.frozen 0
  have f1 := r0.frozen 1
  have HB := hide hb0
  have three : (n < 0) ∨ (¬ n < 0 ∧ 16 < n) ∨ (¬ n < 0 ∧ ¬ 16 < n ∧ 256 < ps.length) := by unfold OfLarge at hL; omega
  rcases three with h | ⟨h, h2⟩ | ⟨h, h2, h3⟩
  · have hd : decide (n < 0) = true := by simpa using h
    clear hL h
    go_enter Tryd.func9, Tryd.ntmps9
    go_wp2
    refine bodyPost_ret (v := .tuple #[.agg #[.int .i64 0, .slice none 0 0], .int .i64 1]) (by simp [results, Tryd.results9, go_sem]) rfl ⟨rfl, HB.out⟩
  · have hd : decide (n < 0) = false := by simpa using h
    have hd2 : decide (16 < n) = true := by simpa using h2
    clear hL h h2
    go_enter Tryd.func9, Tryd.ntmps9
    go_wp2
    refine bodyPost_ret (v := .tuple #[.agg #[.int .i64 0, .slice none 0 0], .int .i64 1]) (by simp [results, Tryd.results9, go_sem]) rfl ⟨rfl, HB.out⟩
  · have hd : decide (n < 0) = false := by simpa using h
    have hd2 : decide (16 < n) = false := by simpa using h2
    have hd3 : decide (256 < (ps.length : Int)) = true := by simp; omega
    clear hL h h2
    go_enter Tryd.func9, Tryd.ntmps9
    go_wp2
    refine bodyPost_ret (v := .tuple #[.agg #[.int .i64 0, .slice none 0 0], .int .i64 1]) (by simp [results, Tryd.results9, go_sem]) rfl ⟨rfl, HB.out⟩

set_option maxRecDepth 100000 in
set_option maxHeartbeats 1000000 in
theorem Of_small (n : Nat) (a : Option Addr) (cap : Nat) (ps : List (Int × Int)) (n₀ : Nat) (hn : n ≤ 16) (h256 : ps.length ≤ 256) (w : World) (hT : TabAt w) (hw : ZPairs n₀ w a ps) (hg : 0 < n₀) (hn₀ : n₀ ≤ w.heap.size) :
    Calls Tryd.prog 9 #[.int .i64 n, .slice a ps.length cap] w fun e w' => OfEnd n ps w.heap.size e w' ∧ Below w.heap.size w w' := by
  obtain ⟨r0, hb0, hs0⟩ := one_row w 25 (.int .i64 0) (.slice none 0 0) rfl
  have hnl : ¬ OfLarge n ps := by unfold OfLarge; omega
  have hd2 : decide (16 < (n : Int)) = false := by simp; omega
  have hd3 : decide (256 < (ps.length : Int)) = false := by simp; omega
  go_enter Tryd.func9, Tryd.ntmps9
  go_wp2
  go_loopw [23] (fun i wr => ∃ k : Nat, k ≤ ps.length ∧ i = .int .i64 k ∧ Row wr w.heap.size 25 [.int .i64 0, .slice none 0 0] ∧ Below w.heap.size w wr ∧ ∀ j, j < k → PairIn n (zp ps j)) (fun i _ => ps.length - (intOf i).toNat)
  case atStart => exact ⟨0, Nat.zero_le _, rfl, r0, hb0, fun j hj => by omega⟩
  case round =>
    clear r0 hb0 hs0
    obtain ⟨k, hk, rfl, r0, hB, hall⟩ := hrel
    have hsz := hB.size
    by_cases hlt : k < ps.length
    · obtain ⟨b, off, rfl, hb, cA, cB⟩ := (hw.below (hB.mono hn₀)).at hlt
      have hbW : b < wr.heap.size := by omega
      have k0 := r0.cell (i := 0) rfl
      have k1 := r0.cell (i := 1) rfl
      have f0 := r0.frozen 0
      have f1 := r0.frozen 1
      have lt0 := r0.lt
      obtain ⟨A, hA⟩ : ∃ A, (zp ps k).1 = A := ⟨_, rfl⟩
      obtain ⟨B, hBB⟩ : ∃ B, (zp ps k).2 = B := ⟨_, rfl⟩
      rw [hA] at cA
      rw [hBB] at cB
      have HA := hide hA
      have HBB := hide hBB
      clear hA hBB
      by_cases good : PairIn n (zp ps k)
      · have hg4 := good
        unfold PairIn at hg4
        rw [HA.out, HBB.out] at hg4
        have h1 : decide (A < 0) = false := by simp; omega
        have h2 : decide ((n : Int) ≤ A) = false := by simp; omega
        have h3 : decide (B < 0) = false := by simp; omega
        have h4 : decide ((n : Int) ≤ B) = false := by simp; omega
        have HG := hide good
        clear good hg4
        go_wp2
        exact ⟨⟨k + 1, by omega, by go_num, r0.alloc _, hB.alloc hsz _, fun j hj => by
          by_cases e : j = k
          · rw [e]; exact HG.out
          · exact hall j (by omega)⟩, by simp [intOf]; omega⟩
      · have HG := hide (show ∀ w', OfEnd n ps w.heap.size (ofErr 2) w' from fun _ => .inr (.inl ⟨hnl, ⟨k, hlt, by simpa using good⟩, rfl⟩))
        have q2 := ((r0.set 0 (.int .i64 0)).set 1 (.slice none 0 0)).alloc (.cells #[.int .i64 A, .int .i64 B] 33)
        have e0 := q2.cell (i := 0) (v := .int .i64 0) rfl
        have e1 := q2.cell (i := 1) (v := .slice none 0 0) rfl
        have HB := hide (((hB.setCell (p := ⟨w.heap.size, 0, none⟩) (Nat.le_refl _) (.int .i64 0)).setCell (p := ⟨w.heap.size, 1, none⟩) (Nat.le_refl _) (.slice none 0 0)).alloc (by simp; omega) (.cells #[.int .i64 A, .int .i64 B] 33))
        have hg4 := good
        unfold PairIn at hg4
        rw [HA.out, HBB.out] at hg4
        have four : (A < 0) ∨ (¬ A < 0 ∧ (n : Int) ≤ A) ∨ (¬ A < 0 ∧ ¬ (n : Int) ≤ A ∧ B < 0) ∨ (¬ A < 0 ∧ ¬ (n : Int) ≤ A ∧ ¬ B < 0 ∧ (n : Int) ≤ B) := by omega
        clear good hg4 q2
        rcases four with x1 | ⟨x1, x2⟩ | ⟨x1, x2, x3⟩ | ⟨x1, x2, x3, x4⟩
        · have h1 : decide (A < 0) = true := by simpa using x1
          clear x1
          go_wp2
          refine bodyPost_ret (v := .tuple #[.agg #[.int .i64 0, .slice none 0 0], .int .i64 2]) (by simp [results, Tryd.results9, go_sem, e0, e1]) rfl ⟨HG.out _, HB.out⟩
        · have h1 : decide (A < 0) = false := by simpa using x1
          have h2 : decide ((n : Int) ≤ A) = true := by simpa using x2
          clear x1 x2
          go_wp2
          refine bodyPost_ret (v := .tuple #[.agg #[.int .i64 0, .slice none 0 0], .int .i64 2]) (by simp [results, Tryd.results9, go_sem, e0, e1]) rfl ⟨HG.out _, HB.out⟩
        · have h1 : decide (A < 0) = false := by simpa using x1
          have h2 : decide ((n : Int) ≤ A) = false := by simpa using x2
          have h3 : decide (B < 0) = true := by simpa using x3
          clear x1 x2 x3
          go_wp2
          refine bodyPost_ret (v := .tuple #[.agg #[.int .i64 0, .slice none 0 0], .int .i64 2]) (by simp [results, Tryd.results9, go_sem, e0, e1]) rfl ⟨HG.out _, HB.out⟩
        · have h1 : decide (A < 0) = false := by simpa using x1
          have h2 : decide ((n : Int) ≤ A) = false := by simpa using x2
          have h3 : decide (B < 0) = false := by simpa using x3
          have h4 : decide ((n : Int) ≤ B) = true := by simpa using x4
          clear x1 x2 x3 x4
          go_wp2
          refine bodyPost_ret (v := .tuple #[.agg #[.int .i64 0, .slice none 0 0], .int .i64 2]) (by simp [results, Tryd.results9, go_sem, e0, e1]) rfl ⟨HG.out _, HB.out⟩
    · obtain rfl : k = ps.length := by omega
      have hre := reached_any n a cap ps n₀ hn h256 (fun i hi => hall i hi) wr (hT.below hB (by omega)) (hw.below (hB.mono hn₀)) hg (by omega)
      have lt0 := r0.lt
      go_wp2_with fail
      refine hre.mono ?_
      rintro e w1 ⟨B, up, nx, rfl, hb1, hBle, rU, hul, hfu, hNx, hup⟩
      have hs1 := hb1.size
      have hB1 : Below w.heap.size w w1 := hB.trans (hb1.mono (by omega))
      have r1 := row_below r0 hb1 lt0
      have ltU := rU.lt
      have hmb := mayBe_any (some ⟨B, 0, none⟩) n up w1.heap.size hfu (up_inside hNx (fun k hk => hall k hk) hul hup) (by omega) w1 (hT.below hB1 (by omega)) (rU.words ltU) (by omega) (Nat.le_refl _)
      rw [hul] at hmb
      have hend := fun e w' (h : (isOrdB up = false ∧ e = ofErr 4) ∨ (isOrdB up = true ∧ ∃ B, w.heap.size ≤ B ∧ e = .returned (.tuple #[.agg #[.int .i64 (n : Int), .slice (some ⟨B, 0, none⟩) n n], .int .i64 0]) ∧ Row w' B 36 (wvals up))) => (show OfEnd n ps w.heap.size e w' from .inr (.inr ⟨hnl, fun k hk => by simpa using hall k hk, nx, up, by simpa using hNx, by simpa using hul, hfu, by simpa using hup, by simpa using h⟩))
      cases ho : isOrdB up with
      | false =>
        rw [ho] at hmb
        have HO := hide ho
        clear ho
        go_wp2_with (go_at_call 30; refine hmb.mono ?_; rintro e w2 ⟨rfl, hb2⟩; have r2 := row_below r1 hb2 (by omega); have k0 := r2.cell (i := 0) rfl; have k1 := r2.cell (i := 1) rfl; have f0 := r2.frozen 0; have f1 := r2.frozen 1)
        have q2 := (r2.set 0 (.int .i64 0)).set 1 (.slice none 0 0)
        have e0 := q2.cell (i := 0) (v := .int .i64 0) rfl
        have e1 := q2.cell (i := 1) (v := .slice none 0 0) rfl
        refine bodyPost_ret (v := .tuple #[.agg #[.int .i64 0, .slice none 0 0], .int .i64 4]) (by simp [results, Tryd.results9, go_sem, e0, e1]) rfl ⟨hend _ _ (.inl ⟨HO.out, rfl⟩), ?_⟩
        exact ((hB1.trans (hb2.mono (by omega))).setCell (p := ⟨w.heap.size, 0, none⟩) (Nat.le_refl _) _).setCell (p := ⟨w.heap.size, 1, none⟩) (Nat.le_refl _) _
      | true =>
        rw [ho] at hmb
        have HO := hide ho
        clear ho
        go_wp2_with (go_at_call 30; refine hmb.mono ?_; rintro e w2 ⟨rfl, hb2⟩; have r2 := row_below r1 hb2 (by omega); have k0 := r2.cell (i := 0) rfl; have k1 := r2.cell (i := 1) rfl; have f0 := r2.frozen 0; have f1 := r2.frozen 1)
        have q2 := (r2.set 0 (.int .i64 (n : Int))).set 1 (.slice (some ⟨B, 0, none⟩) n n)
        have e0 := q2.cell (i := 0) (v := .int .i64 (n : Int)) rfl
        have e1 := q2.cell (i := 1) (v := .slice (some ⟨B, 0, none⟩) n n) rfl
        have rU2 := row_below rU hb2 ltU
        refine bodyPost_ret (v := .tuple #[.agg #[.int .i64 (n : Int), .slice (some ⟨B, 0, none⟩) n n], .int .i64 0]) (by simp [results, Tryd.results9, go_sem, e0, e1]) rfl ⟨hend _ _ (.inr ⟨HO.out, B, by omega, rfl, (rU2.other (by omega) _ _).other (by omega) _ _⟩), ?_⟩
        exact ((hB1.trans (hb2.mono (by omega))).setCell (p := ⟨w.heap.size, 0, none⟩) (Nat.le_refl _) _).setCell (p := ⟨w.heap.size, 1, none⟩) (Nat.le_refl _) _
/-- **the program's Of, for every number and every pairs** -/
theorem Of_any (n : Int) (a : Option Addr) (cap : Nat) (ps : List (Int × Int)) (n₀ : Nat) (w : World) (hT : TabAt w) (hw : ZPairs n₀ w a ps) (hg : 0 < n₀) (hn₀ : n₀ ≤ w.heap.size) :
    Calls Tryd.prog 9 #[.int .i64 n, .slice a ps.length cap] w fun e w' => OfEnd n ps w.heap.size e w' ∧ Below w.heap.size w w' := by
  by_cases hL : OfLarge n ps
  · exact (Of_large n a cap ps w hL).mono fun e w' h => ⟨.inl ⟨hL, h.1⟩, h.2⟩
  · have hs : 0 ≤ n ∧ n ≤ 16 ∧ ps.length ≤ 256 := by unfold OfLarge at hL; omega
    obtain ⟨m, rfl⟩ : ∃ m : Nat, n = (m : Int) := ⟨n.toNat, by omega⟩
    exact Of_small m a cap ps n₀ (by omega) hs.2.2 w hT hw hg hn₀
end Go.Proofs.YtbdigkjahfdmjaaDoor
