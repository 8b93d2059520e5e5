/- Package mobius: sums by a square, and products of squares. -/
import Derived.Test.YtekpielpfegclabDoorMobSq
import Derived.Test.YtekpielpfegclabDoorMobMore
import Derived.Deep.RegionHeld3
namespace Go.Proofs.YtekpielpfegclabDoor
open Go.RowKit Go.Shelf

/-- the list of a vector -/
def vecL (n : Nat) (f : Nat → B64) : List B64 := (List.range n).map f
theorem vecL_len (n : Nat) (f : Nat → B64) : (vecL n f).length = n := by unfold vecL; simp
theorem bd_vecL {n i : Nat} (f : Nat → B64) (h : i < n) : bd (vecL n f) i = f i := bd_range f h
theorem vecL_is {n : Nat} {f : Nat → B64} {T : List B64} (hl : T.length = n) (h : ∀ i, i < n → bd T i = f i) : T = vecL n f :=
  bd_ext (by rw [vecL_len, hl]) fun i hi => by rw [hl] at hi; rw [h i hi, bd_vecL f hi]
/-- a slice of n numbers somewhere -/
def VecAt (W : World) (a : Option Addr) (n : Nat) (v : Nat → B64) : Prop := n = 0 ∨ ∃ b of2, a = some ⟨b, of2, none⟩ ∧ b < W.heap.size ∧ CellsB W b of2 n v
theorem VecAt.below {A B : World} {a : Option Addr} {n : Nat} {v : Nat → B64} (h : VecAt A a n v) (hb : Below A.heap.size A B) : VecAt B a n v := by
  rcases h with h | ⟨b, of2, h1, h2, h3⟩
  · exact .inl h
  · exact .inr ⟨b, of2, h1, by have := hb.size; omega, fun i hi => (hb.cell (p := ⟨b, of2 + i, none⟩) h2).trans (h3 i hi)⟩
theorem Row.vec {W : World} {p : Nat} {t : TypeId} {l : List B64} (h : Row W p t (bvals l)) (off m : Nat) (hm : off + m ≤ l.length) : VecAt W (some ⟨p, off, none⟩) m (fun i => bd l (off + i)) :=
  .inr ⟨p, off, rfl, h.lt, h.cellsB off m hm⟩
theorem ZInts.vec {n₀ : Nat} {W : World} {a : Option Addr} {l : List B64} (h : ZInts n₀ W a (tiL l)) (hn : n₀ ≤ W.heap.size) {n : Nat} (hl : l.length = n) : VecAt W a n (bd l) := by
  by_cases h0 : n = 0
  · exact .inl h0
  · obtain ⟨b, of2, h1, h2, h3⟩ := h.cellsB (i := 0) (by omega)
    exact .inr ⟨b, of2, h1, by omega, by rw [← hl]; exact h3⟩

set_option maxRecDepth 100000 in
set_option maxHeartbeats 2000000 in
theorem sum_any (n p : Nat) (hn : n ≤ 16) (S : List B64) (hlS : S.length = n * n) (av : Option Addr) (cv : Nat) (v : Nat → B64) (w : World) (hs : Row w p 2 (bvals S)) (hv : VecAt w av n v) :
    Calls Tryd.prog 30 #[sqV n p, .slice av n cv] w fun e w' => ∃ q, e = .returned (.slice (some ⟨q, 0, none⟩) n n) ∧ w.heap.size ≤ q ∧ Below w.heap.size w w' ∧ Row w' q 2 (bvals (vecL n (vm n v (mat n S)))) := by
  have h2 : n * n ≤ 256 := Nat.mul_le_mul hn hn
  have hrow := row_any n p
  have ltp := hs.lt
  have hmk := run_make_row' (P := Tryd.prog) 25 2 (.int .i64 0) 8 Tryd.underlying25 info_i64 rfl .i64 .i64 n (by omega) (by omega)
  obtain ⟨W0, hW0⟩ : ∃ W0, w.alloc (.cells #[.int .i64 n, .slice (some ⟨p, 0, none⟩) (n * n) (n * n)] 48) = W0 := ⟨_, rfl⟩
  obtain ⟨r0, hB0, hs0⟩ := sq_cells w _ _ hW0
  obtain ⟨W1, hW1⟩ : ∃ W1, W0.alloc (.cells (madeCells #[.int .i64 0] n) 2) = W1 := ⟨_, rfl⟩
  have hr1 : Row W1 (w.heap.size + 1) 2 (bvals (List.replicate n 0)) := by
    have := Row.new W0 2 (bvals (List.replicate n 0))
    rw [← bvals_replicate, hW1, hs0] at this
    exact this
  have q0 : Row W1 w.heap.size 48 [.int .i64 n, .slice (some ⟨p, 0, none⟩) (n * n) (n * n)] := by rw [← hW1]; exact r0.alloc _
  have hB1 : Below w.heap.size w W1 := by rw [← hW1]; exact hB0.alloc (by omega) _
  have c0 := r0.cell (i := 0) rfl
  unfold sqV at hrow
  unfold sqV
  go_enter Tryd.func30, Tryd.ntmps30
  go_wp2_with fail
  clear c0 hB0 r0 hmk
  generalize hq : w.heap.size + 1 = q at *
  clear hW1 hW0
  go_loopw [13] (fun i wr => ∃ (k : Nat) (T : List B64), k ≤ n ∧ i = .int .i64 k ∧ Below w.heap.size w wr ∧ Row wr w.heap.size 48 [.int .i64 n, .slice (some ⟨p, 0, none⟩) (n * n) (n * n)] ∧ Row wr q 2 (bvals T) ∧ T.length = n ∧ ∀ b, b < n → bd T b = sm k fun a => v a * mat n S a b) (fun i _ => n - (intOf i).toNat)
  case atStart => exact ⟨0, _, Nat.zero_le _, rfl, hB1, q0, hr1, by simp, fun b _ => bd_replicate _ _⟩
  case round =>
    obtain ⟨k, T, hk, rfl, hB, rB, rQ, hlT, hT⟩ := hrel
    have ltB := rB.lt
    have ltQ := rQ.lt
    have hBs := hB.size
    clear hB1 q0 hr1
    by_cases hlt : k < n
    · obtain ⟨b, of2, rfl, hbl, hc⟩ := hv.resolve_left (by omega)
      have hck := (hB.cell (p := ⟨b, of2 + k, none⟩) hbl).trans (hc k hlt)
      have HC := hide hc
      have HT := hide hT
      have c0 := rB.cell (i := 0) rfl
      have c1 := rB.cell (i := 1) rfl
      clear hc hT hv
      go_wp2_with fail
      refine (hrow k hn hlt _).mono ?_
      rintro e w2 ⟨rfl, hb2⟩
      have kB := row_below rB hb2 ltB
      have kQ := row_below rQ hb2 ltQ
      have hs2 := hb2.size
      have kS : Row w2 p 2 (bvals S) := row_below (row_below hs hB ltp) hb2 (by omega)
      have hadd := add_any q 0 n n p (k * n) (n * n - k * n) T (fun i => bd S (k * n + i)) (v k) (by omega) (by omega) (by omega) w2 kQ (fun W' T' hg _ _ _ => (kS.kept hg (by simp; omega)).cellsB _ _ (by
        have := Nat.mul_le_mul_right n (show k + 1 ≤ n from hlt)
        rw [Nat.succ_mul] at this; omega))
      go_wp2_with fail
      refine hadd.mono ?_
      rintro e w3 ⟨rfl, hg3, T', hT', hlT', _, hin⟩
      clear hadd c0 c1 hck
      go_wp2
      refine ⟨⟨k + 1, T', by omega, by go_num, ?_, kB.kept hg3 (by simp; omega), hT', by omega, fun b hb => ?_⟩, by simp [intOf]; omega⟩
      · exact (hB.trans (hb2.mono hBs)).trans (grown_below hg3 (by omega) (by omega))
      · have := hin b hb
        rw [Nat.zero_add] at this
        rw [this, HT.out b hb]; rfl
    · obtain rfl : k = n := by omega
      have e : T = vecL k (vm k v (mat k S)) := vecL_is hlT hT
      subst e
      clear hT
      go_wp2
      go_ret
      exact ⟨q, rfl, by omega, hB, rQ⟩
end Go.Proofs.YtekpielpfegclabDoor
