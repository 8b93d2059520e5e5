/- The contract of the program's others: each word without its own element. -/
import Derived.Test.YtekpielpfegclabDoorOthPlain
namespace Go.Proofs.YtekpielpfegclabDoor
open Go.RowKit Go.Shelf

set_option maxRecDepth 100000 in
set_option maxHeartbeats 1000000 in
theorem others_any (a : Option Addr) (cap : Nat) (us : List Nat) (n₀ : Nat) (hf : Fit us) (hl : us.length ≤ 16) (w : World) (hw : IsWords n₀ w a us) (hn₀ : n₀ ≤ w.heap.size) :
    Calls Tryd.prog 40 #[.slice a us.length cap] w fun e w' => e = .returned (.slice (some ⟨w.heap.size, 0, none⟩) us.length us.length) ∧ Below w.heap.size w w' ∧ Row w' w.heap.size 40 (wvals (othL us)) := by
  have hmk := run_make_row' (P := Tryd.prog) 22 40 (.int .u32 0) 4 Tryd.underlying22 info_u32 rfl .i64 .i64 us.length (by omega) (by omega)
  go_enter Tryd.func40, Tryd.ntmps40
  go_wp2
  go_loopw [11] (fun i wr => ∃ (k : Nat) (ds : List Nat), k ≤ us.length ∧ i = .int .i64 k ∧ ds.length = us.length ∧ (∀ j, j < k → wd ds j = andN (wd us j) (bitW j)) ∧ Row wr w.heap.size 40 (wvals ds) ∧ Below w.heap.size w wr) (fun i _ => us.length - (intOf i).toNat)
  case atStart =>
    have h1 := Row.new w 40 (wvals (List.replicate us.length 0))
    rw [← wvals_replicate] at h1
    exact ⟨0, _, Nat.zero_le _, rfl, by simp, fun j h => by omega, h1, (Below.refl _ _).alloc (Nat.le_refl _) _⟩
  case round =>
    clear hmk
    obtain ⟨k, ds, hk, rfl, hdl, hall, rD, hB⟩ := hrel
    by_cases hlt : k < us.length
    · obtain ⟨b, off, rfl, hb, hc⟩ := (hw.below (hB.mono hn₀)).at hlt
      have hck := hc k hlt
      clear hc
      have cK := rD.cell (wvals_at (us := ds) (i := k) (by omega))
      have fK := rD.frozen k
      have hbits := bits_andN32 (wd us k) (bitW k) (hf k) (bitW_lt (by omega))
      go_wp2_with (go_at_call 45; refine (bit_any _ (by omega) _).mono ?_; rintro e w' ⟨rfl, rfl⟩)
      refine ⟨⟨k + 1, ds.set k (andN (wd us k) (bitW k)), by omega, by go_num, by simp [hdl], fun j hj => ?_, by rw [← wvals_set]; exact rD.set k _, hB.setCell (p := ⟨w.heap.size, k, none⟩) (Nat.le_refl _) _⟩, by simp [intOf]; omega⟩
      rw [wd_set (by omega)]
      by_cases e : k = j
      · rw [if_pos e, e]
      · rw [if_neg e]; exact hall j (by omega)
    · obtain rfl : ds = othL us := wd_ext (by rw [othL_len]; exact hdl) fun i hi => by rw [hall i (by omega), wd_othL (by omega)]
      go_wp2
      go_ret
      exact ⟨rfl, hB, rD⟩
end Go.Proofs.YtekpielpfegclabDoor
