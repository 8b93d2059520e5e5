/- The contract of the program's unlinked: a list of n places at which nothing stands. -/
import Derived.Test.YtnlkjklcikolaaaDoorPlacePlain
import Derived.Test.YtnlkjklcikolaaaDoorIntVals
import Derived.WalkKit
namespace Go.Proofs.YtnlkjklcikolaaaDoor
open Go.RowKit Go.Shelf

theorem zvals_at {zs : List Int} {k : Nat} (h : k < zs.length) : (zvals zs)[k]? = some (.int .i64 (zd zs k)) := by
  unfold zvals zd
  rw [List.getElem?_map, List.getElem?_eq_getElem h, List.getD_eq_getElem?_getD, List.getElem?_eq_getElem h]; rfl

set_option maxRecDepth 100000 in
set_option maxHeartbeats 1000000 in
theorem unlinked_any (n : Nat) (hn : n ≤ 16) (w : World) :
    Calls Tryd.prog 24 #[.int .i64 (n : Nat)] w fun e w' => ∃ zs, e = .returned (.slice (some ⟨w.heap.size, 0, none⟩) n n) ∧ Below w.heap.size w w' ∧ Row w' w.heap.size 3 (zvals zs) ∧ zs.length = n ∧ ∀ j, j < n → zd zs j = -1 := by
  have hmk := run_make_row' (P := Tryd.prog) 27 3 (.int .i64 0) 8 Tryd.underlying27 info_int rfl .i64 .i64 n (by omega) (by omega)
  go_enter Tryd.func24, Tryd.ntmps24
  go_wp2
  go_loopw [9] (fun i wr => ∃ (k : Nat) (zs : List Int), k ≤ n ∧ i = .int .i64 k ∧ Below w.heap.size w wr ∧ zs.length = n ∧ Row wr w.heap.size 3 (zvals zs) ∧ ∀ j, j < k → zd zs j = -1) (fun i _ => n - (intOf i).toNat)
  case atStart =>
    have e : zvals (List.replicate n 0) = ivals (List.replicate n 0) := by unfold zvals ivals; simp
    have r1 := Row.new w 3 (ivals (List.replicate n 0))
    rw [← ivals_replicate] at r1
    exact ⟨0, List.replicate n 0, Nat.zero_le _, rfl, (Below.refl _ _).alloc (Nat.le_refl _) _, by simp, by rw [e]; exact r1, fun j hj => by omega⟩
  case round =>
    clear hmk
    obtain ⟨k, zs, hk, rfl, hB, hl, r1, hall⟩ := hrel
    by_cases hlt : k < n
    · have f1 := r1.frozen k
      have c1 := r1.cell (zvals_at (show k < zs.length by omega))
      go_wp2
      refine ⟨⟨k + 1, zs.set k (-1), by omega, by go_num, hB.setCell (p := ⟨w.heap.size, k, none⟩) (by simp) _, by simp [hl], by rw [← zvals_set]; exact r1.set k _, fun j hj => ?_⟩, by simp [intOf]; omega⟩
      rw [zd_set zs k j _ (by omega)]
      split
      · rfl
      · exact hall j (by omega)
    · obtain rfl : k = n := by omega
      go_wp2
      go_ret
      exact ⟨zs, rfl, hB, r1, hl, hall⟩
end Go.Proofs.YtnlkjklcikolaaaDoor
