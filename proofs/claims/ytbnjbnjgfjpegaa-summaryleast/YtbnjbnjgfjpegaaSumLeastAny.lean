/- Package summary's Least, of whatever list; checkList's closure. -/
import Derived.Test.YtbnjbnjgfjpegaaSumLeast
import Derived.Shelf.SlSortCmp.NoneTotal
namespace Go.Proofs.Ytbnjbnjgfjpegaa
open Go.RowKit Go.Shelf

theorem cloneU_nil (a : Option Addr) (cap : Nat) (w : World) :
    Calls Try.prog 22 #[.slice a 0 cap] w fun e w' => ∃ av cv, e = .returned (.slice av 0 cv) ∧ Below w.heap.size w w' := by
  obtain ⟨i0, hi, hz0, hz1, hz2⟩ := info_parts info_sum
  have hq : ∀ (w : World) (a : Option Addr) (n c n' c' : Nat), (binOp .eql 22 (.slice a n c) (.slice none n' c')).run Try.prog w = .ok (.bool a.isNone) w := fun w a n c n' c' => Lib.run_eql_slice_nil w _ _ a n c n' c' Try.underlying22
  cases a with
  | none =>
    go_enter Try.func22, Try.ntmps22
    go_wp2
    go_ret
    exact ⟨none, 0, rfl, Below.refl _ _⟩
  | some p =>
    go_enter Try.func22, Try.ntmps22
    go_wp2
    go_ret
    exact ⟨_, _, rfl, (Below.refl _ _).alloc (Nat.le_refl _) _⟩
set_option maxRecDepth 100000 in
set_option maxHeartbeats 1000000 in
theorem sleast_none (a : Option Addr) (cap : Nat) (w : World) :
    Calls Try.prog 11 #[.slice a 0 cap] w fun e w' => e = .returned (.slice none 0 0) ∧ Below w.heap.size w w' := by
  have hcl := cloneU_nil a cap w
  have hso : ∀ (p : Option Addr) (c : Nat) (W : World), Calls Try.prog 23 #[.slice p 0 c, .func (.func 24) #[] #[]] W fun e w' => e = .returned (.tuple #[]) ∧ w' = W := fun p c W => AnyF.slices_SortFunc_none Try.sortSu p c (.func (.func 24) #[] #[]) W
  go_enter Try.func11, Try.ntmps11
  go_wp2_with fail
  with_reducible refine hcl.mono ?_
  rintro e w1 ⟨av, cv, rfl, hb1⟩
  go_wp2_with fail
  with_reducible refine (hso av cv w1).mono ?_
  rintro e w2 ⟨rfl, hww⟩
  rw [hww]
  clear hww
  go_wp2_with fail
  go_loop [4, 13] (fun fr i => fr = .slice none 0 0 ∧ i = .int .i64 (0 : Nat)) (fun _ _ => 0)
  case atStart => exact ⟨rfl, rfl⟩
  case round =>
    obtain ⟨rfl, rfl⟩ := hrel
    go_wp2_with fail
    go_ret
    exact ⟨rfl, hb1⟩
/-- **Least of summaries that make times with as many numbers is their front** -/
theorem sleast_any (a : Option Addr) (cap : Nat) (L : List Su) (n n₀ : Nat) (h64 : L.length ≤ 1048576) (hok : ∀ i, i < L.length → OkS n (nthU L i).sm) (w : World) (hO : OuterU n₀ w a L) (hI : InnerU n₀ w L) (hn₀ : n₀ ≤ w.heap.size) :
    Calls Try.prog 11 #[.slice a L.length cap] w fun e w' => ∃ av cv S, e = .returned (.slice av S.length cv) ∧ Below w.heap.size w w' ∧ OuterU w'.heap.size w' av S ∧ InFU w.heap.size w' S ∧ FrontG AheadS LeS (sl L) (sl S) := by
  by_cases h0 : 0 < L.length
  · exact sleast_some a cap L n n₀ h64 hok h0 w hO hI hn₀
  · obtain rfl : L = [] := List.length_eq_zero_iff.1 (by omega)
    refine (sleast_none a cap w).mono ?_
    rintro e w' ⟨h1, h2⟩
    exact ⟨none, 0, [], h1, h2, .inl rfl, InFU.nil _ _, ⟨List.Pairwise.nil, fun t => by simp [sl, MinG]⟩⟩
end Go.Proofs.Ytbnjbnjgfjpegaa
