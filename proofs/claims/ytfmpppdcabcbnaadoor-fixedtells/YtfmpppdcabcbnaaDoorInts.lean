/- Slices of ints in memory; the contract of the document's TimesSame. -/
import Derived.Test.YtfmpppdcabcbnaaDoorIntVals
import Derived.Test.YtfmpppdcabcbnaaDoorRefCheck
namespace Go.Proofs.YtfmpppdcabcbnaaDoor
open Go.RowKit Go.Shelf

def sameIB (l m : List Nat) : Bool := decide (l = m)
set_option maxHeartbeats 400000 in
theorem TimesSame_any (a b : Option Addr) (ca cb : Nat) (l m : List Nat) (n₀ : Nat) (hl : m.length = l.length) (h40 : l.length ≤ 1099511627776) (w : World) (hu : IsInts n₀ w a l) (hv : IsInts n₀ w b m) :
    Calls Tryd.prog 13 #[.slice a l.length ca, .slice b m.length cb] w fun e w' => e = .returned (.bool (sameIB l m)) ∧ Below w.heap.size w w' := by
  have HL := hide hl
  rw [hl]
  clear hl
  go_enter Tryd.func13, Tryd.ntmps13
  go_wp2
  go_loopw [5] (fun i wr => ∃ (k q : Nat), k ≤ l.length ∧ i = .int .i64 k ∧ (∀ j, j < k → wd l j = wd m j) ∧ wr = w.drewN q) (fun i _ => l.length - (intOf i).toNat)
  case atStart => exact ⟨0, 0, Nat.zero_le _, rfl, fun j h1 => by omega, rfl⟩
  case round =>
    obtain ⟨k, q, hk, rfl, hall, rfl⟩ := hrel
    by_cases hlt : k < l.length
    · obtain ⟨b1, o1, rfl, hb1, hc1⟩ := hu.at hlt
      obtain ⟨b2, o2, rfl, hb2, hc2⟩ := hv.at (show k < m.length by rw [HL.out]; exact hlt)
      have c1 := hc1 k hlt
      have c2 := hc2 k (show k < m.length by rw [HL.out]; exact hlt)
      clear hc1 hc2
      by_cases he : wd l k = wd m k
      · have hd : (((wd l k : Nat) : Int) != ((wd m k : Nat) : Int)) = false := by rw [bne_eq_false_iff_eq]; omega
        have He := hide he; clear he
        go_wp2
        go_quiet (fail)
        go_wp2
        refine ⟨⟨k + 1, q + nq, by omega, by go_num, fun j h1 => ?_, by simp [World.drewN]⟩, by simp [intOf]; omega⟩
        by_cases e : j = k
        · rw [e]; exact He.out
        · exact hall j (by omega)
      · have hd : (((wd l k : Nat) : Int) != ((wd m k : Nat) : Int)) = true := by rw [bne_iff_ne]; omega
        have He := hide he; clear he
        go_wp2
        go_quiet (fail)
        go_wp2
        go_ret
        refine ⟨ret_bool ?_, below_drewN (below_drewN (Below.refl _ _) _) _⟩
        unfold sameIB
        symm
        rw [decide_eq_false_iff_not]
        exact fun e => He.out (by rw [e])
    · go_wp2
      go_ret
      refine ⟨ret_bool ?_, below_drewN (Below.refl _ _) _⟩
      unfold sameIB
      symm
      rw [decide_eq_true_iff]
      apply List.ext_getElem HL.out.symm
      intro i h1 h2
      have := hall i (by omega)
      unfold wd at this
      simpa [List.getD_eq_getElem?_getD, List.getElem?_eq_getElem h1, List.getElem?_eq_getElem h2] using this
end Go.Proofs.YtfmpppdcabcbnaaDoor
