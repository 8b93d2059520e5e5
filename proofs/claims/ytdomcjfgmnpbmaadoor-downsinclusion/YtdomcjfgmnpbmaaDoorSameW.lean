/- The contract of the document's Words: are two lists of words the same? -/
import Derived.Test.YtdomcjfgmnpbmaaDoorRefLow
namespace Go.Proofs.YtdomcjfgmnpbmaaDoor
open Go.RowKit Go.Shelf

def sameB (us vs : List Nat) : Bool := decide (us = vs)
theorem same_true {us vs : List Nat} (hl : us.length = vs.length) (h : ∀ i, i < us.length → wd us i = wd vs i) : sameB us vs = true := by
  unfold sameB; rw [decide_eq_true_iff]
  apply List.ext_getElem hl
  intro i h1 h2
  have := h i h1
  unfold wd at this
  simpa [List.getD_eq_getElem?_getD, List.getElem?_eq_getElem h1, List.getElem?_eq_getElem h2] using this
theorem same_false {us vs : List Nat} (h : us ≠ vs) : sameB us vs = false := by unfold sameB; exact decide_eq_false h

set_option maxHeartbeats 400000 in
theorem Words_len (a b : Option Addr) (ca cb : Nat) (us vs : List Nat) (hne : us.length ≠ vs.length) (w : World) :
    Calls Tryd.prog 13 #[.slice a us.length ca, .slice b vs.length cb] w fun e w' => e = .returned (.bool (sameB us vs)) ∧ w' = w := by
  have hd : ((us.length : Int) != (vs.length : Int)) = true := by rw [bne_iff_ne]; omega
  have Hs := hide (same_false (us := us) (vs := vs) (fun e => hne (by rw [e])))
  go_enter Tryd.func13, Tryd.ntmps13
  go_wp2
  go_ret
  exact ⟨ret_bool Hs.out.symm, rfl⟩

set_option maxHeartbeats 400000 in
theorem Words_loop (a b : Option Addr) (ca cb : Nat) (us vs : List Nat) (n₀ : Nat) (hl : vs.length = us.length) (h40 : us.length ≤ 1099511627776) (w : World) (hu : IsWords n₀ w a us) (hv : IsWords n₀ w b vs) :
    Calls Tryd.prog 13 #[.slice a us.length ca, .slice b vs.length cb] w fun e w' => e = .returned (.bool (sameB us vs)) ∧ ∃ m, w' = w.drewN m := by
  have HL := hide hl
  rw [hl]
  clear hl
  go_enter Tryd.func13, Tryd.ntmps13
  go_wp2
  go_loopw [5] (fun i wr => ∃ (k m : Nat), k ≤ us.length ∧ i = .int .i64 k ∧ (∀ j, j < k → wd us j = wd vs j) ∧ wr = w.drewN m) (fun i _ => us.length - (intOf i).toNat)
  case atStart => exact ⟨0, 0, Nat.zero_le _, rfl, fun j h1 => by omega, rfl⟩
  case round =>
    obtain ⟨k, m, hk, rfl, hall, rfl⟩ := hrel
    by_cases hlt : k < us.length
    · obtain ⟨b1, o1, rfl, hb1, hc1⟩ := hu.at hlt
      obtain ⟨b2, o2, rfl, hb2, hc2⟩ := hv.at (show k < vs.length by rw [HL.out]; exact hlt)
      have c1 := hc1 k hlt
      have c2 := hc2 k (show k < vs.length by rw [HL.out]; exact hlt)
      clear hc1 hc2
      by_cases he : wd us k = wd vs k
      · have hd : (((wd us k : Nat) : Int) != ((wd vs k : Nat) : Int)) = false := by rw [bne_eq_false_iff_eq]; omega
        have He := hide he; clear he
        go_wp2
        go_quiet (fail)
        go_wp2
        refine ⟨⟨k + 1, m + nq, by omega, by go_num, fun j h1 => ?_, by simp [World.drewN]⟩, by simp [intOf]; omega⟩
        by_cases e : j = k
        · rw [e]; exact He.out
        · exact hall j (by omega)
      · have hd : (((wd us k : Nat) : Int) != ((wd vs k : Nat) : Int)) = true := by rw [bne_iff_ne]; omega
        have He := hide he; clear he
        go_wp2
        go_quiet (fail)
        go_wp2
        go_ret
        exact ⟨ret_bool (same_false (fun e => He.out (by rw [e]))).symm, m + nq, by simp [World.drewN, Nat.add_assoc]⟩
    · go_wp2
      go_ret
      exact ⟨ret_bool (same_true HL.out.symm fun i hi => hall i (by omega)).symm, m, rfl⟩

theorem Words_any (a b : Option Addr) (ca cb : Nat) (us vs : List Nat) (n₀ : Nat) (h40 : us.length ≤ 1099511627776) (w : World) (hu : IsWords n₀ w a us) (hv : IsWords n₀ w b vs) :
    Calls Tryd.prog 13 #[.slice a us.length ca, .slice b vs.length cb] w fun e w' => e = .returned (.bool (sameB us vs)) ∧ Below w.heap.size w w' := by
  by_cases hl : vs.length = us.length
  · refine (Words_loop a b ca cb us vs n₀ hl h40 w hu hv).mono ?_
    rintro e w' ⟨rfl, m, rfl⟩
    exact ⟨rfl, below_drewN (Below.refl _ _) m⟩
  · refine (Words_len a b ca cb us vs (fun e => hl e.symm) w).mono ?_
    rintro e w' ⟨rfl, rfl⟩
    exact ⟨rfl, Below.refl _ _⟩
end Go.Proofs.YtdomcjfgmnpbmaaDoor
