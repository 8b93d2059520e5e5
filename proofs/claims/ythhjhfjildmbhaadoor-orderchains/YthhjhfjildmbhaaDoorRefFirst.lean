/- The contract of the document's first: does a list come ahead of another one? -/
import Derived.Test.YthhjhfjildmbhaaDoorFromPlain
import Derived.Test.YthhjhfjildmbhaaDoorInts
namespace Go.Proofs.YthhjhfjildmbhaaDoor
open Go.RowKit Go.Shelf

theorem drewN_two (w : World) (a b : Nat) : (w.drewN a).drewN b = w.drewN (a + b) := by simp [World.drewN, Nat.add_assoc]

set_option maxHeartbeats 400000 in
theorem first_any (a b : Option Addr) (ca cb : Nat) (l m : List Nat) (n₀ : Nat) (hl : l.length ≤ 1099511627776) (w : World) (hu : IsInts n₀ w a l) (hv : IsInts n₀ w b m) :
    Calls Tryd.prog 45 #[.slice a l.length ca, .slice b m.length cb] w fun e w' => ∃ c : Bool, e = .returned (.bool c) ∧ (c = true ↔ FirstP l m) ∧ ∃ q, w' = w.drewN q := by
  by_cases hlen : l.length = m.length
  · have HL := hide hlen
    rw [← hlen]
    have hne : ((l.length : Int) != (l.length : Int)) = false := by simp
    clear hlen
    go_enter Tryd.func45, Tryd.ntmps45
    go_wp2
    go_loopw [5] (fun i wr => ∃ (k q : Nat), k ≤ l.length ∧ i = .int .i64 k ∧ (∀ j, j < k → wd l j = wd m j) ∧ wr = w.drewN q) (fun i _ => l.length - (intOf i).toNat)
    case atStart => exact ⟨0, 0, Nat.zero_le _, rfl, fun j h1 => by omega, rfl⟩
    case round =>
      clear hne
      obtain ⟨k, q, hk, rfl, hall, rfl⟩ := hrel
      by_cases hlt : k < l.length
      · obtain ⟨b1, o1, rfl, hb1, hc1⟩ := hu.at hlt
        obtain ⟨b2, o2, rfl, hb2, hc2⟩ := hv.at (show k < m.length by rw [← HL.out]; exact hlt)
        have c1 := hc1 k hlt
        have c2 := hc2 k (show k < m.length by rw [← HL.out]; exact hlt)
        clear hc1 hc2
        by_cases he : wd l k = wd m k
        · have hd : (((wd l k : Nat) : Int) != ((wd m k : Nat) : Int)) = false := by rw [bne_eq_false_iff_eq]; omega
          have He := hide he; clear he
          go_wp2
          go_quiet (fail)
          go_wp2
          refine ⟨⟨k + 1, q + nq, by omega, by go_num, fun j h1 => ?_, by simp [World.drewN]⟩, by simp [intOf]; omega⟩
          by_cases e : j = k
          · rw [e]; exact He.out
          · exact hall j (by omega)
        · have hd : (((wd l k : Nat) : Int) != ((wd m k : Nat) : Int)) = true := by rw [bne_iff_ne]; omega
          have He := hide he; clear he
          go_wp2
          go_quiet (fail)
          go_wp2
          go_quiet (fail)
          go_wp2
          go_ret
          refine ⟨decide (wd l k < wd m k), ret_bool (by simp), ?_, _, by rw [drewN_two, drewN_two]⟩
          rw [decide_eq_true_iff]
          constructor
          · exact fun h => .inr ⟨HL.out, k, hlt, hall, h⟩
          · rintro (h | ⟨_, k', hk', he', h⟩)
            · have := HL.out; omega
            · rcases Nat.lt_trichotomy k k' with g | g | g
              · exact absurd (he' k g) He.out
              · rw [g]; exact h
              · have := hall k' g; omega
      · go_wp2
        go_ret
        refine ⟨false, rfl, ⟨fun h => (by cases h), ?_⟩, q, rfl⟩
        rintro (h | ⟨_, k', hk', _, h⟩)
        · have := HL.out; omega
        · have := hall k' (by omega); omega
  · have hne : ((l.length : Int) != (m.length : Int)) = true := by rw [bne_iff_ne]; omega
    have HL := hide hlen
    clear hlen
    go_enter Tryd.func45, Tryd.ntmps45
    go_wp2
    go_ret
    refine ⟨decide (m.length < l.length), ?_, ?_, 0, rfl⟩
    · exact ret_bool (by simp)
    · rw [decide_eq_true_iff]
      exact ⟨fun h => .inl h, fun h => h.elim id (fun h => absurd h.1 HL.out)⟩
end Go.Proofs.YthhjhfjildmbhaaDoor
