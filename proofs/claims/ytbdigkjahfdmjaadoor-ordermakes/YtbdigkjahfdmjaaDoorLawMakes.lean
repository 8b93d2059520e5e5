/- The walk of the law OrderMakes: it answers true, and writes nothing that was there. -/
import Derived.Test.YtbdigkjahfdmjaaDoorMakesPlain
import Derived.Test.YtbdigkjahfdmjaaDoorSame
namespace Go.Proofs.YtbdigkjahfdmjaaDoor
open Go.RowKit Go.Shelf

theorem err_end (c : Int) : ofErr c = .returned (.tuple #[.agg #[.int .i64 0, .slice none 0 0], .int .i64 c]) := rfl

set_option maxRecDepth 100000 in
set_option maxHeartbeats 1000000 in
theorem makes_any (n : Int) (a : Option Addr) (cap : Nat) (ps : List (Int × Int)) (n₀ : Nat) (w : World) (hT : TabAt w) (hw : ZPairs n₀ w a ps) (hg : 0 < n₀) (hn₀ : n₀ ≤ w.heap.size) :
    Calls Tryd.prog 3 #[.int .i64 n, .slice a ps.length cap] w fun e w' => e = .returned (.bool true) ∧ Below w.heap.size w w' := by
  have hof := Of_any n a cap ps n₀ w hT hw hg hn₀
  go_enter Tryd.func3, Tryd.ntmps3
  go_wp2_with fail
  refine hof.mono ?_
  rintro e w1 ⟨hend, hb1⟩
  have hs1 := hb1.size
  rcases hend with ⟨hL, rfl⟩ | ⟨hnl, hbad, rfl⟩ | ⟨hnl, hin, nx, up, hNx, hul, hfu, hup, hcase⟩
  · rw [err_end]
    obtain ⟨r1, hb2, hs2⟩ := one_row w1 25 (.int .i64 0) (.slice none 0 0) rfl
    have hB2 : Below w.heap.size w _ := hb1.trans (hb2.mono hs1)
    have hre := RefOf_large n a cap ps (w1.alloc (.cells #[.int .i64 0, .slice none 0 0] 25)) hL
    rw [err_end] at hre
    go_wp2_with fail
    refine hre.mono ?_
    rintro e w3 ⟨rfl, hb3⟩
    have q1 := row_below r1 hb3 r1.lt
    have lt1 := q1.lt
    have c0 := q1.cell (i := 0) rfl
    have c1 := q1.cell (i := 1) rfl
    have hs3 := hb3.size
    have hB3 : Below w.heap.size w w3 := hB2.trans (hb3.mono (by omega))
    have hor := Orders_any 0 0 none none 0 0 [] [] 0 (by simp) (w3.alloc (.cells #[.int .i64 0, .slice none 0 0] 25)) (.inl rfl) (.inl rfl) (Nat.zero_le _)
    rw [show (((0 : Int) == 0) && sameB [] []) = true by decide] at hor
    have HB := hide (hB3.alloc hB3.size (.cells #[.int .i64 0, .slice none 0 0] 25))
    clear hof hre r1 hb2 hs2 hB2 hb1 hb3 hB3
    go_wp2_with (go_at_call 11; refine hor.mono ?_; rintro e w5 ⟨rfl, hb5⟩)
    go_ret
    exact ⟨rfl, HB.out.trans (hb5.mono (by simp; omega))⟩
  · rw [err_end]
    obtain ⟨r1, hb2, hs2⟩ := one_row w1 25 (.int .i64 0) (.slice none 0 0) rfl
    have hB2 : Below w.heap.size w _ := hb1.trans (hb2.mono hs1)
    have hsm : 0 ≤ n ∧ n ≤ 16 ∧ ps.length ≤ 256 := by unfold OfLarge at hnl; omega
    obtain ⟨m, rfl⟩ : ∃ m : Nat, n = (m : Int) := ⟨n.toNat, by omega⟩
    have hre := RefOf_arg m a cap ps n₀ (by omega) hsm.2.2 (w1.alloc (.cells #[.int .i64 0, .slice none 0 0] 25)) (hw.below (hB2.mono hn₀)) (by omega) (by simpa using hbad)
    rw [err_end] at hre
    clear hbad hnl
    go_wp2_with fail
    refine hre.mono ?_
    rintro e w3 ⟨rfl, hb3⟩
    have q1 := row_below r1 hb3 r1.lt
    have lt1 := q1.lt
    have c0 := q1.cell (i := 0) rfl
    have c1 := q1.cell (i := 1) rfl
    have hs3 := hb3.size
    have hB3 : Below w.heap.size w w3 := hB2.trans (hb3.mono (by omega))
    have hor := Orders_any 0 0 none none 0 0 [] [] 0 (by simp) (w3.alloc (.cells #[.int .i64 0, .slice none 0 0] 25)) (.inl rfl) (.inl rfl) (Nat.zero_le _)
    rw [show (((0 : Int) == 0) && sameB [] []) = true by decide] at hor
    have HB := hide (hB3.alloc hB3.size (.cells #[.int .i64 0, .slice none 0 0] 25))
    clear hof hre r1 hb2 hs2 hB2 hb1 hb3 hB3
    go_wp2_with (go_at_call 11; refine hor.mono ?_; rintro e w5 ⟨rfl, hb5⟩)
    go_ret
    exact ⟨rfl, HB.out.trans (hb5.mono (by simp; omega))⟩
  · have hsm : 0 ≤ n ∧ n ≤ 16 ∧ ps.length ≤ 256 := by unfold OfLarge at hnl; omega
    obtain ⟨m, rfl⟩ : ∃ m : Nat, n = (m : Int) := ⟨n.toNat, by omega⟩
    have hNx' : NxTo ps m ps.length nx := by simpa using hNx
    have hin' : ∀ k, k < ps.length → PairIn m (zp ps k) := by simpa using hin
    have hul' : up.length = m := by simpa using hul
    have hup' : ∀ i, i < m → ∀ z, hasB (wd up i) z = true ↔ Reach nx i z := by simpa using hup
    have hord := ord_iff hul' hup'
    rcases hcase with ⟨ho, rfl⟩ | ⟨ho, B, hBle, rfl, rU⟩
    · rw [err_end]
      obtain ⟨r1, hb2, hs2⟩ := one_row w1 25 (.int .i64 0) (.slice none 0 0) rfl
      have hB2 : Below w.heap.size w _ := hb1.trans (hb2.mono hs1)
      have hre := (RefOf_main m a cap ps nx n₀ (by omega) hsm.2.2 hin' hNx' (w1.alloc (.cells #[.int .i64 0, .slice none 0 0] 25)) (hw.below (hB2.mono hn₀)) (by omega)).mono (R' := fun e w' => e = ofErr 4 ∧ Below (w1.alloc (.cells #[.int .i64 0, .slice none 0 0] 25)).heap.size (w1.alloc (.cells #[.int .i64 0, .slice none 0 0] 25)) w') (by
        rintro e w' ⟨hb, vp, hvl, hvf, hvu, ⟨_, rfl⟩ | ⟨hnc, _⟩⟩
        · exact ⟨rfl, hb⟩
        · exfalso
          have e := up_unique hul' hvl hup' hvu
          subst e
          exact isOrdB_false.1 ho (hord.2 hnc))
      rw [err_end] at hre
      clear hNx hin hul hup hord ho hnl
      go_wp2_with fail
      refine hre.mono ?_
      rintro e w3 ⟨rfl, hb3⟩
      have q1 := row_below r1 hb3 r1.lt
      have lt1 := q1.lt
      have c0 := q1.cell (i := 0) rfl
      have c1 := q1.cell (i := 1) rfl
      have hs3 := hb3.size
      have hB3 : Below w.heap.size w w3 := hB2.trans (hb3.mono (by omega))
      have hor := Orders_any 0 0 none none 0 0 [] [] 0 (by simp) (w3.alloc (.cells #[.int .i64 0, .slice none 0 0] 25)) (.inl rfl) (.inl rfl) (Nat.zero_le _)
      rw [show (((0 : Int) == 0) && sameB [] []) = true by decide] at hor
      have HB := hide (hB3.alloc hB3.size (.cells #[.int .i64 0, .slice none 0 0] 25))
      clear hof hre r1 hb2 hs2 hB2 hb1 hb3 hB3
      go_wp2_with (go_at_call 11; refine hor.mono ?_; rintro e w5 ⟨rfl, hb5⟩)
      go_ret
      exact ⟨rfl, HB.out.trans (hb5.mono (by simp; omega))⟩
    · simp only [Int.toNat_natCast]
      obtain ⟨r1, hb2, hs2⟩ := one_row w1 25 (.int .i64 (m : Int)) (.slice (some ⟨B, 0, none⟩) m m) rfl
      have hB2 : Below w.heap.size w _ := hb1.trans (hb2.mono hs1)
      have rU2 := rU.alloc (.cells #[.int .i64 (m : Int), .slice (some ⟨B, 0, none⟩) m m] 25)
      have hre := RefOf_main m a cap ps nx n₀ (by omega) hsm.2.2 hin' hNx' (w1.alloc (.cells #[.int .i64 (m : Int), .slice (some ⟨B, 0, none⟩) m m] 25)) (hw.below (hB2.mono hn₀)) (by omega)
      go_wp2_with fail
      refine hre.mono ?_
      rintro e w3 ⟨hb3, vp, hvl, hvf, hvu, hc2⟩
      have eup := up_unique hul' hvl hup' hvu
      subst eup
      rcases hc2 with ⟨hcyc, _⟩ | ⟨hnc, av, cv, rfl, hown⟩
      · exact absurd hcyc (hord.1 (isOrdB_true.1 ho))
      · have q1 := row_below r1 hb3 r1.lt
        have rU3 := row_below rU2 hb3 rU2.lt
        have lt1 := q1.lt
        have c0 := q1.cell (i := 0) rfl
        have c1 := q1.cell (i := 1) rfl
        have hs3 := hb3.size
        have hB3 : Below w.heap.size w w3 := hB2.trans (hb3.mono (by omega))
        obtain ⟨_, _, ew, hwo⟩ := ownsRow_words hown
        rw [hvl] at ew
        cases ew
        have hba : Below w3.heap.size w3 (w3.alloc (.cells #[.int .i64 (m : Int), .slice av m cv] 25)) := (Below.refl _ _).alloc (Nat.le_refl _) _
        have hor := Orders_any m m (some ⟨B, 0, none⟩) av m cv up up w3.heap.size (by omega) (w3.alloc (.cells #[.int .i64 (m : Int), .slice av m cv] 25)) ((rU3.words rU3.lt).below hba) (hwo.below hba) (by simp)
        rw [hvl, show (((m : Int) == (m : Int)) && sameB up up) = true by simp [sameB]] at hor
        have HB := hide (hB3.alloc hB3.size (.cells #[.int .i64 (m : Int), .slice av m cv] 25))
        clear hof hre r1 hb2 hs2 hB2 hb1 hb3 hB3 hord ho hNx hin hul hup hba
        go_wp2_with (go_at_call 11; refine hor.mono ?_; rintro e w5 ⟨rfl, hb5⟩)
        go_ret
        exact ⟨rfl, HB.out.trans (hb5.mono (by simp; omega))⟩
end Go.Proofs.YtbdigkjahfdmjaaDoor
