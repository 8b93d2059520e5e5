/- The walk of the law DownsInclusion: it answers true, and writes nothing that was there. -/
import Derived.Test.YtdomcjfgmnpbmaaDoorInclAny
import Derived.Test.YtdomcjfgmnpbmaaDoorRefAll
import Derived.Test.YtdomcjfgmnpbmaaDoorRefIncl
import Derived.Test.YtdomcjfgmnpbmaaDoorRefCheck
import Derived.Test.YtdomcjfgmnpbmaaDoorSame
namespace Go.Proofs.YtdomcjfgmnpbmaaDoor
open Go.RowKit Go.Shelf

theorem no_words (n : Nat) (w : World) : IsWords n w none [] := .inl rfl
theorem same_refl (l : List Nat) : sameB l l = true := same_true rfl fun _ _ => rfl

set_option maxRecDepth 100000 in
set_option maxHeartbeats 1000000 in
theorem dincl_bad (n : Int) (a : Option Addr) (cap : Nat) (us : List Nat) (n₀ : Nat) (w : World) (hR : Ready a us n₀ w) (hc : codeOf n us ≠ 0) :
    Calls Tryd.prog 4 #[.agg #[.int .i64 n, .slice a us.length cap]] w fun e w' => e = .returned (.bool true) ∧ Below w.heap.size w w' := by
  obtain ⟨r0, hb0, hs0⟩ := one_row w 24 (.int .i64 n) (.slice a us.length cap) rfl
  have R1 := hR.step hb0
  have d1 := Incl_bad n a cap us n₀ _ R1 hc
  have d3 := fun W (hW : Ready a us n₀ W) => OrderCheck_any n a cap us n₀ hW.fit W hW.wds hW.le
  have d4 := fun W : World => Orders_any 0 0 none none 0 0 [] [] W.heap.size (by simp) W (no_words _ _) (no_words _ _) (Nat.le_refl _)
  rw [show (((0 : Int) == 0) && sameB [] []) = true from by rw [same_refl]; rfl] at d4
  generalize codeOf n us = c at *
  have hne : (c != 0) = true := by rw [bne_iff_ne]; exact hc
  have Hb := hide hb0
  clear hb0 hc
  go_enter Tryd.func4, Tryd.ntmps4
  go_wp2_with fail
  refine d1.mono ?_
  rintro e w1 ⟨rfl, hb1⟩
  have hs1 := hb1.size
  have R2 := R1.step hb1
  have q0 := row_below r0 hb1 r0.lt
  obtain ⟨rp, hb2, hs2⟩ := one_row w1 24 (.int .i64 0) (.slice none 0 0) rfl
  have R3 := R2.step hb2
  have q1 := row_below q0 hb2 q0.lt
  have j0 := q1.cell (i := 0) rfl
  have j1 := q1.cell (i := 1) rfl
  go_wp2_with fail
  refine (d3 _ R3).mono ?_
  rintro e w3 ⟨rfl, hb3⟩
  have hs3 := hb3.size
  have p0 := row_below rp hb3 rp.lt
  have k0 := p0.cell (i := 0) rfl
  have k1 := p0.cell (i := 1) rfl
  have x4 := d4 w3
  clear j0 j1 d1 d3 d4
  go_wp2_with (go_at_call 15; refine x4.mono ?_; rintro e w4 ⟨rfl, hb4⟩)
  go_ret
  exact ⟨ret_bool (by simp), (((Hb.out.trans (hb1.mono (by omega))).trans (hb2.mono (by omega))).trans (hb3.mono (by omega))).trans (hb4.mono (by omega))⟩

set_option maxRecDepth 100000 in
set_option maxHeartbeats 1000000 in
theorem dincl_ok (a : Option Addr) (cap : Nat) (us : List Nat) (n₀ : Nat) (w : World) (hR : Ready a us n₀ w) (hc : codeOf us.length us = 0) :
    Calls Tryd.prog 4 #[.agg #[.int .i64 us.length, .slice a us.length cap]] w fun e w' => e = .returned (.bool true) ∧ Below w.heap.size w w' := by
  obtain ⟨r0, hb0, hs0⟩ := one_row w 24 (.int .i64 us.length) (.slice a us.length cap) rfl
  have hl16 : us.length ≤ 16 := by have := code_zero hc; omega
  have R1 := hR.step hb0
  have d1 := Incl_ok a cap us n₀ _ R1 hc
  have d3 := fun W (hW : Ready a us n₀ W) => OrderCheck_any us.length a cap us n₀ hW.fit W hW.wds hW.le
  have d4 := fun W : World => Orders_any 0 0 none none 0 0 [] [] W.heap.size (by simp) W (no_words _ _) (no_words _ _) (Nat.le_refl _)
  rw [show (((0 : Int) == 0) && sameB [] []) = true from by rw [same_refl]; rfl] at d4
  have d5 := fun W (hW : Ready a us n₀ W) => DownsAll_any 16 (by omega) a cap us n₀ hW.fit hl16 W hW.wds hW.le
  rw [hc] at d3
  have Hb := hide hb0
  clear hb0 hc
  go_enter Tryd.func4, Tryd.ntmps4
  go_wp2_with fail
  refine d1.mono ?_
  rintro e w1 ⟨ds, hT, hb1, hAns⟩
  have hs1 := hb1.size
  have R2 := R1.step hb1
  have q0 := row_below r0 hb1 r0.lt
  have hAL : (allD ds).length ≤ 65536 := allD_len (by rw [hT.len]; exact hl16)
  have hlD := hT.len
  clear d1
  rcases hAns with ⟨hbig, rfl⟩ | ⟨hsm, g, rfl, hg1, rU⟩
  · obtain ⟨rp, hb2, hs2⟩ := one_row w1 24 (.int .i64 0) (.slice none 0 0) rfl
    have R3 := R2.step hb2
    have q1 := row_below q0 hb2 q0.lt
    have j0 := q1.cell (i := 0) rfl
    have j1 := q1.cell (i := 1) rfl
    go_wp2_with fail
    refine (d3 _ R3).mono ?_
    rintro e w3 ⟨rfl, hb3⟩
    have hs3 := hb3.size
    have R4 := R3.step hb3
    have p0 := row_below rp hb3 rp.lt
    have q2 := row_below q1 hb3 q1.lt
    have l0 := q2.cell (i := 0) rfl
    have l1 := q2.cell (i := 1) rfl
    clear j0 j1 d3
    go_wp2_with fail
    refine (d5 _ R4).mono ?_
    rintro e w4 ⟨ds3, v3, rfl, hT3, hb4, hown4⟩
    obtain rfl : ds = ds3 := hT.unique hT3
    have hs4 := hb4.size
    have p1 := row_below p0 hb4 p0.lt
    have k0 := p1.cell (i := 0) rfl
    have k1 := p1.cell (i := 1) rfl
    have x4 := d4 w4
    clear l0 l1 d4 d5 hT hT3 hown4
    go_wp2_with (go_at_call 15; refine x4.mono ?_; rintro e w5 ⟨rfl, hb5⟩)
    go_ret
    exact ⟨ret_bool (by simp), ((((Hb.out.trans (hb1.mono (by omega))).trans (hb2.mono (by omega))).trans (hb3.mono (by omega))).trans (hb4.mono (by omega))).trans (hb5.mono (by omega))⟩
  · obtain ⟨rp, hb2, hs2⟩ := one_row w1 24 (.int .i64 ((allD ds).length : Nat)) (.slice (some ⟨g, 0, none⟩) (allD ds).length (allD ds).length) rfl
    have R3 := R2.step hb2
    have q1 := row_below q0 hb2 q0.lt
    have j0 := q1.cell (i := 0) rfl
    have j1 := q1.cell (i := 1) rfl
    have u1 := row_below rU hb2 rU.lt
    go_wp2_with fail
    refine (d3 _ R3).mono ?_
    rintro e w3 ⟨rfl, hb3⟩
    have hs3 := hb3.size
    have R4 := R3.step hb3
    have p0 := row_below rp hb3 rp.lt
    have q2 := row_below q1 hb3 q1.lt
    have u2 := row_below u1 hb3 u1.lt
    have l0 := q2.cell (i := 0) rfl
    have l1 := q2.cell (i := 1) rfl
    clear j0 j1 d3
    go_wp2_with fail
    refine (d5 _ R4).mono ?_
    rintro e w4 ⟨ds3, v3, rfl, hT3, hb4, hown4⟩
    obtain rfl : ds = ds3 := hT.unique hT3
    have hs4 := hb4.size
    rw [List.take_of_length_le hsm] at hown4
    obtain ⟨av, cv, rfl, hwv⟩ := ownsRow_words hown4
    have hfL : ∀ i, wd (allD ds) i < 4294967296 := fun i => by
      by_cases h : i < (allD ds).length
      · have := allD_lt (by omega) (wd_mem h); omega
      · unfold wd; rw [List.getD_eq_getElem?_getD, List.getElem?_eq_none (by omega)]; decide
    have p1 := row_below p0 hb4 p0.lt
    have u3 := row_below u2 hb4 u2.lt
    generalize allD ds = L at *
    have x5 := RefIncl_any av cv L w4.heap.size hfL hsm w4.drew hwv (Nat.le_refl _)
    have pd : Row w4.drew w1.heap.size 24 [.int .i64 (L.length : Nat), .slice (some ⟨g, 0, none⟩) L.length L.length] := p1
    have ud : Row w4.drew g 53 (wvals (inclL L)) := u3
    have ltp := pd.lt
    have ltu := ud.lt
    have k0 := pd.cell (i := 0) rfl
    have k1 := pd.cell (i := 1) rfl
    have HB := hide (((Hb.out.trans (hb1.mono (by omega))).trans (hb2.mono (by omega))).trans (hb3.mono (by omega)))
    clear l0 l1 d4 d5 hT hT3 hown4 hfL
    have hmx : Tryd.prog.follows .mixedOrders = true := by kernel_rfl
    go_wp2_with fail
    first | go_region_with (first
        | (go_at_call 16; refine x5.mono ?_; rintro e w5 ⟨v5, rfl, hb5, hown5⟩; have p2 := row_below pd hb5 ltp; have u4 := row_below ud hb5 ltu; have m0 := p2.cell (i := 0) rfl; have m1 := p2.cell (i := 1) rfl; have hIL := inclL_len L; obtain ⟨a5, c5, rfl, hw5⟩ := ownsRow_words hown5; have hs5 := hb5.size; have x6 := Orders_any (L.length : Nat) (L.length : Nat) (some ⟨g, 0, none⟩) a5 L.length c5 (inclL L) (inclL L) w5.heap.size (by omega) w5 (u4.words u4.lt) hw5 (Nat.le_refl _); rw [same_refl, hIL] at x6)
        | (go_at_call 15; refine x6.mono ?_; rintro e w6 ⟨rfl, hb6⟩)) | fail
    all_goals
      go_wp2_with fail
      go_ret
      refine ⟨ret_bool (by simp), ?_⟩
      have hb4' : Below w3.heap.size w3 w4.drew := hb4.drew
      have hs4' : w4.drew.heap.size = w4.heap.size := rfl
      exact ((HB.out.trans (hb4'.mono (by omega))).trans (hb5.mono (by omega))).trans (hb6.mono (by omega))

/-- **DownsInclusion answers true, for every order, and writes nothing that was there** -/
theorem dincl_any (n : Int) (a : Option Addr) (cap : Nat) (us : List Nat) (n₀ : Nat) (hf : Fit us) (w : World) (hT : TabAt w) (hw : IsWords n₀ w a us) (hg : 0 < n₀) (hn₀ : n₀ ≤ w.heap.size) :
    Calls Tryd.prog 4 #[.agg #[.int .i64 n, .slice a us.length cap]] w fun e w' => e = .returned (.bool true) ∧ Below w.heap.size w w' := by
  have hR : Ready a us n₀ w := ⟨hf, hT, hw, hg, hn₀⟩
  by_cases hc : codeOf n us = 0
  · have hl := (code_zero hc).2.2.1
    subst hl
    exact dincl_ok a cap us n₀ w hR hc
  · exact dincl_bad n a cap us n₀ w hR hc
end Go.Proofs.YtdomcjfgmnpbmaaDoor
