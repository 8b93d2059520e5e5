/- The walk of the law DownsDistributive: it answers true, and writes nothing that was there. -/
import Derived.Test.YtdomcjfgmnpbmaaDoorPart15
import Derived.Test.YtdomcjfgmnpbmaaDoorPart27
import Derived.Test.YtdomcjfgmnpbmaaDoorPart28
import Derived.Test.YtdomcjfgmnpbmaaDoorPart30
namespace Go.Proofs.YtdomcjfgmnpbmaaDoor
open Go.RowKit Go.Shelf

set_option maxRecDepth 100000 in
set_option maxHeartbeats 1000000 in
theorem ddistr_bad (n : Int) (a : Option Addr) (cap : Nat) (us : List Nat) (n₀ : Nat) (w : World) (hR : Ready a us n₀ w) (hc : codeOf n us ≠ 0) :
    Calls Tryd.prog 6 #[.agg #[.int .i64 n, .slice a us.length cap]] w fun e w' => e = .returned (.bool true) ∧ Below w.heap.size w w' := by
  obtain ⟨r0, hb0, hs0⟩ := one_row w 24 (.int .i64 n) (.slice a us.length cap) rfl
  have R1 := hR.step hb0
  have d1 := Incl_bad n a cap us n₀ _ R1 hc
  generalize codeOf n us = c at *
  have hne : (c != 0) = true := by rw [bne_iff_ne]; exact hc
  have Hb := hide hb0
  clear hb0 hc
  go_enter Tryd.func6, Tryd.ntmps6
  go_wp2_with fail
  refine d1.mono ?_
  rintro e w1 ⟨rfl, hb1⟩
  have hs1 := hb1.size
  go_wp2_with fail
  go_ret
  exact ⟨rfl, (Hb.out.trans (hb1.mono (by omega))).alloc (by omega) _⟩

set_option maxRecDepth 100000 in
set_option maxHeartbeats 1000000 in
theorem ddistr_ok (a : Option Addr) (cap : Nat) (us : List Nat) (n₀ : Nat) (w : World) (hR : Ready a us n₀ w) (hc : codeOf us.length us = 0) :
    Calls Tryd.prog 6 #[.agg #[.int .i64 us.length, .slice a us.length cap]] w fun e w' => e = .returned (.bool true) ∧ Below w.heap.size w w' := by
  obtain ⟨r0, hb0, hs0⟩ := one_row w 24 (.int .i64 us.length) (.slice a us.length cap) rfl
  obtain ⟨_, h16, _, hin, hord⟩ := code_zero hc
  have hl16 : us.length ≤ 16 := by omega
  have R1 := hR.step hb0
  have hf := hR.fit
  have d1 := Incl_ok a cap us n₀ _ R1 hc
  have HI := hide hin
  have HO := hide hord
  have Hb := hide hb0
  clear hb0 hc hin hord
  go_enter Tryd.func6, Tryd.ntmps6
  go_wp2_with fail
  refine d1.mono ?_
  rintro e w1 ⟨ds, hT, hb1, hAns⟩
  have hs1 := hb1.size
  have R2 := R1.step hb1
  have q0 := row_below r0 hb1 r0.lt
  have hlD := hT.len
  have HB1 := hide (Hb.out.trans (hb1.mono (by omega)))
  clear d1
  rcases hAns with ⟨hbig, rfl⟩ | ⟨hsm, g, rfl, hg1, rU⟩
  · clear hT hbig
    go_wp2_with fail
    go_ret
    exact ⟨rfl, HB1.out.alloc (by omega) _⟩
  · have hfL : ∀ i, wd (allD ds) i < 4294967296 := fun i => by
      by_cases h : i < (allD ds).length
      · have := allD_lt (by omega) (wd_mem h); omega
      · unfold wd; rw [List.getD_eq_getElem?_getD, List.getElem?_eq_none (by omega)]; decide
    have hd := Dn.of_tur hT
    have hA : AllDown us (allD ds) := fun s => mem_allD hd
    have H := byIncl_incl (nodup_allD ds) hfL
    have hPl := inclL_len (allD ds)
    have hPf := fit_inclL hsm
    have hPc := incl_code H hsm
    obtain ⟨es, hTe⟩ := tur_ex hPf (by rw [hPl]; exact hsm)
    have hlat := incl_lat hl16 hd hA H hTe
    have hdis := fun js ms => incl_distr (js := js) (ms := ms) hl16 hd hA H hTe
    obtain ⟨hlo, hhi⟩ := incl_irr hl16 HI.out HO.out hf hd hA H hTe
    generalize allD ds = L at *
    generalize inclL L = P at *
    clear H hA hd hfL hT
    obtain ⟨rp, hb2, hs2⟩ := one_row w1 24 (.int .i64 (L.length : Nat)) (.slice (some ⟨g, 0, none⟩) L.length L.length) rfl
    have R3 := R2.step hb2
    have q1 := row_below q0 hb2 q0.lt
    have ltu := rU.lt
    have u1 := row_below rU hb2 ltu
    have RP : Ready (some ⟨g, 0, none⟩) P (w1.heap.size + 1) (w1.alloc (.cells #[.int .i64 (L.length : Nat), .slice (some ⟨g, 0, none⟩) L.length L.length] 24)) :=
      ⟨hPf, R3.tab, u1.words (by omega), by have := R3.glo; have := R2.le; omega, by omega⟩
    have d2 := Kind_ok (some ⟨g, 0, none⟩) L.length P es (w1.heap.size + 1) hPf _ RP.tab RP.wds RP.glo RP.le hPc hTe hlat
    have d3 := fun W (hW : Ready (some ⟨g, 0, none⟩) P (w1.heap.size + 1) W) => Irr_ok P.length (some ⟨g, 0, none⟩) L.length P es (w1.heap.size + 1) hPf W hW.tab hW.wds hW.glo hW.le hPc hTe hlat
    rw [hPl] at d2
    simp only [hPl] at d3
    simp only [hlo, hhi] at d3
    have hdis' := hdis
    clear hPc hTe hlat hdis
    have HD := hide hdis'
    clear hdis'
    go_wp2_with fail
    refine d2.mono ?_
    rintro e w3 ⟨js, ms, hj, hm, hb3, rfl⟩
    have hdd : (kindOf js ms L.length (triA L.length L.length)).d = true := by
      rw [kind_distr, ← hPl]
      exact HD.out js ms (by rw [hPl]; exact hj) (by rw [hPl]; exact hm)
    rw [hdd]
    clear hdd hj hm
    generalize kindOf js ms L.length (triA L.length L.length) = kd
    generalize complTo js ms L.length (gath (at2 ms L.length) 0 L.length) (gath (at2 js L.length) 0 L.length) L.length = cp
    have hs3 := hb3.size
    have RP3 := RP.step hb3
    have p3 := row_below rp hb3 rp.lt
    have q2 := row_below q1 hb3 q1.lt
    have hkr := Row.new w3 40 [.bool true, .bool kd.m, .bool cp, .int .i64 (kd.a : Nat), .int .i64 (kd.b : Nat), .int .i64 (kd.c : Nat)]
    have hb4 : Below w3.heap.size w3 (w3.alloc (.cells #[.bool true, .bool kd.m, .bool cp, .int .i64 (kd.a : Nat), .int .i64 (kd.b : Nat), .int .i64 (kd.c : Nat)] 40)) := (Below.refl _ _).alloc (Nat.le_refl _) _
    have p4 := row_below p3 hb4 p3.lt
    have q4 := row_below q2 hb4 q2.lt
    have k0 := p4.cell (i := 0) rfl
    have k1 := p4.cell (i := 1) rfl
    have hz4 : w3.heap.size ≤ (w3.alloc (.cells #[.bool true, .bool kd.m, .bool cp, .int .i64 (kd.a : Nat), .int .i64 (kd.b : Nat), .int .i64 (kd.c : Nat)] 40)).heap.size := hb4.size
    have x5 := d3 _ (RP3.step hb4)
    clear d2 d3
    go_wp2_with fail
    refine x5.mono ?_
    rintro e w5 ⟨a1, c1, a2, c2, rfl, hb5, _, _⟩
    have kr5 := row_below hkr hb5 hkr.lt
    have q5 := row_below q4 hb5 q4.lt
    have m0 := kr5.cell (i := 0) rfl
    have n0 := q5.cell (i := 0) rfl
    clear x5 k0 k1
    go_wp2_with fail
    go_ret
    exact ⟨ret_bool (by simp), (((HB1.out.trans (hb2.mono (by omega))).trans (hb3.mono (by omega))).trans (hb4.mono (by omega))).trans (hb5.mono (by omega))⟩

/-- **DownsDistributive answers true, for every order, and writes nothing that was there** -/
theorem ddistr_any (n : Int) (a : Option Addr) (cap : Nat) (us : List Nat) (n₀ : Nat) (hf : Fit us) (w : World) (hT : TabAt w) (hw : IsWords n₀ w a us) (hg : 0 < n₀) (hn₀ : n₀ ≤ w.heap.size) :
    Calls Tryd.prog 6 #[.agg #[.int .i64 n, .slice a us.length cap]] w fun e w' => e = .returned (.bool true) ∧ Below w.heap.size w w' := by
  have hR : Ready a us n₀ w := ⟨hf, hT, hw, hg, hn₀⟩
  by_cases hc : codeOf n us = 0
  · have hl := (code_zero hc).2.2.1
    subst hl
    exact ddistr_ok a cap us n₀ w hR hc
  · exact ddistr_bad n a cap us n₀ w hR hc
end Go.Proofs.YtdomcjfgmnpbmaaDoor
