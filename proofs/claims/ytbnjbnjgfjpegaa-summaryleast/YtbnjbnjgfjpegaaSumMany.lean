/- The document's SummariesSame. -/
import Derived.Test.YtbnjbnjgfjpegaaSumLeast
import Derived.Test.YtbnjbnjgfjpegaaSumSame
import Derived.Lib.QuietBelow
import Derived.BigQuiet
namespace Go.Proofs.Ytbnjbnjgfjpegaa
open Go.RowKit Go.Shelf

theorem sl_ext {A B : List Su} (hl : A.length = B.length) (h : ∀ i, i < A.length → (nthU A i).sm = (nthU B i).sm) : sl A = sl B := by
  apply List.ext_getElem
  · rw [sl_len, sl_len, hl]
  · intro i h1 h2
    rw [sl_len] at h1 h2
    rw [sl_at h1, sl_at h2]; exact h i h1
theorem rssame_re (u v : Su) (n₀ : Nat) (h1 : u.z.length ≤ 17592186044416) (W : World) (hz1 : ZInts n₀ W u.a u.z) (hz2 : ZInts n₀ W v.a v.z) (hn₀ : n₀ ≤ W.heap.size) (b : Bool) (hb : sameM u.sm v.sm = b) (d : Nat) (os : Array Obj) :
    Calls Try.prog 14 #[u.val, v.val] (Go.Sort.grow (redrawn W d) os) fun e w'' => e = .returned (.bool b) ∧ ∃ p : Regrown, w'' = Go.Sort.grow (redrawn W p.d) p.os := by
  subst hb
  have hB := below_regrown W d os
  exact Calls.regrown_of (rssame_any u.k u.d u.a u.cap u.z v.k v.d v.a v.cap v.z n₀ h1 _ (hz1.below (hB.mono hn₀)) (hz2.below (hB.mono hn₀)) (by have := hB.size; omega))
set_option maxRecDepth 100000 in
set_option maxHeartbeats 2000000 in
theorem rsames_any (a : Option Addr) (ca : Nat) (A : List Su) (b : Option Addr) (cb : Nat) (B : List Su) (n₀ : Nat) (hlA : A.length ≤ 1048576) (w : World) (hA : OuterU n₀ w a A) (hB : OuterU n₀ w b B) (iA : InnerU n₀ w A) (iB : InnerU n₀ w B) (hn₀ : n₀ ≤ w.heap.size) :
    Calls Try.prog 7 #[.slice a A.length ca, .slice b B.length cb] w fun e w' => (∃ r : Bool, e = .returned (.bool r) ∧ (r = true ↔ sl A = sl B)) ∧ Below w.heap.size w w' := by
  by_cases hl : A.length = B.length
  · have e0 : ((A.length : Int) != (B.length : Int)) = false := by rw [bne_eq_false_iff_eq]; omega
    have HL := hide hl
    clear hl
    go_enter Try.func7, Try.ntmps7
    go_wp2_with fail
    go_loopw [5] (fun i wr => ∃ k : Nat, k ≤ A.length ∧ i = .int .i64 k ∧ Below w.heap.size w wr ∧ Hid (∀ j, j < k → (nthU A j).sm = (nthU B j).sm)) (fun i _ => A.length - (intOf i).toNat)
    case atStart => exact ⟨0, Nat.zero_le _, rfl, Below.refl _ _, hide fun j hj => by omega⟩
    case round =>
      obtain ⟨k, hk, rfl, hW, HS⟩ := hrel
      have hWs := hW.size
      by_cases hlt : k < A.length
      · have hlt2 : k < B.length := by have := HL.out; omega
        obtain ⟨b1, o1, rfl, hb1, hc1⟩ := (hA.below (hW.mono hn₀)).at hlt
        obtain ⟨b2, o2, rfl, hb2, hc2⟩ := (hB.below (hW.mono hn₀)).at hlt2
        obtain ⟨x0, x1, x2⟩ := hc1 k hlt
        obtain ⟨y0, y1, y2⟩ := hc2 k hlt2
        obtain ⟨zA, lA, _⟩ := iA k hlt
        obtain ⟨zB, _, _⟩ := iB k hlt2
        have hcall := rssame_re (nthU A k) (nthU B k) n₀ lA wr (zA.below (hW.mono hn₀)) (zB.below (hW.mono hn₀)) (by omega)
        have HU := hide (show (nthU A k).sm = (nthU B k).sm → ∀ j, j < k + 1 → (nthU A j).sm = (nthU B j).sm from fun h j hj => by
          by_cases ej : j = k
          · rw [ej]; exact h
          · exact HS.out j (by omega))
        have HN := hide (show (nthU A k).sm ≠ (nthU B k).sm → ¬ sl A = sl B from fun h e => h (by
          rw [← sl_at hlt, ← sl_at hlt2]
          simp only [e]))
        clear hc1 hc2 zA zB
        obtain ⟨u, eu⟩ : ∃ u, nthU A k = u := ⟨_, rfl⟩
        obtain ⟨v, ev⟩ : ∃ v, nthU B k = v := ⟨_, rfl⟩
        rw [eu] at x0 x1 x2 hcall HU HN
        rw [ev] at y0 y1 y2 hcall HU HN
        clear eu ev lA
        obtain ⟨k1, d1, a1, c1, z1⟩ := u
        obtain ⟨k2, d2, a2, c2, z2⟩ := v
        unfold Su.val Su.sm at hcall
        dsimp only at x0 x1 x2 y0 y1 y2 hcall
        have X0 := cell_regrown x0
        have X1 := cell_regrown x1
        have X2 := cell_regrown x2
        have Y0 := cell_regrown y0
        have Y1 := cell_regrown y1
        have Y2 := cell_regrown y2
        clear x0 x1 x2 y0 y1 y2 iA iB hA hB
        cases hs : sameM ⟨k1, d1, z1⟩ ⟨k2, d2, z2⟩ with
        | true =>
          have hc := hcall true hs
          have HF := hide (HU.out (sameM_true.1 hs))
          clear hcall hs HU HN
          go_wp2_with fail
          refine wp_region_quiet_below (by kernel_rfl) (by kernel_rfl) ?_
          repeat (go_big_quiet_step (with_reducible exact hc _ _))
          refine wpQuiet_nil ?_
          intro _ hw'
          obtain ⟨⟨dq, osq⟩, hw''⟩ := hw'
          subst hw''
          have hbk := hW.trans ((below_regrown wr dq osq).mono hW.size)
          clear hc X0 X1 X2 Y0 Y1 Y2
          go_wp2_with fail
          exact ⟨⟨k + 1, by omega, by go_num, hbk, HF⟩, by simp [intOf]; omega⟩
        | false =>
          have hc := hcall false hs
          have HF := hide (HN.out (sameM_false.1 hs))
          clear hcall hs HU HN
          go_wp2_with fail
          refine wp_region_quiet_below (by kernel_rfl) (by kernel_rfl) ?_
          repeat (go_big_quiet_step (with_reducible exact hc _ _))
          refine wpQuiet_nil ?_
          intro _ hw'
          obtain ⟨⟨dq, osq⟩, hw''⟩ := hw'
          subst hw''
          have hbk := hW.trans ((below_regrown wr dq osq).mono hW.size)
          clear hc X0 X1 X2 Y0 Y1 Y2
          go_wp2_with fail
          go_ret
          exact ⟨⟨false, rfl, ⟨(fun h => nomatch h), (fun h => absurd h HF.out)⟩⟩, hbk⟩
      · have HF := hide (sl_ext HL.out fun i hi => HS.out i (by omega))
        clear iA iB
        go_wp2_with fail
        go_ret
        exact ⟨⟨true, rfl, ⟨fun _ => HF.out, fun _ => rfl⟩⟩, hW⟩
  · have e0 : ((A.length : Int) != (B.length : Int)) = true := by rw [bne_iff_ne]; omega
    have HF := hide (show ¬ sl A = sl B from fun e => hl (by rw [← sl_len A, ← sl_len B, e]))
    clear hl
    go_enter Try.func7, Try.ntmps7
    go_wp2_with fail
    go_ret
    exact ⟨⟨false, rfl, ⟨(fun h => nomatch h), (fun h => absurd h HF.out)⟩⟩, Below.refl _ _⟩
end Go.Proofs.Ytbnjbnjgfjpegaa
