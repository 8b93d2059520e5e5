/- The contract of the document's OrderHeights: as many turns as elements, in each what is too low is raised. -/
import Derived.Test.YthhjhfjildmbhaaDoorRefCovers
import Derived.Test.YthhjhfjildmbhaaDoorBoxMore
import Derived.Test.YthhjhfjildmbhaaDoorChainPlain
import Derived.Test.YthhjhfjildmbhaaDoorHeights
import Derived.Lib.QuietBelow
import Derived.BigQuiet
namespace Go.Proofs.YthhjhfjildmbhaaDoor
open Go.RowKit Go.Shelf

/-- hs after T turns, in the next one as far as i, and there j: H are the heights -/
structure Rel (us : List Nat) (H : Nat → Nat) (T i j : Nat) (hs : List Nat) : Prop where
  len : hs.length = us.length
  le : ∀ x, x < us.length → wd hs x ≤ H x
  lo : ∀ x, x < us.length → min (H x) T ≤ wd hs x
  done : ∀ x, x < i → x < us.length → min (H x) (T + 1) ≤ wd hs x
  cur : ∀ y, y < j → y < us.length → underB us y i = true → min (H y) T + 1 ≤ wd hs i
section
variable {us : List Nat} {H : Nat → Nat} {T i j : Nat} {hs : List Nat}
theorem Rel.start (us : List Nat) (H : Nat → Nat) : Rel us H 0 0 0 (List.replicate us.length 0) :=
  ⟨by simp, fun x _ => by rw [wd_replicate]; omega, fun x _ => by rw [wd_replicate]; omega, fun x hx => by omega, fun y hy => by omega⟩
theorem Rel.skip (h : Rel us H T i j hs) (hu : underB us j i = true → wd hs j + 1 ≤ wd hs i) (hj : j < us.length) : Rel us H T i (j + 1) hs :=
  ⟨h.len, h.le, h.lo, h.done, fun y hy hyn hR => by
    by_cases e : y = j
    · subst e; have := hu hR; have := h.lo y hyn; omega
    · exact h.cur y (by omega) hyn hR⟩
theorem Rel.raise (hh : IsHt (underB us) us.length H) (h : Rel us H T i j hs) (hi : i < us.length) (hj : j < us.length) (hu : underB us j i = true) (hlt : wd hs i < wd hs j + 1) : Rel us H T i (j + 1) (hs.set i (wd hs j + 1)) := by
  have hil : i < hs.length := by rw [h.len]; exact hi
  have hne : ¬ i = j := fun e => by rw [e, under_irr] at hu; cases hu
  have h1 := (hh i hi).1 j hj hu
  refine ⟨by rw [List.length_set]; exact h.len, fun x hx => ?_, fun x hx => ?_, fun x hx hxn => ?_, fun y hy hyn hR => ?_⟩
  · rw [wd_set hil]; split
    · rename_i e; subst e; have := h.le j hj; omega
    · exact h.le x hx
  · rw [wd_set hil]; split
    · rename_i e; subst e; have := h.lo i hi; omega
    · exact h.lo x hx
  · rw [wd_set hil]; split
    · omega
    · exact h.done x hx hxn
  · rw [wd_set hil, if_pos rfl]
    by_cases e : y = j
    · subst e; have := h.lo y hyn; omega
    · have := h.cur y (by omega) hyn hR; omega
theorem Rel.nextRow (hh : IsHt (underB us) us.length H) (h : Rel us H T i us.length hs) (hi : i < us.length) : Rel us H T (i + 1) 0 hs :=
  ⟨h.len, h.le, h.lo, fun x hx hxn => by
    by_cases e : x = i
    · subst e
      rcases (hh x hi).2 with z | ⟨y, hy, hR, z⟩
      · omega
      · have := h.cur y hy hy hR; omega
    · exact h.done x (by omega) hxn, fun y hy => by omega⟩
theorem Rel.nextTurn (h : Rel us H T us.length 0 hs) : Rel us H (T + 1) 0 0 hs :=
  ⟨h.len, h.le, fun x hx => h.done x hx hx, fun x hx => by omega, fun y hy => by omega⟩
theorem Rel.all (h : Rel us H T i j hs) (hT : ∀ x, x < us.length → H x ≤ T) {x : Nat} (hx : x < us.length) : wd hs x = H x := by
  have := h.le x hx; have := h.lo x hx; have := hT x hx; omega
end

set_option maxRecDepth 100000 in
set_option maxHeartbeats 1000000 in
theorem OrderHeights_any (a : Option Addr) (cap : Nat) (us : List Nat) (H : Nat → Nat) (n₀ : Nat) (hf : Fit us) (hl : us.length ≤ 16) (hh : IsHt (underB us) us.length H) (hHn : ∀ x, x < us.length → H x ≤ us.length) (w : World) (hw : IsWords n₀ w a us) (hn₀ : n₀ ≤ w.heap.size) :
    Calls Tryd.prog 24 #[.agg #[.int .i64 us.length, .slice a us.length cap]] w fun e w' => ∃ hs, e = .returned (.slice (some ⟨w.heap.size + 1, 0, none⟩) us.length us.length) ∧ Below w.heap.size w w' ∧ Row w' (w.heap.size + 1) 3 (ivals hs) ∧ hs.length = us.length ∧ ∀ x, x < us.length → wd hs x = H x := by
  have hmk := run_make_row' (P := Tryd.prog) 39 3 (.int .i64 0) 8 Tryd.underlying39 info_int rfl .i64 .i64 us.length (by omega) (by omega)
  have r1 := Row.new (w.alloc (.cells #[.int .i64 us.length, .slice a us.length cap] 24)) 3 (ivals (List.replicate us.length 0))
  rw [World.size_alloc, ← ivals_replicate] at r1
  go_enter Tryd.func24, Tryd.ntmps24
  go_wp2
  go_loopw [4] (fun t wr => ∃ (T : Nat) (hs : List Nat), T ≤ us.length ∧ t = .int .i64 T ∧ Rel us H T 0 0 hs ∧ InBox w.heap.size w wr us.length a us.length cap ∧ Row wr (w.heap.size + 1) 3 (ivals hs)) (fun t _ => us.length - (intOf t).toNat)
  case atStart => exact ⟨0, _, Nat.zero_le _, rfl, Rel.start us H, ⟨by simp, by simp, ((Below.refl _ _).alloc (Nat.le_refl _) _).alloc (by simp) _, by simp; omega⟩, r1⟩
  case round =>
    clear hmk r1
    obtain ⟨T, hs, hT, rfl, hT0, hbox, rH⟩ := hrel
    have hc0 := hbox.c0
    by_cases hlt : T < us.length
    · go_wp2
      go_loopw [5] (fun i wr => ∃ (k : Nat) (hs : List Nat), k ≤ us.length ∧ i = .int .i64 k ∧ Rel us H T k 0 hs ∧ InBox w.heap.size w wr us.length a us.length cap ∧ Row wr (w.heap.size + 1) 3 (ivals hs)) (fun i _ => us.length - (intOf i).toNat)
      case atStart => exact ⟨0, hs, Nat.zero_le _, rfl, hT0, hbox, rH⟩
      case round =>
        clear hc0 hbox rH hT0
        obtain ⟨k, hs, hk, rfl, hT0, hbox, rH⟩ := hrel
        have hc0 := hbox.c0
        by_cases hlk : k < us.length
        · go_wp2
          go_loopw [6] (fun j wr => ∃ (q : Nat) (hs : List Nat), q ≤ us.length ∧ j = .int .i64 q ∧ Rel us H T k q hs ∧ InBox w.heap.size w wr us.length a us.length cap ∧ Row wr (w.heap.size + 1) 3 (ivals hs)) (fun j _ => us.length - (intOf j).toNat)
          case atStart => exact ⟨0, hs, Nat.zero_le _, rfl, hT0, hbox, rH⟩
          case round =>
            clear hc0 hbox rH hT0
            obtain ⟨q, hs, hq, rfl, hT0, hbox, rH⟩ := hrel
            have hc0 := hbox.c0
            have hc1 := hbox.c1
            by_cases hlq : q < us.length
            · have hrs := hbox.le
              have cK := rH.cell (i := k) (ivals_at (by rw [hT0.len]; exact hlk))
              have cQ := rH.cell (i := q) (ivals_at (by rw [hT0.len]; exact hlq))
              have fK := rH.frozen k
              have hqs : wd hs q ≤ 16 := by have := hT0.le q hlq; have := hHn q hlq; omega
              have cU : ∀ d os, Calls Tryd.prog 41 #[.agg #[.int .i64 us.length, .slice a us.length cap], .int .i64 (q : Nat), .int .i64 (k : Nat)] (Go.Sort.grow (redrawn wr d) os) fun e w'' => e = .returned (.bool (underB us q k)) ∧ ∃ p : Regrown, w'' = Go.Sort.grow (redrawn wr p.d) p.os := fun d os => Calls.regrown_of
                (Under_any us.length a cap us q k n₀ hf hlq (by omega) (Go.Sort.grow (redrawn wr d) os) ((hw.below (hbox.bel.mono hn₀)).below ((below_regrown wr d os).mono (by omega))) (by have := (below_regrown wr d os).size; omega))
              have k0 := cell_regrown hc0
              have k1 := cell_regrown hc1
              have k2 := cell_regrown cK
              have k3 := cell_regrown cQ
              have ltR := rH.lt
              cases hu : underB us q k with
              | false =>
                rw [hu] at cU
                have HS := hide (hT0.skip (fun h => by rw [hu] at h; cases h) hlq)
                clear hu hc1 cK cQ
                go_wp2
                refine wp_region_quiet_below (by kernel_rfl) (by kernel_rfl) ?_
                repeat (go_big_quiet_step (exact cU _ _))
                refine wpQuiet_nil ?_
                intro _ hw'
                obtain ⟨⟨dq, osq⟩, hw''⟩ := hw'
                subst hw''
                go_wp2
                go_roundw
                case rel => exact ⟨q + 1, hs, by omega, by go_num, HS.out, hbox.step hrs (below_regrown _ dq osq), row_below rH (below_regrown _ dq osq) ltR⟩
                case measure => simp [intOf]; omega
              | true =>
                rw [hu] at cU
                by_cases hlow : wd hs k < wd hs q + 1
                · have HS := hide (hT0.raise hh hlk hlq hu hlow)
                  have hd : decide (((wd hs k : Nat) : Int) < ((wd hs q : Nat) : Int) + 1) = true := by rw [decide_eq_true_iff]; omega
                  clear hu hc1 cK cQ hlow
                  go_wp2
                  refine wp_region_quiet_below (by kernel_rfl) (by kernel_rfl) ?_
                  repeat (go_big_quiet_step (exact cU _ _))
                  refine wpQuiet_nil ?_
                  intro _ hw'
                  obtain ⟨⟨dq, osq⟩, hw''⟩ := hw'
                  subst hw''
                  have hbox' := hbox.step hrs (below_regrown wr dq osq)
                  have rH' := row_below rH (below_regrown wr dq osq) ltR
                  have fK' := rH'.frozen k
                  have cK' := k2 dq osq
                  have cQ' := k3 dq osq
                  clear k0 k1 k2 k3 cU hc0 fK
                  generalize Go.Sort.grow (redrawn wr dq) osq = V at *
                  go_wp2
                  have hcast : (((wd hs q : Nat) : Int) + 1) = ((wd hs q + 1 : Nat) : Int) := by omega
                  rw [hcast]
                  have rH2 := rH'.set k (.int .i64 ((wd hs q + 1 : Nat) : Int))
                  rw [ivals_set] at rH2
                  exact ⟨⟨q + 1, _, by omega, by go_num, HS.out, hbox'.grown (grownBy_setCellAt V (w.heap.size + 1) k _) (fun j e => by cases e; omega), rH2⟩, by simp [intOf]; omega⟩
                · have HS := hide (hT0.skip (fun _ => by omega) hlq)
                  have hd : decide (((wd hs k : Nat) : Int) < ((wd hs q : Nat) : Int) + 1) = false := by rw [decide_eq_false_iff_not]; omega
                  clear hu hc1 cK cQ hlow
                  go_wp2
                  refine wp_region_quiet_below (by kernel_rfl) (by kernel_rfl) ?_
                  repeat (go_big_quiet_step (exact cU _ _))
                  refine wpQuiet_nil ?_
                  intro _ hw'
                  obtain ⟨⟨dq, osq⟩, hw''⟩ := hw'
                  subst hw''
                  go_wp2
                  go_roundw
                  case rel => exact ⟨q + 1, hs, by omega, by go_num, HS.out, hbox.step hrs (below_regrown _ dq osq), row_below rH (below_regrown _ dq osq) ltR⟩
                  case measure => simp [intOf]; omega
            · obtain rfl : q = us.length := by omega
              go_wp2
              exact ⟨⟨k + 1, hs, by omega, by go_num, hT0.nextRow hh hlk, hbox, rH⟩, by simp [intOf]; omega⟩
        · obtain rfl : k = us.length := by omega
          go_wp2
          exact ⟨⟨T + 1, hs, by omega, by go_num, hT0.nextTurn, hbox, rH⟩, by simp [intOf]; omega⟩
    · obtain rfl : T = us.length := by omega
      go_wp2
      go_ret
      exact ⟨hs, rfl, hbox.bel, rH, hT0.len, fun x hx => hT0.all hHn hx⟩
end Go.Proofs.YthhjhfjildmbhaaDoor
