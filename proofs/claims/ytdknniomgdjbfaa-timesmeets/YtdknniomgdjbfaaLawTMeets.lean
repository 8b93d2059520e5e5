/- The walk of the law TimesMeets: it answers true, and writes nothing that was there. -/
import Derived.Test.YtdknniomgdjbfaaTimEither
namespace Go.Proofs.Ytdknniomgdjbfaa
open Go.RowKit Go.Shelf

theorem open_append (ls ms : List (List Int)) (t : List Int) : openB (ls ++ ms) t = (openB ls t || openB ms t) := by unfold openB; rw [List.any_append]
theorem join_leq {a b t : List Int} (h : codeP a b = 0) : leqT (joinT true a b) t = true ↔ leqT a t = true ∧ leqT b t = true := by
  obtain ⟨h1, h2, h3⟩ := codeP_zero h
  have hj := joinT_code (up := true) h
  rw [leqT_true, leqT_true, leqT_true]
  constructor
  · rintro ⟨hc, hle⟩
    obtain ⟨_, ht, hl⟩ := codeP_zero hc
    rw [joinT_len] at hl
    refine ⟨⟨codeP_ok h1 ht hl, fun i hi => ?_⟩, codeP_ok h2 ht (by omega), fun i hi => ?_⟩
    · have := hle i (by rw [joinT_len]; exact hi)
      rw [zd_joinT hi] at this
      simp at this; omega
    · have := hle i (by rw [joinT_len]; omega)
      rw [zd_joinT (by omega)] at this
      simp at this; omega
  · rintro ⟨⟨hc, hle⟩, hc2, hle2⟩
    obtain ⟨_, ht, hl⟩ := codeP_zero hc
    refine ⟨codeP_ok hj ht (by rw [joinT_len]; exact hl), fun i hi => ?_⟩
    rw [joinT_len] at hi
    have e1 := hle i hi
    have e2 := hle2 i (by omega)
    rw [zd_joinT hi]
    simp; omega
theorem rows_open {L M : List Sl} (h : codeLL (zl L) (zl M) = 0) (t : List Int) : openB (rowsTo L M L.length) t = (openB (zl L) t && openB (zl M) t) := by
  rw [Bool.eq_iff_iff, Bool.and_eq_true, openB_true, openB_true, openB_true]
  constructor
  · rintro ⟨u, hu, hle⟩
    obtain ⟨a, ha, b, hb, e⟩ := mem_rows.1 hu
    rw [← e] at hle
    obtain ⟨h1, h2⟩ := (join_leq (pair_code h ha hb)).1 hle
    exact ⟨⟨a, ha, h1⟩, ⟨b, hb, h2⟩⟩
  · rintro ⟨⟨a, ha, h1⟩, ⟨b, hb, h2⟩⟩
    exact ⟨_, mem_rows.2 ⟨a, ha, b, hb, rfl⟩, (join_leq (pair_code h ha hb)).2 ⟨h1, h2⟩⟩

set_option maxRecDepth 100000 in
set_option maxHeartbeats 32000000 in
/-- **TimesMeets answers true, for any two lists of lists of numbers and any list of numbers, and writes nothing that was there** -/
theorem tmeets_any (a : Option Addr) (ca : Nat) (L : List Sl) (b : Option Addr) (cb : Nat) (M : List Sl) (c : Option Addr) (cc : Nat) (ys : List Int) (n₀ : Nat) (h63 : L.length ≤ 9223372036854775807) (h64 : M.length ≤ 9223372036854775807) (h65 : ys.length ≤ 9223372036854775807) (hna : a = none → ca = 0) (hnb : b = none → cb = 0) (w : World) (hL : ZLists n₀ w a L) (hM : ZLists n₀ w b M) (hy : ZInts n₀ w c ys) (hn₀ : n₀ ≤ w.heap.size) :
    Calls Try.prog 7 #[.slice a L.length ca, .slice b M.length cb, .slice c ys.length cc] w fun e w' => e = .returned (.bool true) ∧ Below w.heap.size w w' := by
  have hLW : ∀ {W}, Below w.heap.size w W → ZLists n₀ W a L := fun hW => hL.below (hW.mono hn₀)
  have hMW : ∀ {W}, Below w.heap.size w W → ZLists n₀ W b M := fun hW => hM.below (hW.mono hn₀)
  have hyW : ∀ {W}, Below w.heap.size w W → ZInts n₀ W c ys := fun hW => hy.below (hW.mono hn₀)
  have hnW : ∀ {W}, Below w.heap.size w W → n₀ ≤ W.heap.size := fun hW => by have := hW.size; omega
  have s1 := Both_any a ca L b cb M n₀ h63 h64 hna hnb w hL hM hn₀
  have s2 : ∀ W, Below w.heap.size w W → _ := fun W hW => Either_any a ca L b cb M n₀ h63 h64 W (hLW hW) (hMW hW) (hnW hW)
  have t1 : ∀ W, Below w.heap.size w W → _ := fun W hW => topen_any a ca L c cc ys n₀ h63 h65 W (hLW hW) (hyW hW) (hnW hW)
  have t2 : ∀ W, Below w.heap.size w W → _ := fun W hW => topen_any b cb M c cc ys n₀ h64 h65 W (hMW hW) (hyW hW) (hnW hW)
  -- what Both tells
  have u1 : Calls Try.prog 16 #[.slice a L.length ca, .slice b M.length cb] w fun e w' => ∃ av n cv z, e = .returned (.tuple #[.slice av n cv, .int .i64 z]) ∧ Below w.heap.size w w' ∧ (z ≠ 0 ∨ (z = 0 ∧ (∀ W, Below w'.heap.size w' W → Calls Try.prog 11 #[.slice av n cv, .slice c ys.length cc] W fun e' w'' => e' = .returned (.bool (openB (zl L) ys || openB (zl M) ys)) ∧ Below W.heap.size W w'') ∧ (∀ W, Below w'.heap.size w' W → ∀ k, k < L.length → Calls Try.prog 11 #[.slice av n cv, slv (nth L k)] W fun e' w'' => e' = .returned (.bool true) ∧ Below W.heap.size W w''))) := by
    refine s1.mono ?_
    rintro e w' ⟨hb, hh⟩
    unfold joinErr at hh
    rcases hh with ⟨h, rfl⟩ | ⟨_, _, rfl⟩ | ⟨hc, hl, av, cv, S, rfl, hO, hF, hI⟩
    · exact ⟨none, 0, 0, _, rfl, hb, .inl h⟩
    · exact ⟨none, 0, 0, _, rfl, hb, .inl (by decide)⟩
    · have hcb := both_code hc (by rw [zl_len, zl_len]; exact hl)
      have hlS : S.length ≤ 64 := by have := (codeL_zero (front_code hcb hI)).1; rw [zl_len] at this; exact this
      refine ⟨av, S.length, cv, 0, rfl, hb, .inr ⟨rfl, fun W hW => ?_, fun W hW k hk => ?_⟩⟩
      · have hBW := hb.trans (hW.mono hb.size)
        have h := topen_any av cv S c cc ys W.heap.size (by omega) h65 W (((⟨hO, hF.inner⟩ : ZLists w'.heap.size w' av S).below hW).mono hW.size) ((hyW hBW).mono (hnW hBW)) (Nat.le_refl _)
        rw [front_open hcb hI, open_append] at h
        exact h
      · have hBW := hb.trans (hW.mono hb.size)
        obtain ⟨kz, kl⟩ := (hLW hBW).inner k hk
        have h := topen_any av cv S (nth L k).a (nth L k).cap (nth L k).zs W.heap.size (by omega) kl W (((⟨hO, hF.inner⟩ : ZLists w'.heap.size w' av S).below hW).mono hW.size) (kz.mono (hnW hBW)) (Nat.le_refl _)
        rw [front_all hcb hI (List.mem_append_left _ (mem_zl.2 ⟨k, hk, rfl⟩))] at h
        exact h
  have u2 : ∀ W, Below w.heap.size w W → Calls Try.prog 17 #[.slice a L.length ca, .slice b M.length cb] W fun e w' => ∃ av n cv z, e = .returned (.tuple #[.slice av n cv, .int .i64 z]) ∧ Below W.heap.size W w' ∧ (z ≠ 0 ∨ (z = 0 ∧ (∀ X, Below w'.heap.size w' X → Calls Try.prog 11 #[.slice av n cv, .slice c ys.length cc] X fun e' w'' => e' = .returned (.bool (openB (zl L) ys && openB (zl M) ys)) ∧ Below X.heap.size X w''))) := fun W hW => by
    refine (s2 W hW).mono ?_
    rintro e w' ⟨hb, hh⟩
    unfold joinErr at hh
    rcases hh with ⟨h, rfl⟩ | ⟨_, _, rfl⟩ | ⟨hc, hl, av, cv, S, rfl, hO, hF, hI⟩
    · exact ⟨none, 0, 0, _, rfl, hb, .inl h⟩
    · exact ⟨none, 0, 0, _, rfl, hb, .inl (by decide)⟩
    · have hcb := rows_code hc hl
      have hlS : S.length ≤ 64 := by have := (codeL_zero (front_code hcb hI)).1; rw [zl_len] at this; exact this
      refine ⟨av, S.length, cv, 0, rfl, hb, .inr ⟨rfl, fun X hX => ?_⟩⟩
      have hBW := (hW.trans (hb.mono hW.size)).trans (hX.mono (by have := hb.size; have := hW.size; omega))
      have h := topen_any av cv S c cc ys X.heap.size (by omega) h65 X (((⟨hO, hF.inner⟩ : ZLists w'.heap.size w' av S).below hX).mono hX.size) ((hyW hBW).mono (hnW hBW)) (Nat.le_refl _)
      rw [front_open hcb hI, rows_open hc] at h
      exact h
  clear s1 s2
  generalize openB (zl L) ys = r1 at *
  generalize openB (zl M) ys = r2 at *
  go_enter Try.func7, Try.ntmps7
  go_wp2_with fail
  with_reducible refine u1.mono ?_
  rintro e w1 ⟨av, n1, cv, z1, rfl, hb1, hh1⟩
  have v2 := u2 w1 hb1
  clear u1 u2
  go_wp2_with fail
  with_reducible refine v2.mono ?_
  rintro e w2 ⟨bv, n2, dv, z2, rfl, hb2, hh2⟩
  clear v2
  have hB2 := hb1.trans (hb2.mono hb1.size)
  have sF : ∀ W, Below w2.heap.size w2 W → _ := fun W hW => t1 W (hB2.trans (hW.mono hB2.size))
  have sG : ∀ W, Below w2.heap.size w2 W → _ := fun W hW => t2 W (hB2.trans (hW.mono hB2.size))
  have hBc := Below.refl w2.heap.size w2
  clear t1 t2
  rcases hh1 with h1 | ⟨rfl, hA, hU⟩
  · have e1 : (z1 == 0) = false := by rw [beq_eq_false_iff_ne]; exact h1
    clear h1
    rcases hh2 with h2 | ⟨rfl, sE⟩
    · have e2 : (z2 != 0) = true := by rw [bne_iff_ne]; exact h2
      clear h2
      go_wp2_with (first | (with_reducible refine (sF _ hBc).mono ?_; rintro e wn ⟨rfl, hbn⟩; have hBc := hBc.trans (hbn.mono hBc.size); clear hbn) | (with_reducible refine (sG _ hBc).mono ?_; rintro e wn ⟨rfl, hbn⟩; have hBc := hBc.trans (hbn.mono hBc.size); clear hbn))
      go_loopw [43] (fun i wr => ∃ k : Nat, k ≤ L.length ∧ i = .int .i64 k ∧ Below w2.heap.size w2 wr) (fun i _ => L.length - (intOf i).toNat)
      case atStart => exact ⟨0, Nat.zero_le _, rfl, hBc⟩
      case round =>
        clear hBc
        obtain ⟨k, hk, rfl, hBc⟩ := hrel
        have hBw := hB2.trans (hBc.mono hB2.size)
        by_cases hlt : k < L.length
        · obtain ⟨bl, ol, hav, hbl, hcl⟩ := ((hL.below (hBw.mono hn₀)).outer).at hlt
          subst hav
          have ck := hcl k hlt
          obtain ⟨sx, ex⟩ : ∃ sx, nth L k = sx := ⟨_, rfl⟩
          rw [ex] at ck
          clear hcl ex
          obtain ⟨ax, cx, zx⟩ := sx
          unfold slv at ck
          dsimp only at ck
          go_wp2_with fail
          go_roundw
          case rel => exact ⟨k + 1, by omega, by go_num, hBc⟩
          case measure => simp [intOf]; omega
        · clear hBw
          go_wp2_with fail
          go_ret
          exact ⟨rfl, hB2.trans (hBc.mono hB2.size)⟩
    · cases r1 <;> cases r2
      all_goals
        go_wp2_with (first | (with_reducible refine (sF _ hBc).mono ?_; rintro e wn ⟨rfl, hbn⟩; have hBc := hBc.trans (hbn.mono hBc.size); clear hbn) | (with_reducible refine (sG _ hBc).mono ?_; rintro e wn ⟨rfl, hbn⟩; have hBc := hBc.trans (hbn.mono hBc.size); clear hbn))
        go_loopw [43] (fun i wr => ∃ k : Nat, k ≤ L.length ∧ i = .int .i64 k ∧ Below w2.heap.size w2 wr) (fun i _ => L.length - (intOf i).toNat)
        case atStart => exact ⟨0, Nat.zero_le _, rfl, hBc⟩
        case round =>
          clear hBc
          obtain ⟨k, hk, rfl, hBc⟩ := hrel
          have hBw := hB2.trans (hBc.mono hB2.size)
          by_cases hlt : k < L.length
          · obtain ⟨bl, ol, hav, hbl, hcl⟩ := ((hL.below (hBw.mono hn₀)).outer).at hlt
            subst hav
            have ck := hcl k hlt
            obtain ⟨sx, ex⟩ : ∃ sx, nth L k = sx := ⟨_, rfl⟩
            rw [ex] at ck
            clear hcl ex
            obtain ⟨ax, cx, zx⟩ := sx
            unfold slv at ck
            dsimp only at ck
            go_wp2_with fail
            go_roundw
            case rel => exact ⟨k + 1, by omega, by go_num, hBc⟩
            case measure => simp [intOf]; omega
          · clear hBw
            go_wp2_with (first | (with_reducible refine (sF _ hBc).mono ?_; rintro e wn ⟨rfl, hbn⟩; have hBc := hBc.trans (hbn.mono hBc.size); clear hbn) | (with_reducible refine (sG _ hBc).mono ?_; rintro e wn ⟨rfl, hbn⟩; have hBc := hBc.trans (hbn.mono hBc.size); clear hbn) | (with_reducible refine (sE _ hBc).mono ?_; rintro e wn ⟨rfl, hbn⟩; have hBc := hBc.trans (hbn.mono hBc.size); clear hbn))
            go_ret
            exact ⟨rfl, hB2.trans (hBc.mono hB2.size)⟩
  · have sA : ∀ W, Below w2.heap.size w2 W → _ := fun W hW => hA W (hb2.trans (hW.mono hb2.size))
    have sU : ∀ W, Below w2.heap.size w2 W → ∀ k, k < L.length → _ := fun W hW k hk => hU W (hb2.trans (hW.mono hb2.size)) k hk
    clear hA hU
    rcases hh2 with h2 | ⟨rfl, sE⟩
    · have e2 : (z2 != 0) = true := by rw [bne_iff_ne]; exact h2
      clear h2
      cases r1 <;> cases r2
      all_goals
        go_wp2_with (first | (with_reducible refine (sF _ hBc).mono ?_; rintro e wn ⟨rfl, hbn⟩; have hBc := hBc.trans (hbn.mono hBc.size); clear hbn) | (with_reducible refine (sG _ hBc).mono ?_; rintro e wn ⟨rfl, hbn⟩; have hBc := hBc.trans (hbn.mono hBc.size); clear hbn) | (with_reducible refine (sA _ hBc).mono ?_; rintro e wn ⟨rfl, hbn⟩; have hBc := hBc.trans (hbn.mono hBc.size); clear hbn))
        go_loopw [43] (fun i wr => ∃ k : Nat, k ≤ L.length ∧ i = .int .i64 k ∧ Below w2.heap.size w2 wr) (fun i _ => L.length - (intOf i).toNat)
        case atStart => exact ⟨0, Nat.zero_le _, rfl, hBc⟩
        case round =>
          clear hBc
          obtain ⟨k, hk, rfl, hBc⟩ := hrel
          have hBw := hB2.trans (hBc.mono hB2.size)
          by_cases hlt : k < L.length
          · obtain ⟨bl, ol, hav, hbl, hcl⟩ := ((hL.below (hBw.mono hn₀)).outer).at hlt
            subst hav
            have ck := hcl k hlt
            have hop := sU wr hBc k hlt
            obtain ⟨sx, ex⟩ : ∃ sx, nth L k = sx := ⟨_, rfl⟩
            rw [ex] at ck hop
            clear hcl ex
            obtain ⟨ax, cx, zx⟩ := sx
            unfold slv at ck hop
            dsimp only at ck hop
            go_wp2_with fail
            with_reducible refine hop.mono ?_
            rintro e wn ⟨rfl, hbn⟩
            go_wp2_with fail
            go_roundw
            case rel => exact ⟨k + 1, by omega, by go_num, hBc.trans (hbn.mono hBc.size)⟩
            case measure => simp [intOf]; omega
          · clear hBw
            go_wp2_with fail
            go_ret
            exact ⟨rfl, hB2.trans (hBc.mono hB2.size)⟩
    · cases r1 <;> cases r2
      all_goals
        go_wp2_with (first | (with_reducible refine (sF _ hBc).mono ?_; rintro e wn ⟨rfl, hbn⟩; have hBc := hBc.trans (hbn.mono hBc.size); clear hbn) | (with_reducible refine (sG _ hBc).mono ?_; rintro e wn ⟨rfl, hbn⟩; have hBc := hBc.trans (hbn.mono hBc.size); clear hbn) | (with_reducible refine (sA _ hBc).mono ?_; rintro e wn ⟨rfl, hbn⟩; have hBc := hBc.trans (hbn.mono hBc.size); clear hbn))
        go_loopw [43] (fun i wr => ∃ k : Nat, k ≤ L.length ∧ i = .int .i64 k ∧ Below w2.heap.size w2 wr) (fun i _ => L.length - (intOf i).toNat)
        case atStart => exact ⟨0, Nat.zero_le _, rfl, hBc⟩
        case round =>
          clear hBc
          obtain ⟨k, hk, rfl, hBc⟩ := hrel
          have hBw := hB2.trans (hBc.mono hB2.size)
          by_cases hlt : k < L.length
          · obtain ⟨bl, ol, hav, hbl, hcl⟩ := ((hL.below (hBw.mono hn₀)).outer).at hlt
            subst hav
            have ck := hcl k hlt
            have hop := sU wr hBc k hlt
            obtain ⟨sx, ex⟩ : ∃ sx, nth L k = sx := ⟨_, rfl⟩
            rw [ex] at ck hop
            clear hcl ex
            obtain ⟨ax, cx, zx⟩ := sx
            unfold slv at ck hop
            dsimp only at ck hop
            go_wp2_with fail
            with_reducible refine hop.mono ?_
            rintro e wn ⟨rfl, hbn⟩
            go_wp2_with fail
            go_roundw
            case rel => exact ⟨k + 1, by omega, by go_num, hBc.trans (hbn.mono hBc.size)⟩
            case measure => simp [intOf]; omega
          · clear hBw
            go_wp2_with (first | (with_reducible refine (sF _ hBc).mono ?_; rintro e wn ⟨rfl, hbn⟩; have hBc := hBc.trans (hbn.mono hBc.size); clear hbn) | (with_reducible refine (sG _ hBc).mono ?_; rintro e wn ⟨rfl, hbn⟩; have hBc := hBc.trans (hbn.mono hBc.size); clear hbn) | (with_reducible refine (sE _ hBc).mono ?_; rintro e wn ⟨rfl, hbn⟩; have hBc := hBc.trans (hbn.mono hBc.size); clear hbn))
            go_ret
            exact ⟨rfl, hB2.trans (hBc.mono hB2.size)⟩
end Go.Proofs.Ytdknniomgdjbfaa
