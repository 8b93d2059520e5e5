/- The walk of the law TimesExtends: it answers true, and writes nothing that was there. -/
import Derived.Test.YtgoipkjledmnjaaTimAlike
namespace Go.Proofs.Ytgoipkjledmnjaa
open Go.RowKit Go.Shelf

theorem lex_total {a b : List Int} (hl : a.length = b.length) (hne : a ≠ b) : LexZ a b ∨ LexZ b a := by
  have key : ∀ n, n ≤ a.length → (∀ j, j < n → zd a j = zd b j) ∨ LexZ a b ∨ LexZ b a := fun n => by
    induction n with
    | zero => exact fun _ => .inl fun j hj => by omega
    | succ n ih =>
      intro hn
      rcases ih (by omega) with h | h
      · rcases Int.lt_trichotomy (zd a n) (zd b n) with e | e | e
        · exact .inr (.inl ⟨n, by omega, h, e⟩)
        · refine .inl fun j hj => ?_
          by_cases ej : j = n
          · rw [ej]; exact e
          · exact h j (by omega)
        · exact .inr (.inr ⟨n, by omega, fun j hj => (h j hj).symm, e⟩)
      · exact .inr h
  rcases key a.length (Nat.le_refl _) with h | h
  · exact absurd (zd_ext hl h) hne
  · exact h
theorem lex_trans {a b c : List Int} (h1 : LexZ a b) (h2 : LexZ b c) (hl : a.length = b.length) : LexZ a c := by
  obtain ⟨i, hi, hj, hk⟩ := h1
  obtain ⟨m, hm, hn, ho⟩ := h2
  rcases Nat.lt_trichotomy i m with e | e | e
  · exact ⟨i, hi, fun j h => (hj j h).trans (hn j (by omega)), by rw [← hn i e]; exact hk⟩
  · subst e; exact ⟨i, hi, fun j h => (hj j h).trans (hn j h), by omega⟩
  · exact ⟨m, by omega, fun j h => (hj j (by omega)).trans (hn j h), by rw [hj m e]; exact ho⟩
theorem leq_lex {a b : List Int} (hl : a.length = b.length) (h : LeqZ a b) (hne : a ≠ b) : LexZ a b := by
  rcases lex_total hl hne with h' | ⟨k, hk, _, hlt⟩
  · exact h'
  · have := h k (by omega); omega

set_option maxRecDepth 100000 in
set_option maxHeartbeats 8000000 in
/-- **TimesExtends answers true, for any three lists of numbers, and writes nothing that was there** -/
theorem textends_any (a : Option Addr) (ca : Nat) (zs : List Int) (b : Option Addr) (cb : Nat) (ys : List Int) (c : Option Addr) (cc : Nat) (xs : List Int) (n₀ : Nat) (h63 : zs.length ≤ 9223372036854775807) (h64 : ys.length ≤ 9223372036854775807) (h65 : xs.length ≤ 9223372036854775807) (w : World) (hz : ZInts n₀ w a zs) (hy : ZInts n₀ w b ys) (hx : ZInts n₀ w c xs) (hn₀ : n₀ ≤ w.heap.size) :
    Calls Try.prog 7 #[.slice a zs.length ca, .slice b ys.length cb, .slice c xs.length cc] w fun e w' => e = .returned (.bool true) ∧ Below w.heap.size w w' := by
  have hzW : ∀ {W}, Below w.heap.size w W → ZInts n₀ W a zs := fun hW => hz.below (hW.mono hn₀)
  have hyW : ∀ {W}, Below w.heap.size w W → ZInts n₀ W b ys := fun hW => hy.below (hW.mono hn₀)
  have hxW : ∀ {W}, Below w.heap.size w W → ZInts n₀ W c xs := fun hW => hx.below (hW.mono hn₀)
  have hnW : ∀ {W}, Below w.heap.size w W → n₀ ≤ W.heap.size := fun hW => by have := hW.size; omega
  have sA := kalike3_any a ca zs b cb ys c cc xs n₀ h63 h64 h65 w hz hy hx hn₀
  have sS : ∀ W, Below w.heap.size w W → _ := fun W hW => rtsame_any a ca zs b cb ys n₀ h63 W (hzW hW) (hyW hW) (hnW hW)
  have sQ : ∀ W, Below w.heap.size w W → _ := fun W hW => tleq_any a ca zs b cb ys n₀ h63 h64 W (hzW hW) (hyW hW) (hnW hW)
  have sL : ∀ W, Below w.heap.size w W → _ := fun W hW => tless_any a ca zs b cb ys n₀ h63 h64 W (hzW hW) (hyW hW) (hnW hW)
  have sM : ∀ W, Below w.heap.size w W → _ := fun W hW => tless_any b cb ys a ca zs n₀ h64 h63 W (hyW hW) (hzW hW) (hnW hW)
  have sN : ∀ W, Below w.heap.size w W → _ := fun W hW => tless_any b cb ys c cc xs n₀ h64 h65 W (hyW hW) (hxW hW) (hnW hW)
  have sO : ∀ W, Below w.heap.size w W → _ := fun W hW => tless_any a ca zs c cc xs n₀ h63 h65 W (hzW hW) (hxW hW) (hnW hW)
  cases hal : alikeB [⟨a, ca, zs⟩, ⟨b, cb, ys⟩, ⟨c, cc, xs⟩] with
  | false =>
    rw [hal] at sA
    clear hal sS sQ sM sN sO
    cases hl : lessT zs ys with
    | false =>
      rw [hl] at sL
      clear hl
      go_enter Try.func7, Try.ntmps7
      go_wp2_with fail
      with_reducible refine sA.mono ?_
      rintro e wn ⟨rfl, hBc⟩
      clear sA
      go_wp2_with (with_reducible refine (sL _ hBc).mono ?_; rintro e wn ⟨rfl, hbn⟩; have hBc := hBc.trans (hbn.mono hBc.size); clear hbn)
      go_ret
      exact ⟨rfl, hBc⟩
    | true =>
      have e1 : ((zs.length : Int) == (ys.length : Int)) = true := by rw [beq_iff_eq]; have := (codeP_zero (lessT_true.1 hl).1).2.2; omega
      rw [hl] at sL
      clear hl
      go_enter Try.func7, Try.ntmps7
      go_wp2_with fail
      with_reducible refine sA.mono ?_
      rintro e wn ⟨rfl, hBc⟩
      clear sA
      go_wp2_with (with_reducible refine (sL _ hBc).mono ?_; rintro e wn ⟨rfl, hbn⟩; have hBc := hBc.trans (hbn.mono hBc.size); clear hbn)
      go_ret
      exact ⟨rfl, hBc⟩
  | true =>
    rw [hal] at sA
    obtain ⟨g1, g2, g3, g4, g5⟩ := alike3.1 hal
    dsimp only at g1 g2 g3 g4 g5
    have p1 : codeP zs ys = 0 := codeP_ok g1 g2 g4.symm
    have p2 : codeP ys zs = 0 := codeP_ok g2 g1 g4
    have p3 : codeP ys xs = 0 := codeP_ok g2 g3 (g4.trans g5.symm)
    have p4 : codeP zs xs = 0 := codeP_ok g1 g3 g5.symm
    cases hs : sameB zs ys with
    | true =>
      have es := sameB_true.1 hs
      have f1 : lessT zs ys = false := lessT_same fun j hj => by rw [es]
      have f2 : lessT ys zs = false := lessT_same fun j hj => by rw [es]
      have f3 : leqT zs ys = true := leqT_true.2 ⟨p1, fun i hi => by rw [es]; exact Int.le_refl _⟩
      rw [hs] at sS
      rw [f1] at sL
      rw [f2] at sM
      rw [f3] at sQ
      clear hal g1 g2 g3 g4 g5 p1 p2 p3 p4 hs es f1 f2 f3 sN sO
      go_enter Try.func7, Try.ntmps7
      go_wp2_with fail
      with_reducible refine sA.mono ?_
      rintro e wn ⟨rfl, hBc⟩
      clear sA
      go_wp2_with (first
        | (with_reducible refine (sS _ hBc).mono ?_; rintro e wn ⟨rfl, hbn⟩; have hBc := hBc.trans (hbn.mono hBc.size); clear hbn)
        | (with_reducible refine (sL _ hBc).mono ?_; rintro e wn ⟨rfl, hbn⟩; have hBc := hBc.trans (hbn.mono hBc.size); clear hbn)
        | (with_reducible refine (sM _ hBc).mono ?_; rintro e wn ⟨rfl, hbn⟩; have hBc := hBc.trans (hbn.mono hBc.size); clear hbn)
        | (with_reducible refine (sQ _ hBc).mono ?_; rintro e wn ⟨rfl, hbn⟩; have hBc := hBc.trans (hbn.mono hBc.size); clear hbn))
      go_ret
      exact ⟨rfl, hBc⟩
    | false =>
      have es := sameB_false.1 hs
      have f1 : lessT ys zs = !lessT zs ys := by
        rw [lessT_lex p1, lessT_lex p2]
        rcases lex_total g4.symm es with h | h
        · rw [lexB_true.2 h, lexB_false.2 (lex_asym h)]; rfl
        · rw [lexB_true.2 h, lexB_false.2 (lex_asym h)]; rfl
      have f2 : leqT zs ys = true → lessT zs ys = true := fun h => by rw [lessT_lex p1]; exact lexB_true.2 (leq_lex g4.symm (leqT_true.1 h).2 es)
      have f3 : lessT zs ys = true → lessT ys xs = true → lessT zs xs = true := fun h1 h2 => by
        rw [lessT_lex p1] at h1; rw [lessT_lex p3] at h2
        rw [lessT_lex p4]; exact lexB_true.2 (lex_trans (lexB_true.1 h1) (lexB_true.1 h2) g4.symm)
      rw [hs] at sS
      rw [f1] at sM
      clear hal g1 g2 g3 g4 g5 p1 p2 p3 p4 hs es f1
      generalize lessT zs ys = L1 at *
      generalize lessT ys xs = L3 at *
      generalize lessT zs xs = L4 at *
      generalize leqT zs ys = Q at *
      have hcase : (L1 = false ∧ Q = false) ∨ (L1 = true ∧ (L3 = false ∨ (L3 = true ∧ L4 = true))) := by
        cases L1
        · left; refine ⟨rfl, ?_⟩; cases Q
          · rfl
          · exact absurd (f2 rfl) (by decide)
        · right; refine ⟨rfl, ?_⟩; cases L3
          · exact .inl rfl
          · exact .inr ⟨rfl, f3 rfl rfl⟩
      clear f2 f3
      rcases hcase with ⟨rfl, rfl⟩ | ⟨rfl, rfl | ⟨rfl, rfl⟩⟩
      · go_enter Try.func7, Try.ntmps7
        go_wp2_with fail
        with_reducible refine sA.mono ?_
        rintro e wn ⟨rfl, hBc⟩
        clear sA
        go_wp2_with (first
          | (with_reducible refine (sS _ hBc).mono ?_; rintro e wn ⟨rfl, hbn⟩; have hBc := hBc.trans (hbn.mono hBc.size); clear hbn)
          | (with_reducible refine (sL _ hBc).mono ?_; rintro e wn ⟨rfl, hbn⟩; have hBc := hBc.trans (hbn.mono hBc.size); clear hbn)
          | (with_reducible refine (sM _ hBc).mono ?_; rintro e wn ⟨rfl, hbn⟩; have hBc := hBc.trans (hbn.mono hBc.size); clear hbn)
          | (with_reducible refine (sQ _ hBc).mono ?_; rintro e wn ⟨rfl, hbn⟩; have hBc := hBc.trans (hbn.mono hBc.size); clear hbn))
        go_ret
        exact ⟨rfl, hBc⟩
      all_goals
        cases Q
        all_goals
          go_enter Try.func7, Try.ntmps7
          go_wp2_with fail
          with_reducible refine sA.mono ?_
          rintro e wn ⟨rfl, hBc⟩
          clear sA
          go_wp2_with (first
            | (with_reducible refine (sS _ hBc).mono ?_; rintro e wn ⟨rfl, hbn⟩; have hBc := hBc.trans (hbn.mono hBc.size); clear hbn)
            | (with_reducible refine (sL _ hBc).mono ?_; rintro e wn ⟨rfl, hbn⟩; have hBc := hBc.trans (hbn.mono hBc.size); clear hbn)
            | (with_reducible refine (sM _ hBc).mono ?_; rintro e wn ⟨rfl, hbn⟩; have hBc := hBc.trans (hbn.mono hBc.size); clear hbn)
            | (with_reducible refine (sN _ hBc).mono ?_; rintro e wn ⟨rfl, hbn⟩; have hBc := hBc.trans (hbn.mono hBc.size); clear hbn)
            | (with_reducible refine (sO _ hBc).mono ?_; rintro e wn ⟨rfl, hbn⟩; have hBc := hBc.trans (hbn.mono hBc.size); clear hbn)
            | (with_reducible refine (sQ _ hBc).mono ?_; rintro e wn ⟨rfl, hbn⟩; have hBc := hBc.trans (hbn.mono hBc.size); clear hbn))
          go_ret
          exact ⟨rfl, hBc⟩
end Go.Proofs.Ytgoipkjledmnjaa
