/- The document's OrderOf where all pairs are: the words that grow turn by turn. -/
import Derived.Test.YtbdigkjahfdmjaaDoorRefOfBad
import Derived.Test.YtbdigkjahfdmjaaDoorRefDual
import Derived.Test.YtbdigkjahfdmjaaDoorSzPlain
namespace Go.Proofs.YtbdigkjahfdmjaaDoor
open Go.RowKit Go.Shelf

def Cyc (up : List Nat) (n : Nat) : Prop := ∃ i j, i < n ∧ j < i ∧ hasB (wd up i) j = true ∧ hasB (wd up j) i = true

set_option maxRecDepth 100000 in
set_option maxHeartbeats 2000000 in
theorem RefOf_main (n : Nat) (a : Option Addr) (cap : Nat) (ps : List (Int × Int)) (nx : List Nat) (n₀ : Nat) (hn : n ≤ 16) (h256 : ps.length ≤ 256) (hin : ∀ k, k < ps.length → PairIn n (zp ps k)) (hNx : NxTo ps n ps.length nx) (w : World) (hw : ZPairs n₀ w a ps) (hn₀ : n₀ ≤ w.heap.size) :
    Calls Tryd.prog 10 #[.int .i64 n, .slice a ps.length cap] w fun e w' => Below w.heap.size w w' ∧ ∃ up, up.length = n ∧ Fit up ∧ (∀ i, i < n → ∀ z, hasB (wd up i) z = true ↔ Reach nx i z) ∧
      ((Cyc up n ∧ e = ofErr 4) ∨ (¬ Cyc up n ∧ ∃ av cv, e = .returned (.tuple #[.agg #[.int .i64 (n : Int), .slice av n cv], .int .i64 0]) ∧ w'.ownsRow w.heap.size 36 1 (.slice av n cv) n (wvals up))) := by
  obtain ⟨i0, hi, hz0, hz1, hz2⟩ := info_parts info_u32
  obtain ⟨r0, hb0, hs0⟩ := one_row w 25 (.int .i64 0) (.slice none 0 0) rfl
  have hd2 : decide (16 < (n : Int)) = false := by simp; omega
  have hd3 : decide (256 < (ps.length : Int)) = false := by simp; omega
  go_enter Tryd.func10, Tryd.ntmps10
  go_wp2
  go_loopw [30] (fun i wr => ∃ k : Nat, k ≤ ps.length ∧ i = .int .i64 k ∧ Row wr w.heap.size 25 [.int .i64 0, .slice none 0 0] ∧ Below w.heap.size w wr) (fun i _ => ps.length - (intOf i).toNat)
  case atStart => exact ⟨0, Nat.zero_le _, rfl, r0, hb0⟩
  case round =>
    clear r0 hb0 hs0
    obtain ⟨k, hk, rfl, r0, hB⟩ := hrel
    have hsz := hB.size
    by_cases hlt : k < ps.length
    · obtain ⟨b, off, rfl, hb, cA, cB⟩ := (hw.below (hB.mono hn₀)).at hlt
      have hbW : b < wr.heap.size := by omega
      have k0 := r0.cell (i := 0) rfl
      have k1 := r0.cell (i := 1) rfl
      have f0 := r0.frozen 0
      have f1 := r0.frozen 1
      have lt0 := r0.lt
      obtain ⟨A, hA⟩ : ∃ A, (zp ps k).1 = A := ⟨_, rfl⟩
      obtain ⟨B, hBB⟩ : ∃ B, (zp ps k).2 = B := ⟨_, rfl⟩
      rw [hA] at cA
      rw [hBB] at cB
      have HA := hide hA
      have HBB := hide hBB
      clear hA hBB
      have good := hin k hlt
      have hg4 := good
      unfold PairIn at hg4
      rw [HA.out, HBB.out] at hg4
      have h1 : decide (A < 0) = false := by simp; omega
      have h2 : decide ((n : Int) ≤ A) = false := by simp; omega
      have h3 : decide (B < 0) = false := by simp; omega
      have h4 : decide ((n : Int) ≤ B) = false := by simp; omega
      clear good hg4
      go_wp2
      exact ⟨⟨k + 1, by omega, by go_num, r0.alloc _, hB.alloc hsz _⟩, by simp [intOf]; omega⟩
    · obtain ⟨V, hV⟩ : ∃ V, V = wr := ⟨_, rfl⟩
      subst hV
      have lt0 := r0.lt
      have hp := fun q (hq : q < ps.length) => hin q hq
      go_wp2
      go_loopw [9] (fun i wr => ∃ (k : Nat) (up : List Nat) (av : Option Addr) (cv : Nat), k ≤ n ∧ i = .int .i64 k ∧ up.length = k ∧ Fit up ∧ (∀ i, i < k → ∀ z, hasB (wd up i) z = true ↔ Reach nx i z) ∧ Row wr w.heap.size 25 [.int .i64 0, .slice none 0 0] ∧ Row wr V.heap.size 25 [.int .i64 n, .slice av k cv] ∧ Below w.heap.size w wr ∧ wr.ownsRow (V.heap.size + 1) 36 1 (.slice av k cv) k (wvals up)) (fun i _ => n - (intOf i).toNat)
      case atStart => exact ⟨0, [], none, 0, Nat.zero_le _, rfl, rfl, fun i => by simp [wd], fun i hi => by omega, r0.alloc _, Row.new V 25 [.int .i64 n, .slice none 0 0], hB.alloc hsz _, World.ownsRow_nil ..⟩
      case round =>
        clear r0 hB
        obtain ⟨i, up, av, cv, hin', rfl, hul, hfu, hup, r0, r2, hB, hown⟩ := hrel
        have l2 := r2.lt
        by_cases hli : i < n
        · have hbi := bit_raw (i := i) (by omega)
          obtain ⟨U, hU⟩ : ∃ U, U = wr := ⟨_, rfl⟩
          subst hU
          have hsU := hB.size
          have hreach := fun z (h : Reach nx i z) => reach_in hNx hp hli h
          have hone : 1 ≤ seenN n (bitW i) := List.length_pos_of_mem (List.mem_filter.2 ⟨List.mem_range.2 hli, by rw [hasB_bitW]; simp⟩ : i ∈ (List.range n).filter fun z => hasB (bitW i) z)
          go_wp2
          go_loopw [10, 11] (fun x t wr => ∃ (T xx : Nat), T ≤ n ∧ t = .int .i64 T ∧ x = .int .u32 (xx : Nat) ∧ xx < 4294967296 ∧ hasB xx i = true ∧ (∀ z, hasB xx z = true → Reach nx i z) ∧ (Shut ps xx ∨ T + 1 ≤ seenN n xx) ∧ Below U.heap.size U wr) (fun _ t _ => n - (intOf t).toNat)
          case atStart => exact ⟨0, bitW i, Nat.zero_le _, rfl, by rw [hbi], bitW_lt (by omega), by rw [hasB_bitW]; simp, fun z hz => by rw [hasB_bitW] at hz; simp at hz; subst hz; exact .here _, .inr hone, Below.refl _ _⟩
          case round =>
            clear hbi hone
            obtain ⟨T, x0, hT', rfl, rfl, hx0, hxi, hfr, hsh, hbu⟩ := hrel
            by_cases hlT : T < n
            · go_wp2
              go_loopw [10, 73] (fun x q wr => ∃ (j xx : Nat), j ≤ ps.length ∧ q = .int .i64 j ∧ x = .int .u32 (xx : Nat) ∧ Turn ps nx n i x0 j xx ∧ Below U.heap.size U wr) (fun _ q _ => ps.length - (intOf q).toNat)
              case atStart => exact ⟨0, x0, Nat.zero_le _, rfl, rfl, ⟨hx0, hxi, fun z h => h, hfr, fun q hq => by omega, fun _ => rfl⟩, hbu⟩
              case round =>
                clear hbu
                obtain ⟨j, x, hj, rfl, rfl, hTu, hbu⟩ := hrel
                by_cases hlj : j < ps.length
                · obtain ⟨p1, p2, p3, p4⟩ := hp j hlj
                  obtain ⟨A, hA⟩ : ∃ A : Nat, (zp ps j).1 = (A : Int) := ⟨(zp ps j).1.toNat, by omega⟩
                  obtain ⟨C, hC⟩ : ∃ C : Nat, (zp ps j).2 = (C : Int) := ⟨(zp ps j).2.toNat, by omega⟩
                  obtain ⟨b, off, rfl, hb, cA, cB⟩ := (hw.below ((hB.trans (hbu.mono hsU)).mono hn₀)).at hlj
                  have hus := hbu.size
                  have hbW : b < wr.heap.size := by omega
                  rw [hA] at cA
                  rw [hC] at cB
                  have hAn : A < n := by omega
                  have hCn : C < n := by omega
                  have hbc := bit_raw (i := C) (by omega)
                  have hor := bits_or32 x (bitW C) hTu.lt (bitW_lt (by omega))
                  have hbit := Bit_any x A hTu.lt (by omega)
                  have HY := hide (fun h => hTu.yes hNx hlj hA hC (by omega) h)
                  have HN := hide (fun h => hTu.no hA h)
                  clear hA hC p1 p2 p3 p4
                  cases hh : hasB x A with
                  | true =>
                    simp only [hh] at hbit
                    have HH := hide (HY.out hh)
                    clear hh
                    go_wp2_with (go_at_call 31; refine (hbit _).mono ?_; rintro e w' ⟨rfl, hww⟩; rw [hww]; clear hww w')
                    exact ⟨⟨j + 1, orW x (bitW C), by omega, by go_num, rfl, HH.out, hbu.alloc (by omega) _⟩, by simp [intOf]; omega⟩
                  | false =>
                    simp only [hh] at hbit
                    have HH := hide (HN.out hh)
                    clear hh
                    go_wp2_with (go_at_call 31; refine (hbit _).mono ?_; rintro e w' ⟨rfl, hww⟩; rw [hww]; clear hww w')
                    exact ⟨⟨j + 1, x, by omega, by go_num, rfl, HH.out, hbu.alloc (by omega) _⟩, by simp [intOf]; omega⟩
                · obtain rfl : j = ps.length := by omega
                  go_wp2
                  exact ⟨⟨T + 1, x, by omega, by go_num, rfl, hTu.lt, hTu.has, hTu.from_, hTu.next hsh hreach, hbu⟩, by simp [intOf]; omega⟩
            · have hshut : Shut ps x0 := hsh.resolve_right (by have := seenN_le n x0; omega)
              have hall : ∀ z, hasB x0 z = true ↔ Reach nx i z := fun z => ⟨hfr z, fun h => shut_reach hNx hshut hxi h⟩
              have r0u := row_below r0 hbu (by omega)
              have r2u := row_below r2 hbu l2
              have hownu := ownsRow_below hown hbu
              have hbsz := hbu.size
              have hBu : Below w.heap.size w wr := hB.trans (hbu.mono hsU)
              have c20 := r2u.cell (i := 0) rfl
              have c21 := r2u.cell (i := 1) rfl
              have f21 := r2u.frozen 1
              have hne2 := ownBlock_ge hownu (b := V.heap.size) (by omega)
              have hne0 := ownBlock_ge hownu (b := w.heap.size) (by omega)
              go_wp2_with (at_builtin; refine wpList_append_own _ rfl _ _ 23 rfl (V.heap.size + 1) 36 i0 (.int .u32 0) 1 4 Tryd.underlying23 hi hz0 hz1 hz2 rfl (by decide) _ _ _ rfl (hownu.alloc _) ⟨wr.heap.size, 0, none⟩ 1 1 [.int .u32 (x0 : Nat)] rfl rfl (cell_one_new _ _ _) (fun u hu => by simp at hu; subst hu; rfl) (by unfold maxLen; omega) (by omega) (by simp; omega) ?_; intro v' w3 hown' hgrow3 _; obtain ⟨g', cap', rfl⟩ := ownsRow_succ hown'; have r2' := (r2u.alloc (.cells #[.int .u32 (x0 : Nat)] 36)).kept hgrow3 hne2; have d20 := r2'.cell (i := 0) rfl; have d21 := r2'.cell (i := 1) rfl; have e21 := r2'.frozen 1)
              have r0' := (r0u.alloc (.cells #[.int .u32 (x0 : Nat)] 36)).kept hgrow3 hne0
              have hB3 : Below w.heap.size w w3 := (hBu.alloc (by omega) (.cells #[.int .u32 (x0 : Nat)] 36)).grown hgrow3 (by simp; omega) fun j ej => by
                apply Nat.le_of_not_lt; intro hjl
                exact ownBlock_ge hownu (b := j) (by omega) ej.symm
              have hx2 : wvals up ++ [.int .u32 (x0 : Nat)] = wvals (up ++ [x0]) := by simp [wvals]
              have hown2 : w3.ownsRow (V.heap.size + 1) 36 1 (.slice (some ⟨g', 0, none⟩) (i + 1) cap') (i + 1) (wvals (up ++ [x0])) := by rw [← hx2]; exact hown'
              have hwl : wd (up ++ [x0]) i = x0 := by have := wd_last up x0; rw [hul] at this; exact this
              exact ⟨⟨i + 1, up ++ [x0], some ⟨g', 0, none⟩, cap', by omega, by go_num, by simp [hul], fun q => by
                by_cases e : q < i
                · rw [wd_app _ _ _ (by omega)]; exact hfu q
                · by_cases e2 : q = i
                  · rw [e2, hwl]; exact hx0
                  · rw [wd_out (by simp; omega)]; omega, fun q hq z => by
                by_cases e : q = i
                · subst e; rw [hwl]; exact hall z
                · rw [wd_app _ _ _ (by omega)]; exact hup q (by omega) z, r0'.other (by omega) _ _, r2'.set 1 _, hB3.setCell (p := ⟨V.heap.size, 1, none⟩) (by simp; omega) _, ownsRow_setAt hown2 (by omega) _ _⟩, by simp [intOf]; omega⟩
        · obtain rfl : i = n := by omega
          obtain ⟨U, hU⟩ : ∃ U, U = wr := ⟨_, rfl⟩
          subst hU
          obtain ⟨_, _, ew, hwo⟩ := ownsRow_words hown
          rw [hul] at ew
          cases ew
          have hsU := hB.size
          have lt0' := r0.lt
          go_wp2
          go_loopw [14] (fun q wr => ∃ k : Nat, k ≤ i ∧ q = .int .i64 k ∧ Below U.heap.size U wr ∧ ∀ p q, p < k → q < p → ¬ (hasB (wd up p) q = true ∧ hasB (wd up q) p = true)) (fun q _ => i - (intOf q).toNat)
          case atStart => exact ⟨0, Nat.zero_le _, rfl, Below.refl _ _, fun p q hp => by omega⟩
          case round =>
            obtain ⟨k2, hk2, rfl, hbu, hno⟩ := hrel
            by_cases hlk : k2 < i
            · go_wp2
              go_loopw [15] (fun q wr => ∃ m : Nat, m ≤ k2 ∧ q = .int .i64 m ∧ Below U.heap.size U wr ∧ ∀ q, q < m → ¬ (hasB (wd up k2) q = true ∧ hasB (wd up q) k2 = true)) (fun q _ => k2 - (intOf q).toNat)
              case atStart => exact ⟨0, Nat.zero_le _, rfl, hbu, fun q hq => by omega⟩
              case round =>
                clear hbu
                obtain ⟨m, hm, rfl, hbu, hnm⟩ := hrel
                have hus := hbu.size
                have r2u := row_below r2 hbu l2
                have c20 := r2u.cell (i := 0) rfl
                have c21 := r2u.cell (i := 1) rfl
                by_cases hlm : m < k2
                · have hbe1 := Below_any i av cv up k2 m U.heap.size hfu (by omega) (by omega) wr (hwo.below hbu) hus
                  have hbe2 : ∀ w1, Below wr.heap.size wr w1 → _ := fun w1 (hb1 : Below wr.heap.size wr w1) => Below_any i av cv up m k2 U.heap.size hfu (by omega) (by omega) w1 ((hwo.below hbu).below (hb1.mono hus)) (by have := hb1.size; omega)
                  rw [hul] at hbe1 hbe2
                  cases h1 : hasB (wd up k2) m with
                  | false =>
                    rw [h1] at hbe1
                    have H1 := hide h1
                    clear h1 hbe2
                    go_wp2_with (go_at_call 32; refine hbe1.mono ?_; rintro e w1 ⟨rfl, hb1⟩)
                    exact ⟨⟨m + 1, by omega, by go_num, hbu.trans (hb1.mono hus), fun q hq => by
                      by_cases e : q = m
                      · subst e; rw [H1.out]; simp
                      · exact hnm q (by omega)⟩, by simp [intOf]; omega⟩
                  | true =>
                    rw [h1] at hbe1
                    have H1 := hide h1
                    clear h1
                    cases h2 : hasB (wd up m) k2 with
                    | false =>
                      rw [h2] at hbe2
                      have H2 := hide h2
                      clear h2
                      go_wp2_with (first
                        | (go_at_call 32; refine hbe1.mono ?_; rintro e w1 ⟨rfl, hb1⟩; have r2v := row_below r2u hb1 r2u.lt; have d20 := r2v.cell (i := 0) rfl; have d21 := r2v.cell (i := 1) rfl; have hx2 := hbe2 w1 hb1; have hs1 := hb1.size; clear hbe1)
                        | (go_at_call 32; refine hx2.mono ?_; rintro e w2 ⟨rfl, hb2⟩))
                      exact ⟨⟨m + 1, by omega, by go_num, hbu.trans ((hb1.trans (hb2.mono hs1)).mono hus), fun q hq => by
                        by_cases e : q = m
                        · subst e; rw [H2.out]; simp
                        · exact hnm q (by omega)⟩, by simp [intOf]; omega⟩
                    | true =>
                      rw [h2] at hbe2
                      have HC := hide (show Cyc up i from ⟨k2, m, hlk, hlm, H1.out, h2⟩)
                      clear h2
                      have r0u := row_below r0 hbu lt0'
                      go_wp2_with (first
                        | (go_at_call 32; refine hbe1.mono ?_; rintro e w1 ⟨rfl, hb1⟩; have r2v := row_below r2u hb1 r2u.lt; have d20 := r2v.cell (i := 0) rfl; have d21 := r2v.cell (i := 1) rfl; have hx2 := hbe2 w1 hb1; have hs1 := hb1.size; clear hbe1)
                        | (go_at_call 32; refine hx2.mono ?_; rintro e w2 ⟨rfl, hb2⟩; have r0v := row_below (row_below r0u hb1 r0u.lt) hb2 (by have := r0u.lt; omega); have k0 := r0v.cell (i := 0) rfl; have k1 := r0v.cell (i := 1) rfl; have f0 := r0v.frozen 0; have f1 := r0v.frozen 1))
                      have q2 := (r0v.set 0 (.int .i64 0)).set 1 (.slice none 0 0)
                      have e0 := q2.cell (i := 0) (v := .int .i64 0) rfl
                      have e1 := q2.cell (i := 1) (v := .slice none 0 0) rfl
                      have hBw : Below w.heap.size w w2 := hB.trans ((hbu.trans ((hb1.trans (hb2.mono hs1)).mono hus)).mono hsU)
                      refine bodyPost_ret (v := .tuple #[.agg #[.int .i64 0, .slice none 0 0], .int .i64 4]) (by simp [results, Tryd.results10, go_sem, e0, e1]) rfl ⟨(hBw.setCell (p := ⟨w.heap.size, 0, none⟩) (Nat.le_refl _) _).setCell (p := ⟨w.heap.size, 1, none⟩) (Nat.le_refl _) _, up, hul, hfu, hup, .inl ⟨HC.out, rfl⟩⟩
                · obtain rfl : m = k2 := by omega
                  go_wp2
                  exact ⟨⟨m + 1, by omega, by go_num, hbu, fun p q hp hq => by
                    by_cases e : p = m
                    · subst e; exact hnm q hq
                    · exact hno p q (by omega) hq⟩, by simp [intOf]; omega⟩
            · have r0u := row_below r0 hbu lt0'
              have r2u := row_below r2 hbu l2
              have hownu := ownsRow_below hown hbu
              have c20 := r2u.cell (i := 0) rfl
              have c21 := r2u.cell (i := 1) rfl
              have k0 := r0u.cell (i := 0) rfl
              have k1 := r0u.cell (i := 1) rfl
              have f0 := r0u.frozen 0
              have f1 := r0u.frozen 1
              have q2 := (r0u.set 0 (.int .i64 (i : Int))).set 1 (.slice av i cv)
              have e0 := q2.cell (i := 0) (v := .int .i64 (i : Int)) rfl
              have e1 := q2.cell (i := 1) (v := .slice av i cv) rfl
              have hBw : Below w.heap.size w wr := hB.trans (hbu.mono hsU)
              go_wp2
              refine bodyPost_ret (v := .tuple #[.agg #[.int .i64 (i : Int), .slice av i cv], .int .i64 0]) (by simp [results, Tryd.results10, go_sem, e0, e1]) rfl ⟨(hBw.setCell (p := ⟨w.heap.size, 0, none⟩) (Nat.le_refl _) _).setCell (p := ⟨w.heap.size, 1, none⟩) (Nat.le_refl _) _, up, hul, hfu, hup, .inr ⟨fun ⟨p, q, h1, h2, h3, h4⟩ => hno p q (by omega) h2 ⟨h3, h4⟩, av, cv, rfl, ownsRow_base (ownsRow_setAt (ownsRow_setAt hownu (by omega) _ _) (by omega) _ _) (by omega)⟩⟩
end Go.Proofs.YtbdigkjahfdmjaaDoor
