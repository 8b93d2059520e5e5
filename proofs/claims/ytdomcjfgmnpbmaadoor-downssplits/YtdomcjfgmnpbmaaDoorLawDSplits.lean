/- The walk of the law DownsSplits: it answers true, and writes nothing that was there. -/
import Derived.Test.YtdomcjfgmnpbmaaDoorCountAny
import Derived.Test.YtdomcjfgmnpbmaaDoorPartAny
import Derived.Test.YtdomcjfgmnpbmaaDoorKeepZ
import Derived.Test.YtdomcjfgmnpbmaaDoorApart
import Derived.Test.YtdomcjfgmnpbmaaDoorTurEx
import Derived.Test.YtdomcjfgmnpbmaaDoorSound
import Derived.Test.YtdomcjfgmnpbmaaDoorRefused
import Derived.Maps.AppendAt
namespace Go.Proofs.YtdomcjfgmnpbmaaDoor
open Go.RowKit Go.Shelf

theorem zone (W : World) (t : TypeId) (x : Int) : ZInts (W.heap.size + 1) (W.alloc (.cells #[.int .i64 x] t)) (some ⟨W.heap.size, 0, none⟩) [x] := by
  have r := Row.new W t [.int .i64 x]
  refine .inr ⟨W.heap.size, 0, rfl, by omega, fun i hi => ?_⟩
  match i, hi with
  | 0, _ => exact r.cell (i := 0) rfl
def woTo (us : List Nat) (x k : Nat) : List Nat := (List.range k).filter fun i => !hasB (wd us x) i
def wiTo (us : List Nat) (x k : Nat) : List Nat := (List.range k).filter fun i => !hasB (wd us i) x
theorem woTo_yes {us : List Nat} {x k : Nat} (h : hasB (wd us x) k = true) : woTo us x (k + 1) = woTo us x k := by unfold woTo; rw [List.range_succ, List.filter_append]; simp [h]
theorem woTo_no {us : List Nat} {x k : Nat} (h : hasB (wd us x) k = false) : woTo us x (k + 1) = woTo us x k ++ [k] := by unfold woTo; rw [List.range_succ, List.filter_append]; simp [h]
theorem wiTo_yes {us : List Nat} {x k : Nat} (h : hasB (wd us k) x = true) : wiTo us x (k + 1) = wiTo us x k := by unfold wiTo; rw [List.range_succ, List.filter_append]; simp [h]
theorem wiTo_no {us : List Nat} {x k : Nat} (h : hasB (wd us k) x = false) : wiTo us x (k + 1) = wiTo us x k ++ [k] := by unfold wiTo; rw [List.range_succ, List.filter_append]; simp [h]
theorem woTo_len (us : List Nat) (x k : Nat) : (woTo us x k).length ≤ k := by unfold woTo; exact Nat.le_trans (List.length_filter_le _ _) (by simp)
theorem wiTo_len (us : List Nat) (x k : Nat) : (wiTo us x k).length ≤ k := by unfold wiTo; exact Nat.le_trans (List.length_filter_le _ _) (by simp)
theorem ownsRow_slice {W : World} {base : Nat} {e : TypeId} {size : Nat} {v : Value} {k : Nat} {xs : List Value} (h : W.ownsRow base e size v k xs) : ∃ a c, v = .slice a k c := by
  rcases h.2 with ⟨rfl, h0⟩ | ⟨g, cap, _, rfl, _⟩
  · exact ⟨none, 0, by rw [h0]⟩
  · exact ⟨_, _, rfl⟩
theorem apart_nil (v : Value) : Apart (.slice none 0 0) v := fun b h => by simp [Value.ownBlock] at h

set_option maxRecDepth 100000 in
set_option maxHeartbeats 1000000 in
theorem dsplit_bad (n : Int) (a : Option Addr) (cap : Nat) (us : List Nat) (x : Int) (n₀ : Nat) (w : World) (hR : Ready a us n₀ w) (hc : codeOf n us ≠ 0) :
    Calls Tryd.prog 8 #[.agg #[.int .i64 n, .slice a us.length cap], .int .i64 x] w fun e w' => e = .returned (.bool true) ∧ Below w.heap.size w w' := by
  obtain ⟨r0, hb0, hs0⟩ := one_row w 24 (.int .i64 n) (.slice a us.length cap) rfl
  have R1 := hR.step hb0
  have hso := sound_any n a cap us n₀ R1.fit _ R1.wds R1.le
  have h1 : (codeOf n us == 0) = false := by rw [beq_eq_false_iff_ne]; exact hc
  have h2 : (codeOf n us != 0) = true := by rw [bne_iff_ne]; exact hc
  rw [h1] at hso
  have c00 := r0.cell (i := 0) rfl
  have c01 := r0.cell (i := 1) rfl
  go_enter Tryd.func8, Tryd.ntmps8
  go_wp2_with fail
  refine hso.mono ?_
  rintro e w1 ⟨rfl, hb1⟩
  have q0 := row_below r0 hb1 r0.lt
  have hs1 := hb1.size
  have R2 := R1.step hb1
  have hre := refused_any n a cap us n₀ R2.fit w1 R2.tab R2.wds R2.glo R2.le
  rw [h2] at hre
  have d00 := q0.cell (i := 0) rfl
  have d01 := q0.cell (i := 1) rfl
  have HB := hide (hb0.trans (hb1.mono (by omega)))
  clear hso c00 c01 hb0 hb1 h1 h2 hc
  go_wp2_with (go_at_call 18; refine hre.mono ?_; rintro e w2 ⟨rfl, hb2⟩)
  go_ret
  exact ⟨rfl, HB.out.trans (hb2.mono (by have := HB.out.size; omega))⟩

set_option maxRecDepth 100000 in
set_option maxHeartbeats 2000000 in
theorem dsplit_ok (a : Option Addr) (cap : Nat) (us : List Nat) (x : Int) (n₀ : Nat) (w : World) (hR : Ready a us n₀ w) (hc : codeOf us.length us = 0) :
    Calls Tryd.prog 8 #[.agg #[.int .i64 us.length, .slice a us.length cap], .int .i64 x] w fun e w' => e = .returned (.bool true) ∧ Below w.heap.size w w' := by
  obtain ⟨r0, hb0, hs0⟩ := one_row w 24 (.int .i64 us.length) (.slice a us.length cap) rfl
  obtain ⟨_, h16, _, hin, hord⟩ := code_zero hc
  have hl16 : us.length ≤ 16 := by omega
  have R1 := hR.step hb0
  have hf := hR.fit
  have hso := sound_any us.length a cap us n₀ R1.fit _ R1.wds R1.le
  rw [show (codeOf us.length us == 0) = true by rw [hc]; rfl] at hso
  have d2 := fun W (hW : Ready a us n₀ W) => Count_ok a cap us n₀ W hW hc
  have HI := hide hin
  have HO := hide hord
  have Hb := hide hb0
  clear hb0 hc hin hord
  go_enter Tryd.func8, Tryd.ntmps8
  go_wp2_with fail
  refine hso.mono ?_
  rintro e w1 ⟨rfl, hb1⟩
  have hs1 := hb1.size
  have R2 := R1.step hb1
  have q0 := row_below r0 hb1 r0.lt
  have j0 := q0.cell (i := 0) rfl
  have j1 := q0.cell (i := 1) rfl
  clear hso
  go_wp2_with fail
  refine (d2 w1 R2).mono ?_
  rintro e w2 ⟨ds, rfl, hT, hb2⟩
  have hs2 := hb2.size
  have hlD := hT.len
  have R3 := R2.step hb2
  have q1 := row_below q0 hb2 q0.lt
  have hmore := more_downs HI.out HO.out hf (Dn.of_tur hT)
  have hnle : decide ((allD ds).length ≤ us.length) = false := by rw [decide_eq_false_iff_not]; omega
  have hAL : (allD ds).length ≤ 65536 := allD_len (by omega)
  have HT := hide hT
  have k0 := q1.cell (i := 0) rfl
  have k1 := q1.cell (i := 1) rfl
  have HB2 := hide ((Hb.out.trans (hb1.mono (by omega))).trans (hb2.mono (by omega)))
  have hwi := kwithin_z us.length (some ⟨w2.heap.size, 0, none⟩) 1 [x] (w2.heap.size + 1) (by simp) (w2.alloc (.cells #[.int .i64 x] 3)) (zone w2 3 x)
  have lt1 := q1.lt
  clear j0 j1 d2 hT
  by_cases hx : 0 ≤ x ∧ x < (us.length : Nat)
  · obtain ⟨y, rfl⟩ : ∃ y : Nat, x = (y : Int) := ⟨x.toNat, by omega⟩
    have hyn : y < us.length := by omega
    rw [show allInB us.length [((y : Nat) : Int)] = true from allInB_true.2 fun i hi => by
      have : i = 0 := by simpa using hi
      subst this; simpa [zd] using hx] at hwi
    clear hx
    go_wp2_with (go_at_call 23; refine hwi.mono ?_; rintro e w' ⟨rfl, rfl⟩)
    obtain ⟨V, hV⟩ : ∃ V, w2.alloc (.cells #[.int .i64 (y : Nat)] 3) = V := ⟨_, rfl⟩
    have hbV : Below w2.heap.size w2 V := by rw [← hV]; exact (Below.refl _ _).alloc (Nat.le_refl _) _
    rw [hV]
    clear hwi hV
    have hsV := hbV.size
    have qV := row_below q1 hbV lt1
    have RV := R3.step hbV
    obtain ⟨i0, hi, hz0, hz1, hz2⟩ := info_parts info_int
    have ltV := qV.lt
    clear k0 k1
    go_loopw [7, 8, 9] (fun l1 l2 i wr => ∃ (k : Nat) (S1 S2 : List Nat) (v1 v2 : Value), k ≤ us.length ∧ i = .int .i64 k ∧ l1 = v1 ∧ l2 = v2 ∧ Hid (S1 = woTo us y k) ∧ Hid (S2 = wiTo us y k) ∧ Below V.heap.size V wr ∧ wr.ownsRow V.heap.size 3 1 v1 S1.length (ivals S1) ∧ wr.ownsRow V.heap.size 3 1 v2 S2.length (ivals S2) ∧ Apart v1 v2) (fun _ _ i _ => us.length - (intOf i).toNat)
    case atStart => exact ⟨0, [], [], _, _, Nat.zero_le _, rfl, rfl, rfl, rfl, rfl, Below.refl _ _, World.ownsRow_nil .., World.ownsRow_nil .., apart_nil _⟩
    case round =>
      obtain ⟨k, S1, S2, v1, v2, hk, rfl, rfl, rfl, H1, H2, hB, o1, o2, hap⟩ := hrel
      have hsz := hB.size
      have qr := row_below qV hB ltV
      have c0 := qr.cell (i := 0) rfl
      have c1 := qr.cell (i := 1) rfl
      have hS1 : S1.length ≤ 16 := by rw [H1.out]; exact Nat.le_trans (woTo_len us y k) (by omega)
      have hS2 : S2.length ≤ 16 := by rw [H2.out]; exact Nat.le_trans (wiTo_len us y k) (by omega)
      obtain ⟨a1, c1', rfl⟩ := ownsRow_slice o1
      obtain ⟨a2, c2', rfl⟩ := ownsRow_slice o2
      by_cases hlt : k < us.length
      · have b1 := kbelow_any us.length a cap us y k n₀ hf hyn (by omega) wr (RV.wds.below (hB.mono RV.le)) (by have := RV.le; omega)
        have b2 := fun W (h1 : Below V.heap.size V W) => kbelow_any us.length a cap us k y n₀ hf hlt (by omega) W (RV.wds.below (h1.mono RV.le)) (by have := RV.le; have := h1.size; omega)
        have hS1e : S1.length + 1 = (S1 ++ [k]).length := by simp
        have hS2e : S2.length + 1 = (S2 ++ [k]).length := by simp
        have hboth2 : hasB (wd us k) y = true ∨ hasB (wd us k) y = false := by cases hasB (wd us k) y <;> simp
        have hboth1 : hasB (wd us y) k = true ∨ hasB (wd us y) k = false := by cases hasB (wd us y) k <;> simp
        rcases hboth1 with g1 | g1
        · rw [g1] at b1
          have G1 := hide (woTo_yes g1)
          clear g1
          rcases hboth2 with g2 | g2
          · rw [g2] at b2
            have G2 := hide (wiTo_yes g2)
            clear g2
            go_wp2_with (first
              | (go_at_call 29; refine b1.mono ?_; rintro e w3 ⟨rfl, hb3⟩; clear b1; have hs3 := hb3.size; have hB3 : Below V.heap.size V w3 := hB.trans (hb3.mono hsz); have p1 := ownsRow_below o1 hb3; have p2 := ownsRow_below o2 hb3; have x0 := row_below qV hB3 ltV; have d0 := x0.cell (i := 0) rfl; have d1 := x0.cell (i := 1) rfl; have s3 := b2 w3 hB3; clear b2)
              | (go_at_call 29; refine s3.mono ?_; rintro e w5 ⟨rfl, hb5⟩; clear s3; have hs5 := hb5.size; have hB5 : Below V.heap.size V w5 := hB3.trans (hb5.mono (by omega)); have z1 := ownsRow_below p1 hb5; have z2 := ownsRow_below p2 hb5))
            refine ⟨⟨k + 1, S1, S2, _, _, by omega, by go_num, rfl, rfl, by unfold Hid; rw [G1.out]; exact H1, by unfold Hid; rw [G2.out]; exact H2, hB5, ?_, ?_, hap⟩, by simp [intOf]; omega⟩
            · exact z1
            · exact z2
          · rw [g2] at b2
            have G2 := hide (wiTo_no g2)
            clear g2
            go_wp2_with (first
              | (go_at_call 29; refine b1.mono ?_; rintro e w3 ⟨rfl, hb3⟩; clear b1; have hs3 := hb3.size; have hB3 : Below V.heap.size V w3 := hB.trans (hb3.mono hsz); have p1 := ownsRow_below o1 hb3; have p2 := ownsRow_below o2 hb3; have x0 := row_below qV hB3 ltV; have d0 := x0.cell (i := 0) rfl; have d1 := x0.cell (i := 1) rfl; have s3 := b2 w3 hB3; clear b2)
              | (go_at_call 29; refine s3.mono ?_; rintro e w5 ⟨rfl, hb5⟩; clear s3; have hs5 := hb5.size; have hB5 : Below V.heap.size V w5 := hB3.trans (hb5.mono (by omega)); have z1 := ownsRow_below p1 hb5; have z2 := ownsRow_below p2 hb5)
              | (at_builtin; refine wpList_append_own_at _ rfl _ _ 43 rfl V.heap.size 3 i0 (.int .i64 0) 1 8 Tryd.underlying43 hi hz0 hz1 hz2 rfl (by decide) _ _ _ rfl (z2.alloc _) ⟨w5.heap.size, 0, none⟩ 1 1 [.int .i64 (k : Nat)] rfl rfl (cell_one_new _ _ _) (fun u hu => by simp at hu; subst hu; rfl) (by unfold maxLen; omega) (by omega) (by simp; omega) ?_; intro v'' u6 o2n g6 _ at6; obtain ⟨g'', cap'', rfl⟩ := ownsRow_succ o2n; obtain ⟨m1, m2, m3, m4⟩ := append_apart hB5 (by omega) z2 z1 hap.symm _ g6 at6; simp only [Act.put, List.setIfInBounds_toArray, List.set_cons_succ, List.set_cons_zero]))
            refine ⟨⟨k + 1, S1, S2 ++ [k], _, _, by omega, by go_num, rfl, rfl, by unfold Hid; rw [G1.out]; exact H1, by unfold Hid; rw [G2.out, ← H2.out], m1, ?_, ?_, m3.symm⟩, by simp [intOf]; omega⟩
            · exact m2
            · rw [ivals_snoc, ← hS2e]; exact o2n
        · rw [g1] at b1
          have G1 := hide (woTo_no g1)
          clear g1
          rcases hboth2 with g2 | g2
          · rw [g2] at b2
            have G2 := hide (wiTo_yes g2)
            clear g2
            go_wp2_with (first | (go_at_call 29; refine b1.mono ?_; rintro e w3 ⟨rfl, hb3⟩; clear b1; have hs3 := hb3.size; have hB3 : Below V.heap.size V w3 := hB.trans (hb3.mono hsz); have p1 := ownsRow_below o1 hb3; have p2 := ownsRow_below o2 hb3) | (at_builtin; refine wpList_append_own_at _ rfl _ _ 43 rfl V.heap.size 3 i0 (.int .i64 0) 1 8 Tryd.underlying43 hi hz0 hz1 hz2 rfl (by decide) _ _ _ rfl (p1.alloc _) ⟨w3.heap.size, 0, none⟩ 1 1 [.int .i64 (k : Nat)] rfl rfl (cell_one_new _ _ _) (fun u hu => by simp at hu; subst hu; rfl) (by unfold maxLen; omega) (by omega) (by simp; omega) ?_; intro v' u3 o1n g3 _ at3; obtain ⟨g', cap', rfl⟩ := ownsRow_succ o1n; obtain ⟨k1, k2, k3, k4⟩ := append_apart hB3 (by omega) p1 p2 hap _ g3 at3; have x0 := row_below qV k1 ltV; have d0 := x0.cell (i := 0) rfl; have d1 := x0.cell (i := 1) rfl; have s3 := b2 u3 k1; clear b2; simp only [Act.put, List.setIfInBounds_toArray, List.set_cons_succ, List.set_cons_zero]))
            refine s3.mono ?_
            rintro e w5 ⟨rfl, hb5⟩
            clear s3
            dsimp only
            have hs5 := hb5.size
            have hB5 : Below V.heap.size V w5 := k1.trans (hb5.mono (by omega))
            have z1 := ownsRow_below o1n hb5
            have z2 := ownsRow_below k2 hb5
            go_wp2_with fail
            refine ⟨⟨k + 1, S1 ++ [k], S2, _, _, by omega, by go_num, rfl, rfl, by unfold Hid; rw [G1.out, ← H1.out], by unfold Hid; rw [G2.out]; exact H2, hB5, ?_, ?_, k3⟩, by simp [intOf]; omega⟩
            · rw [ivals_snoc, ← hS1e]; exact z1
            · exact z2
          · rw [g2] at b2
            have G2 := hide (wiTo_no g2)
            clear g2
            go_wp2_with (first | (go_at_call 29; refine b1.mono ?_; rintro e w3 ⟨rfl, hb3⟩; clear b1; have hs3 := hb3.size; have hB3 : Below V.heap.size V w3 := hB.trans (hb3.mono hsz); have p1 := ownsRow_below o1 hb3; have p2 := ownsRow_below o2 hb3) | (at_builtin; refine wpList_append_own_at _ rfl _ _ 43 rfl V.heap.size 3 i0 (.int .i64 0) 1 8 Tryd.underlying43 hi hz0 hz1 hz2 rfl (by decide) _ _ _ rfl (p1.alloc _) ⟨w3.heap.size, 0, none⟩ 1 1 [.int .i64 (k : Nat)] rfl rfl (cell_one_new _ _ _) (fun u hu => by simp at hu; subst hu; rfl) (by unfold maxLen; omega) (by omega) (by simp; omega) ?_; intro v' u3 o1n g3 _ at3; obtain ⟨g', cap', rfl⟩ := ownsRow_succ o1n; obtain ⟨k1, k2, k3, k4⟩ := append_apart hB3 (by omega) p1 p2 hap _ g3 at3; have x0 := row_below qV k1 ltV; have d0 := x0.cell (i := 0) rfl; have d1 := x0.cell (i := 1) rfl; have s3 := b2 u3 k1; clear b2; simp only [Act.put, List.setIfInBounds_toArray, List.set_cons_succ, List.set_cons_zero]))
            refine s3.mono ?_
            rintro e w5 ⟨rfl, hb5⟩
            clear s3
            dsimp only
            have hs5 := hb5.size
            have hB5 : Below V.heap.size V w5 := k1.trans (hb5.mono (by omega))
            have z1 := ownsRow_below o1n hb5
            have z2 := ownsRow_below k2 hb5
            go_wp2_with (at_builtin; refine wpList_append_own_at _ rfl _ _ 43 rfl V.heap.size 3 i0 (.int .i64 0) 1 8 Tryd.underlying43 hi hz0 hz1 hz2 rfl (by decide) _ _ _ rfl (z2.alloc _) ⟨w5.heap.size, 0, none⟩ 1 1 [.int .i64 (k : Nat)] rfl rfl (cell_one_new _ _ _) (fun u hu => by simp at hu; subst hu; rfl) (by unfold maxLen; omega) (by omega) (by simp; omega) ?_; intro v'' u6 o2n g6 _ at6; obtain ⟨g'', cap'', rfl⟩ := ownsRow_succ o2n; obtain ⟨m1, m2, m3, m4⟩ := append_apart hB5 (by omega) z2 z1 k3.symm _ g6 at6; simp only [Act.put, List.setIfInBounds_toArray, List.set_cons_succ, List.set_cons_zero])
            refine ⟨⟨k + 1, S1 ++ [k], S2 ++ [k], _, _, by omega, by go_num, rfl, rfl, by unfold Hid; rw [G1.out, ← H1.out], by unfold Hid; rw [G2.out, ← H2.out], m1, ?_, ?_, m3.symm⟩, by simp [intOf]; omega⟩
            · rw [ivals_snoc, ← hS1e]; exact m2
            · rw [ivals_snoc, ← hS2e]; exact o2n
      · obtain rfl : k = us.length := by omega
        have e1 : S1 = without us y := H1.out
        have e2 : S2 = withX us y := H2.out
        have hlt1 : ∀ z ∈ S1, z < us.length := fun z hz => by rw [e1] at hz; exact (mem_without.1 hz).1
        have hlt2 : ∀ z ∈ S2, z < us.length := fun z hz => by rw [e2] at hz; exact (mem_withX.1 hz).1
        have hn1 : S1.Nodup := by rw [e1]; exact List.nodup_range.filter _
        have hn2 : S2.Nodup := by rw [e2]; exact List.nodup_range.filter _
        have hc1 := part_code HI.out HO.out hf hn1 hlt1 hS1
        have hc2 := part_code HI.out HO.out hf hn2 hlt2 hS2
        have hsum := fun es fs (h1 : Dn (partL us S1) es) (h2 : Dn (partL us S2) fs) => splits_len HI.out HO.out hf hl16 (Dn.of_tur HT.out) hyn (es := es) (fs := fs) (by rw [← e1]; exact h1) (by rw [← e2]; exact h2)
        have HS := hide hsum
        have hl1 := partL_len us S1
        have hl2 := partL_len us S2
        have hp1 := part_any us.length a cap us a1 c1' S1 n₀ hf hlt1 hl16 hS1 wr (RV.wds.below (hB.mono RV.le)) (ownsRow_ints o1) (by have := RV.le; omega)
        have HB := hide (HB2.out.trans ((hbV.trans (hB.mono hsV)).mono HB2.out.size))
        clear hsum H1 H2 e1 e2 hn1 hn2
        go_wp2_with (go_at_call 26; refine hp1.mono ?_)
        rintro e w3 ⟨vp, rfl, hb3, op⟩
        obtain ⟨ap1, cp1, rfl, wp1⟩ := ownsRow_words op
        rw [hl1]
        have hs3 := hb3.size
        have RP : Ready ap1 (partL us S1) w3.heap.size w3 := ⟨fit_partL hS1, (RV.tab.below hB (by have := RV.glo; have := RV.le; omega)).below hb3 (by have := RV.glo; have := RV.le; omega), wp1, by have := RV.glo; have := RV.le; omega, Nat.le_refl _⟩
        have hcn := Count_ok ap1 cp1 (partL us S1) w3.heap.size w3 RP hc1
        rw [hl1] at hcn
        go_wp2_with (go_at_call 10; refine hcn.mono ?_)
        rintro e w4 ⟨es, rfl, hTe, hb4⟩
        have hs4 := hb4.size
        have hde : Dn (partL us S1) es := Dn.of_tur (by rw [hl1]; exact hTe)
        have hEL : (allD es).length ≤ 65536 := allD_len (by rw [hde.1, hl1]; exact hS1)
        have hB4 : Below V.heap.size V w4 := (hB.trans (hb3.mono hsz)).trans (hb4.mono (by omega))
        have q4 := row_below qV hB4 ltV
        have f0 := q4.cell (i := 0) rfl
        have f1 := q4.cell (i := 1) rfl
        have o2' := ownsRow_below (ownsRow_below o2 hb3) hb4
        have hp2 := part_any us.length a cap us a2 c2' S2 n₀ hf hlt2 hl16 hS2 w4 (RV.wds.below (hB4.mono RV.le)) (ownsRow_ints o2') (by have := RV.le; omega)
        clear hp1 hcn c0 c1
        go_wp2_with (go_at_call 26; refine hp2.mono ?_)
        rintro e w5 ⟨vq, rfl, hb5, oq⟩
        obtain ⟨aq, cq, rfl, wq⟩ := ownsRow_words oq
        rw [hl2]
        have hs5 := hb5.size
        have RQ : Ready aq (partL us S2) w5.heap.size w5 := ⟨fit_partL hS2, (RV.tab.below hB4 (by have := RV.glo; have := RV.le; omega)).below hb5 (by have := RV.glo; have := RV.le; omega), wq, by have := RV.glo; have := RV.le; omega, Nat.le_refl _⟩
        have hcm := Count_ok aq cq (partL us S2) w5.heap.size w5 RQ hc2
        rw [hl2] at hcm
        go_wp2_with (go_at_call 10; refine hcm.mono ?_)
        rintro e w6 ⟨fs, rfl, hTf, hb6⟩
        have hdf : Dn (partL us S2) fs := Dn.of_tur (by rw [hl2]; exact hTf)
        have hFL : (allD fs).length ≤ 65536 := allD_len (by rw [hdf.1, hl2]; exact hS2)
        have htot := HS.out es fs hde hdf
        have HT2 := hide htot
        clear hp2 hcm htot hde hdf hTe hTf HS
        go_wp2_with fail
        go_ret
        refine ⟨ret_bool ?_, ((((HB.out.trans (hb3.mono (by have := HB2.out.size; omega))).trans (hb4.mono (by have := HB2.out.size; omega))).trans (hb5.mono (by have := HB2.out.size; omega))).trans (hb6.mono (by have := HB2.out.size; omega)))⟩
        rw [HT2.out]; simp
  · rw [show allInB us.length [x] = false from allInB_false.2 fun h => hx (by simpa [zd] using h 0 (by simp))] at hwi
    clear hx
    go_wp2_with (go_at_call 23; refine hwi.mono ?_; rintro e w' ⟨rfl, rfl⟩)
    go_ret
    exact ⟨rfl, HB2.out.alloc (by omega) _⟩

/-- **DownsSplits answers true, for every order and any number, and writes nothing that was there** -/
theorem dsplit_any (n : Int) (a : Option Addr) (cap : Nat) (us : List Nat) (x : Int) (n₀ : Nat) (hf : Fit us) (w : World) (hT : TabAt w) (hw : IsWords n₀ w a us) (hg : 0 < n₀) (hn₀ : n₀ ≤ w.heap.size) :
    Calls Tryd.prog 8 #[.agg #[.int .i64 n, .slice a us.length cap], .int .i64 x] w fun e w' => e = .returned (.bool true) ∧ Below w.heap.size w w' := by
  have hR : Ready a us n₀ w := ⟨hf, hT, hw, hg, hn₀⟩
  by_cases hc : codeOf n us = 0
  · have hl := (code_zero hc).2.2.1
    subst hl
    exact dsplit_ok a cap us x n₀ w hR hc
  · exact dsplit_bad n a cap us x n₀ w hR hc
end Go.Proofs.YtdomcjfgmnpbmaaDoor
