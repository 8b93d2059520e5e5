/- The walk of the law SummaryOne: it answers true, and writes nothing that was there. -/
import Derived.Test.YtfigdkikkociaabSumCall
import Derived.Deep.RegionHeld3
namespace Go.Proofs.Ytfigdkikkociaab
open Go.RowKit Go.Shelf

theorem fill_zd {n : Nat} {x : Int} {i : Nat} (h : i < n) : zd (List.replicate n x) i = x := by
  unfold zd; rw [List.getD_eq_getElem?_getD, List.getElem?_replicate, if_pos h]; rfl
set_option maxRecDepth 100000 in
set_option maxHeartbeats 1000000 in
theorem filled_any (n : Nat) (x : Int) (hn : n ≤ 4) (w : World) :
    Calls Try.prog 14 #[.int .i64 n, .int .i64 x] w fun e w' => ∃ F av cv, F = List.replicate n x ∧ e = .returned (.slice av F.length cv) ∧ SArg w'.heap.size w' av cv F ∧ Below w.heap.size w w' := by
  obtain ⟨i0, hi, hz0, hz1, hz2⟩ := int_info
  go_enter Try.func14, Try.ntmps14
  go_wp2
  go_loopw [5, 6] (fun ls i wr => ∃ (j : Nat) (av : Option Addr) (cv : Nat), j ≤ n ∧ i = .int .i64 j ∧ ls = .slice av j cv ∧ Below w.heap.size w wr ∧ wr.ownsRow w.heap.size 3 1 (.slice av j cv) j (zvals (List.replicate j x))) (fun _ i _ => n - (intOf i).toNat)
  case atStart => exact ⟨0, none, 0, Nat.zero_le _, rfl, rfl, Below.refl _ _, World.ownsRow_nil ..⟩
  case round =>
    obtain ⟨j, av, cv, hj, rfl, rfl, hB, hown⟩ := hrel
    by_cases hlt : j < n
    · have hbsz := hB.size
      have HS := hide (show List.replicate (j + 1) x = List.replicate j x ++ [x] from List.replicate_succ')
      generalize List.replicate j x = S at *
      go_wp2_with (at_builtin; refine wpList_append_own _ rfl _ _ 22 rfl w.heap.size 3 i0 (.int .i64 0) 1 8 Try.underlying22 hi hz0 hz1 hz2 rfl (by decide) _ _ _ rfl (hown.alloc _) ⟨wr.heap.size, 0, none⟩ 1 1 [.int .i64 x] rfl rfl (cell_one_new _ _ _) (fun u hu => by simp at hu; subst hu; rfl) (by unfold maxLen; omega) (by omega) (by simp; omega) ?_; intro v' w3 hown3 hgrow3 _; obtain ⟨g', cap', rfl⟩ := ownsRow_succ hown3)
      have hB3 : Below w.heap.size w w3 := (hB.alloc hbsz (.cells #[.int .i64 x] 3)).grown hgrow3 (by simp; omega) fun q eq => by
        apply Nat.le_of_not_lt; intro hql
        exact ownBlock_ge hown (b := q) hql eq.symm
      refine ⟨⟨j + 1, some ⟨g', 0, none⟩, cap', by omega, by go_num, rfl, hB3, ?_⟩, by simp [intOf]; omega⟩
      rw [HS.out, zvals_snoc]
      exact hown3
    · obtain rfl : j = n := by omega
      have HL := hide (List.length_replicate (n := j) (a := x))
      go_wp2
      go_ret
      exact ⟨_, av, cv, rfl, by rw [HL.out]; rfl, own_arg hown (by omega), hB⟩
/-- do two summaries answer the same of a time? -/
def likeB (s r : Sm) (t : List Int) : Bool := (codeA s t == codeA r t) && sameB (resA s t) (resA r t)
def likes (s r : Sm) (n : Nat) : Nat → Bool
  | 0 => true
  | i + 1 => likes s r n i && likeB s r (List.replicate n (i : Int))
theorem fill_time {n : Nat} {x : Int} (h1 : 1 ≤ n) (h4 : n ≤ 4) (h0 : 0 ≤ x) (hx : x ≤ 1048576) : codeT (List.replicate n x) = 0 :=
  codeT_mk (by rw [List.length_replicate]; exact h1) (by rw [List.length_replicate]; exact h4) fun i hi => by
    rw [List.length_replicate] at hi
    rw [fill_zd hi, outC_false]; exact ⟨h0, hx⟩
theorem likes_two {s r : Sm} {n : Nat} (hs : codeS s (n : Int) = 0) (hr : codeS r (n : Int) = 0) (ho : s.out = r.out) : likes s r n 2 = sameM s r := by
  have gs := good_of hs
  have gr := good_of hr
  have n1 := gs.n1
  have n4 := gs.n4
  have hl : ∀ x : Int, (List.replicate n x).length = n := fun x => List.length_replicate
  have t0 := fill_time (x := 0) n1 n4 (by omega) (by omega)
  have t1 := fill_time (x := 1) n1 n4 (by omega) (by omega)
  have cs : ∀ (s : Sm), codeS s (n : Int) = 0 → ∀ x : Int, codeT (List.replicate n x) = 0 → codeA s (List.replicate n x) = if overS s (List.replicate n x) then 6 else 0 := fun s h x hx => codeA_e hx (by rw [hl]; exact h)
  have o0 : ∀ (s : Sm), codeS s (n : Int) = 0 → overS s (List.replicate n 0) = false := fun s h => by
    have g := good_of h
    have := g.k1
    have := g.kn
    have := g.dm
    rw [overS_false, fill_zd (by omega)]; omega
  cases hm : sameM s r with
  | true =>
    obtain rfl := sameM_true.1 hm
    have : ∀ t, likeB s s t = true := fun t => by unfold likeB; rw [beq_self_eq_true, sameB_true.2 rfl]; rfl
    show (likes s s n 1 && _) = true
    show ((likes s s n 0 && _) && _) = true
    rw [this, this]; rfl
  | false =>
    rw [Bool.eq_false_iff]
    intro h
    have hne := sameM_false.1 hm
    have h' : ((true && likeB s r (List.replicate n ((0 : Nat) : Int))) && likeB s r (List.replicate n ((1 : Nat) : Int))) = true := h
    rw [Bool.true_and, Bool.and_eq_true] at h'
    obtain ⟨ha, hb⟩ := h'
    unfold likeB at ha hb
    rw [Bool.and_eq_true, beq_iff_eq, sameB_true] at ha hb
    have e0 : makeS s (List.replicate n 0) = makeS r (List.replicate n 0) := by
      have h2 := ha.2
      rw [resA_ok (by have := cs s hs 0 t0; rw [o0 s hs] at this; exact this), resA_ok (by have := cs r hr 0 t0; rw [o0 r hr] at this; exact this)] at h2
      exact h2
    have h1 : (if overS s (List.replicate n 1) then (6 : Int) else 0) = if overS r (List.replicate n 1) then 6 else 0 := by
      have h2 := hb.1
      have e1 := cs s hs 1 t1
      have e2 := cs r hr 1 t1
      exact (e1.symm.trans h2).trans e2
    have eo : overS s (List.replicate n 1) = overS r (List.replicate n 1) := by
      cases a : overS s (List.replicate n 1) <;> cases b : overS r (List.replicate n 1) <;> rw [a, b] at h1 <;> first | rfl | exact absurd h1 (by decide)
    refine hne (make_one hs hr ho (List.replicate n 0) (List.replicate n 1) (hl 0) (hl 1) (fun i hi => fill_zd hi) (fun i hi => fill_zd hi) e0 eo fun hv => ?_)
    have h2 := hb.2
    have c1 := cs s hs 1 t1
    have c2 := cs r hr 1 t1
    rw [← eo] at c2
    rw [hv] at c1 c2
    have h2' : resA s (List.replicate n 1) = resA r (List.replicate n 1) := h2
    rw [resA_ok c1, resA_ok c2] at h2'
    exact h2'

set_option maxRecDepth 100000 in
set_option maxHeartbeats 8000000 in
theorem sone_any (k0 d0 : Int) (a0 : Option Addr) (cap0 : Nat) (z0 : List Int) (k1 d1 : Int) (a1 : Option Addr) (cap1 : Nat) (z1 : List Int) (x2 : Int) (n₀ : Nat) (w : World) (g0 : SArg n₀ w a0 cap0 z0) (g1 : SArg n₀ w a1 cap1 z1) (hn₀ : n₀ ≤ w.heap.size) :
    Calls Try.prog 5 #[.agg #[.int .i64 k0, .int .i64 d0, .slice a0 z0.length cap0], .agg #[.int .i64 k1, .int .i64 d1, .slice a1 z1.length cap1], .int .i64 x2] w fun e w' => e = .returned (.bool true) ∧ Below w.heap.size w w' := by
  obtain ⟨p0, p1, hB, hs0⟩ := sum_rows w (.int .i64 k0) (.int .i64 d0) (.slice a0 z0.length cap0) (.int .i64 k1) (.int .i64 d1) (.slice a1 z1.length cap1) rfl
  obtain ⟨W0, hW0⟩ : ∃ V, ((w).alloc (.cells #[.int .i64 k0, .int .i64 d0, .slice a0 z0.length cap0] 24)).alloc (.cells #[.int .i64 k1, .int .i64 d1, .slice a1 z1.length cap1] 24) = V := ⟨_, rfl⟩
  rw [hW0] at p0 p1 hB hs0
  replace g0 := (g0.mono hn₀).step hB
  replace g1 := (g1.mono hn₀).step hB
  clear hs0
  have p0c0 := p0.cell (i := 0) rfl
  have p0c1 := p0.cell (i := 1) rfl
  have p0c2 := p0.cell (i := 2) rfl
  have p0l := p0.lt
  have p1c0 := p1.cell (i := 0) rfl
  have p1c1 := p1.cell (i := 1) rfl
  have p1c2 := p1.cell (i := 2) rfl
  have p1l := p1.lt
  go_enter Try.func5, Try.ntmps5
  go_wp2_with fail
  refine (cCheck (k := k0) (d := d0) (n := x2) g0).mono ?_
  rintro e w1 ⟨rfl, hb⟩
  dsimp only
  clear p0c0 p0c1 p0c2 p1c0 p1c1 p1c2 p0l p1l
  replace p0 := row_below p0 hb p0.lt
  replace p1 := row_below p1 hb p1.lt
  replace g0 := g0.step hb
  replace g1 := g1.step hb
  replace hB := hB.trans (hb.mono hB.size)
  have p0c0 := p0.cell (i := 0) rfl
  have p0c1 := p0.cell (i := 1) rfl
  have p0c2 := p0.cell (i := 2) rfl
  have p0l := p0.lt
  have p1c0 := p1.cell (i := 0) rfl
  have p1c1 := p1.cell (i := 1) rfl
  have p1c2 := p1.cell (i := 2) rfl
  have p1l := p1.lt
  clear hb
  by_cases h1 : codeS ⟨k0, d0, z0⟩ x2 = 0
  · skip
    go_wp2_with fail
    refine (cCheck (k := k1) (d := d1) (n := x2) g1).mono ?_
    rintro e w2 ⟨rfl, hb⟩
    dsimp only
    clear p0c0 p0c1 p0c2 p1c0 p1c1 p1c2 p0l p1l
    replace p0 := row_below p0 hb p0.lt
    replace p1 := row_below p1 hb p1.lt
    replace g0 := g0.step hb
    replace g1 := g1.step hb
    replace hB := hB.trans (hb.mono hB.size)
    have p0c0 := p0.cell (i := 0) rfl
    have p0c1 := p0.cell (i := 1) rfl
    have p0c2 := p0.cell (i := 2) rfl
    have p0l := p0.lt
    have p1c0 := p1.cell (i := 0) rfl
    have p1c1 := p1.cell (i := 1) rfl
    have p1c2 := p1.cell (i := 2) rfl
    have p1l := p1.lt
    clear hb
    by_cases h2 : codeS ⟨k1, d1, z1⟩ x2 = 0
    · skip
      obtain ⟨n, rfl⟩ : ∃ n : Nat, x2 = (n : Int) := ⟨x2.toNat, by
        have h := (codeS_zero h1).1
        unfold badS at h
        omega⟩
      have gg := good_of h1
      have gr := good_of h2
      have oo := gg.out4
      have or' := gr.out4
      have kk := gg.k1
      have kr := gr.k1
      have n4 := gg.n4
      dsimp only at oo or' kk kr
      have b0 : k0 ≤ 4 ∧ z0.length ≤ 4 ∧ k1 ≤ 4 ∧ z1.length ≤ 4 := by omega
      obtain ⟨b1, b2, b3, b4⟩ := b0
      rw [h1, h2]
      by_cases ho : (z0.length : Int) + k0 = (z1.length : Int) + k1
      · skip
        have q9 : ((z0.length : Int) + k0 != (z1.length : Int) + k1) = false := by rw [bne_eq_false_iff_eq]; exact ho
        have HT := hide (likes_two (s := ⟨k0, d0, z0⟩) (r := ⟨k1, d1, z1⟩) h1 h2 (by omega))
        have Hn := hide n4
        clear gg gr oo or' ho
        go_wp2_with fail
        go_loopw [7, 8] (fun b i wr => ∃ (j : Nat) (c : Bool), j ≤ 2 ∧ i = .int .i64 j ∧ b = .bool c ∧ Hid (c = likes ⟨k0, d0, z0⟩ ⟨k1, d1, z1⟩ n j) ∧ Below w2.heap.size w2 wr) (fun _ i _ => 2 - (intOf i).toNat)
        case atStart => exact ⟨0, true, by omega, rfl, rfl, hide rfl, Below.refl _ _⟩
        case round =>
          obtain ⟨j, c, hj, rfl, rfl, HC, hbr⟩ := hrel
          replace hB := hB.trans (hbr.mono hB.size)
          clear p0c0 p0c1 p0c2 p1c0 p1c1 p1c2 p0l p1l
          replace p0 := row_below p0 hbr p0.lt
          replace p1 := row_below p1 hbr p1.lt
          replace g0 := g0.step hbr
          replace g1 := g1.step hbr
          by_cases hlt : j < 2
          · skip
            have p0c0 := p0.cell (i := 0) rfl
            have p0c1 := p0.cell (i := 1) rfl
            have p0c2 := p0.cell (i := 2) rfl
            have p0l := p0.lt
            have p1c0 := p1.cell (i := 0) rfl
            have p1c1 := p1.cell (i := 1) rfl
            have p1c2 := p1.cell (i := 2) rfl
            have p1l := p1.lt
            go_wp2_with fail
            clear p0c0 p0c1 p0c2 p1c0 p1c1 p1c2 p0l p1l
            have bdA : Below wr.heap.size wr wr.drew := (Below.refl _ _).drew
            have rA := row_below p0 bdA p0.lt
            have rAl := rA.lt
            have sA := g0.step bdA
            have cA0 := rA.cell (i := 0) rfl
            have cA1 := rA.cell (i := 1) rfl
            have cA2 := rA.cell (i := 2) rfl
            go_region_held3 (fun w' => w'.cell? ⟨w.heap.size, 0, none⟩ = some (.int .i64 k0) ∧ w'.cell? ⟨w.heap.size, 1, none⟩ = some (.int .i64 d0) ∧ w'.cell? ⟨w.heap.size, 2, none⟩ = some (.slice a0 z0.length cap0)) (first | go_keep | (refine ⟨?_, ?_, ?_⟩ <;> assumption))
              (first
                | (go_at_call 14; refine (filled_any n (j : Int) Hn.out _).mono ?_; rintro e uA ⟨FA, afA, cfA, hFA, rfl, sfA, hfA⟩; have HFA := hide hFA; clear hFA; have tA := row_below rA hfA rAl; have tAl := tA.lt; have cA3 := tA.cell (i := 0) rfl; have cA4 := tA.cell (i := 1) rfl; have cA5 := tA.cell (i := 2) rfl; have yA := sA.step hfA)
                | (go_at_call 11; refine (cApply (k := k0) (d := d0) yA sfA).mono ?_; rintro e vA ⟨l1, al1, cl1, hl1, rfl, e1, hgA⟩; have Hl1 := hide hl1; clear hl1; have qA := row_below tA hgA tAl; have cA6 := qA.cell (i := 0) rfl; have cA7 := qA.cell (i := 1) rfl; have cA8 := qA.cell (i := 2) rfl))
            have hb : Below wr.heap.size wr vA := (bdA.trans (hfA.mono bdA.size)).trans (hgA.mono (bdA.trans (hfA.mono bdA.size)).size)
            clear cA0 cA1 cA2 cA3 cA4 cA5 cA6 cA7 cA8 rA tA qA sA yA
            replace p0 := row_below p0 hb p0.lt
            replace p1 := row_below p1 hb p1.lt
            replace g0 := g0.step hb
            replace g1 := g1.step hb
            replace hB := hB.trans (hb.mono hB.size)
            have p0c0 := p0.cell (i := 0) rfl
            have p0c1 := p0.cell (i := 1) rfl
            have p0c2 := p0.cell (i := 2) rfl
            have p0l := p0.lt
            have p1c0 := p1.cell (i := 0) rfl
            have p1c1 := p1.cell (i := 1) rfl
            have p1c2 := p1.cell (i := 2) rfl
            have p1l := p1.lt
            clear hb
            go_wp2_with fail
            clear p0c0 p0c1 p0c2 p1c0 p1c1 p1c2 p0l p1l
            have bdB : Below vA.heap.size vA vA.drew := (Below.refl _ _).drew
            have rB := row_below p1 bdB p1.lt
            have rBl := rB.lt
            have sB := g1.step bdB
            have cB0 := rB.cell (i := 0) rfl
            have cB1 := rB.cell (i := 1) rfl
            have cB2 := rB.cell (i := 2) rfl
            go_region_held3 (fun w' => w'.cell? ⟨w.heap.size + 1, 0, none⟩ = some (.int .i64 k1) ∧ w'.cell? ⟨w.heap.size + 1, 1, none⟩ = some (.int .i64 d1) ∧ w'.cell? ⟨w.heap.size + 1, 2, none⟩ = some (.slice a1 z1.length cap1)) (first | go_keep | (refine ⟨?_, ?_, ?_⟩ <;> assumption))
              (first
                | (go_at_call 14; refine (filled_any n (j : Int) Hn.out _).mono ?_; rintro e uB ⟨FB, afB, cfB, hFB, rfl, sfB, hfB⟩; have HFB := hide hFB; clear hFB; have tB := row_below rB hfB rBl; have tBl := tB.lt; have cB3 := tB.cell (i := 0) rfl; have cB4 := tB.cell (i := 1) rfl; have cB5 := tB.cell (i := 2) rfl; have yB := sB.step hfB)
                | (go_at_call 11; refine (cApply (k := k1) (d := d1) yB sfB).mono ?_; rintro e vB ⟨l2, al2, cl2, hl2, rfl, e2, hgB⟩; have Hl2 := hide hl2; clear hl2; have qB := row_below tB hgB tBl; have cB6 := qB.cell (i := 0) rfl; have cB7 := qB.cell (i := 1) rfl; have cB8 := qB.cell (i := 2) rfl))
            have hb : Below vA.heap.size vA vB := (bdB.trans (hfB.mono bdB.size)).trans (hgB.mono (bdB.trans (hfB.mono bdB.size)).size)
            clear cB0 cB1 cB2 cB3 cB4 cB5 cB6 cB7 cB8 rB tB qB sB yB
            replace p0 := row_below p0 hb p0.lt
            replace p1 := row_below p1 hb p1.lt
            replace g0 := g0.step hb
            replace g1 := g1.step hb
            replace e1 := e1.step hb
            replace hB := hB.trans (hb.mono hB.size)
            have p0c0 := p0.cell (i := 0) rfl
            have p0c1 := p0.cell (i := 1) rfl
            have p0c2 := p0.cell (i := 2) rfl
            have p0l := p0.lt
            have p1c0 := p1.cell (i := 0) rfl
            have p1c1 := p1.cell (i := 1) rfl
            have p1c2 := p1.cell (i := 2) rfl
            have p1l := p1.lt
            clear hb
            have HN := hide (show ∀ b, likeB ⟨k0, d0, z0⟩ ⟨k1, d1, z1⟩ (List.replicate n (j : Int)) = b → likes ⟨k0, d0, z0⟩ ⟨k1, d1, z1⟩ n (j + 1) = (c && b) from fun b hb => by rw [← hb, HC.out]; rfl)
            have HD := hide (show likeB ⟨k0, d0, z0⟩ ⟨k1, d1, z1⟩ (List.replicate n (j : Int)) = ((codeA ⟨k0, d0, z0⟩ FA == codeA ⟨k1, d1, z1⟩ FB) && sameB l1 l2) from by rw [Hl1.out, Hl2.out, HFA.out, HFB.out]; rfl)
            generalize codeA ⟨k0, d0, z0⟩ FA = c1 at *
            generalize codeA ⟨k1, d1, z1⟩ FB = c2 at *
            have hbr2 := hbr
            have hAll := (bdA.trans (hfA.mono bdA.size)).trans (hgA.mono (bdA.trans (hfA.mono bdA.size)).size)
            have hAll2 := hAll.trans (((bdB.trans (hfB.mono bdB.size)).trans (hgB.mono (bdB.trans (hfB.mono bdB.size)).size)).mono hAll.size)
            by_cases he : c1 = c2
            · skip
              have m1 : (c1 != c2) = false := by rw [bne_eq_false_iff_eq]; exact he
              have m2 : (c1 == c2) = true := by rw [beq_iff_eq]; exact he
              rw [m2] at HD
              clear he m2
              go_wp2_with fail
              refine (tSame e1 e2).mono ?_
              rintro e vC ⟨rfl, hb⟩
              dsimp only
              have hAll3 := hAll2.trans (hb.mono hAll2.size)
              clear p0c0 p0c1 p0c2 p1c0 p1c1 p1c2 p0l p1l
              cases hs : sameB l1 l2 with
              | true =>
                rw [hs] at HD
                have HF := hide (HN.out true HD.out)
                clear hs HD
                go_wp2_with fail
                refine ⟨⟨j + 1, c, by omega, by go_num, rfl, hide (by rw [HF.out, Bool.and_true]), hbr.trans (hAll3.mono hbr.size)⟩, by simp [intOf]; omega⟩
              | false =>
                rw [hs] at HD
                have HF := hide (HN.out false HD.out)
                clear hs HD
                go_wp2_with fail
                refine ⟨⟨j + 1, false, by omega, by go_num, rfl, hide (by rw [HF.out, Bool.and_false]), hbr.trans (hAll3.mono hbr.size)⟩, by simp [intOf]; omega⟩
            · skip
              have m1 : (c1 != c2) = true := by rw [bne_iff_ne]; exact he
              have m2 : (c1 == c2) = false := by rw [beq_eq_false_iff_ne]; exact he
              rw [m2, Bool.false_and] at HD
              have HF := hide (HN.out false HD.out)
              clear he m2 HD
              go_wp2_with fail
              refine ⟨⟨j + 1, false, by omega, by go_num, rfl, hide (by rw [HF.out, Bool.and_false]), hbr.trans (hAll2.mono hbr.size)⟩, by simp [intOf]; omega⟩
          · skip
            obtain rfl : j = 2 := by omega
            have hc : c = sameM ⟨k0, d0, z0⟩ ⟨k1, d1, z1⟩ := HC.out.trans HT.out
            subst hc
            have f9 : (sameM ⟨k0, d0, z0⟩ ⟨k1, d1, z1⟩ == sameM ⟨k0, d0, z0⟩ ⟨k1, d1, z1⟩) = true := beq_self_eq_true _
            have p0c0 := p0.cell (i := 0) rfl
            have p0c1 := p0.cell (i := 1) rfl
            have p0c2 := p0.cell (i := 2) rfl
            have p0l := p0.lt
            have p1c0 := p1.cell (i := 0) rfl
            have p1c1 := p1.cell (i := 1) rfl
            have p1c2 := p1.cell (i := 2) rfl
            have p1l := p1.lt
            go_wp2_with fail
            refine (rSame (k := k0) (d := d0) (k2 := k1) (d2 := d1) g0 g1).mono ?_
            rintro e w3 ⟨rfl, hb⟩
            dsimp only
            clear p0c0 p0c1 p0c2 p1c0 p1c1 p1c2 p0l p1l
            replace p0 := row_below p0 hb p0.lt
            replace p1 := row_below p1 hb p1.lt
            replace g0 := g0.step hb
            replace g1 := g1.step hb
            replace hB := hB.trans (hb.mono hB.size)
            have p0c0 := p0.cell (i := 0) rfl
            have p0c1 := p0.cell (i := 1) rfl
            have p0c2 := p0.cell (i := 2) rfl
            have p0l := p0.lt
            have p1c0 := p1.cell (i := 0) rfl
            have p1c1 := p1.cell (i := 1) rfl
            have p1c2 := p1.cell (i := 2) rfl
            have p1l := p1.lt
            clear hb
            go_wp2_with fail
            go_ret
            exact ⟨rfl, hB⟩
      · skip
        have q9 : ((z0.length : Int) + k0 != (z1.length : Int) + k1) = true := by rw [bne_iff_ne]; exact ho
        go_wp2_with fail
        go_ret
        exact ⟨rfl, hB⟩
    · skip
      have q9 : (codeS ⟨k1, d1, z1⟩ x2 != 0) = true := by rw [bne_iff_ne]; exact h2
      clear h2
      go_wp2_with fail
      go_ret
      exact ⟨rfl, hB⟩
  · skip
    have q9 : (codeS ⟨k0, d0, z0⟩ x2 != 0) = true := by rw [bne_iff_ne]; exact h1
    clear h1
    go_wp2_with fail
    go_ret
    exact ⟨rfl, hB⟩
end Go.Proofs.Ytfigdkikkociaab
