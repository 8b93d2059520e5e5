/- The walk of the law OrderDilworth: it answers true, and writes nothing that was there. -/
import Derived.Test.YtnlkjklcikolaaaDoorDilPlain
import Derived.Test.YtnlkjklcikolaaaDoorSound
import Derived.Test.YtnlkjklcikolaaaDoorRefused
import Derived.Test.YtnlkjklcikolaaaDoorKeepWithin
import Derived.Test.YtnlkjklcikolaaaDoorKeepZ
import Derived.Lib.QuietBelow
import Derived.BigQuiet
namespace Go.Proofs.YtnlkjklcikolaaaDoor
open Go.RowKit Go.Shelf

theorem only_ofD {n s : Nat} (hs : s < 4294967296) (h : outsideB s n = false) : ∀ i, hasB s i = true → i < n := fun i hi => by
  apply Nat.lt_of_not_le; intro hle
  rw [outsideB_false.1 h i (hasB_lt hs hi) hle] at hi; cases hi
/-- what a call that is handed an order asks of the world -/
structure Ready (a : Option Addr) (us : List Nat) (n₀ : Nat) (W : World) : Prop where
  fit : Fit us
  tab : TabAt W
  wds : IsWords n₀ W a us
  glo : 0 < n₀
  le : n₀ ≤ W.heap.size
theorem Ready.step {a : Option Addr} {us : List Nat} {n₀ : Nat} {W W' : World} (h : Ready a us n₀ W) (hb : Below W.heap.size W W') : Ready a us n₀ W' :=
  ⟨h.fit, h.tab.below hb (by have := h.glo; have := h.le; omega), h.wds.below (hb.mono h.le), h.glo, by have := h.le; have := hb.size; omega⟩
set_option maxRecDepth 100000 in
set_option maxHeartbeats 1000000 in
theorem dil_bad (n : Int) (a : Option Addr) (cap : Nat) (us : List Nat) (s : Nat) (n₀ : Nat) (w : World) (hR : Ready a us n₀ w) (hc : codeOf n us ≠ 0) :
    Calls Tryd.prog 3 #[.agg #[.int .i64 n, .slice a us.length cap], .int .u32 (s : Nat)] w fun e w' => e = .returned (.bool true) ∧ Below w.heap.size w w' := by
  obtain ⟨r0, hb0, hs0⟩ := one_row w 24 (.int .i64 n) (.slice a us.length cap) rfl
  have R1 := hR.step hb0
  have hso := sound_any n a cap us n₀ R1.fit _ R1.wds R1.le
  have h1 : (codeOf n us == 0) = false := by rw [beq_eq_false_iff_ne]; exact hc
  have h2 : (codeOf n us != 0) = true := by rw [bne_iff_ne]; exact hc
  rw [h1] at hso
  have c00 := r0.cell (i := 0) rfl
  have c01 := r0.cell (i := 1) rfl
  go_enter Tryd.func3, Tryd.ntmps3
  go_wp2_with fail
  refine hso.mono ?_
  rintro e w1 ⟨rfl, hb1⟩
  have q0 := row_below r0 hb1 r0.lt
  have hs1 := hb1.size
  have R2 := R1.step hb1
  have hre := refused_any n a cap us n₀ R2.fit w1 R2.tab R2.wds R2.glo R2.le
  rw [h2] at hre
  have d00 := q0.cell (i := 0) rfl
  have d01 := q0.cell (i := 1) rfl
  have HB := hide (hb0.trans (hb1.mono (by omega)))
  clear hso c00 c01 hb0 hb1 h1 h2 hc
  go_wp2_with (go_at_call 5; refine hre.mono ?_; rintro e w2 ⟨rfl, hb2⟩)
  go_ret
  exact ⟨rfl, HB.out.trans (hb2.mono (by have := HB.out.size; omega))⟩

theorem take_snocW {l : List Nat} {k : Nat} (h : k < l.length) : l.take (k + 1) = l.take k ++ [wd l k] := by
  rw [List.take_succ_eq_append_getElem h]
  unfold wd
  rw [List.getD_eq_getElem?_getD, List.getElem?_eq_getElem h]; rfl
theorem setW_take_lt {l : List Nat} {n : Nat} (hn : n ≤ 16) (h : ∀ x ∈ l, x < n) (k : Nat) : setW (l.take k) < 4294967296 := setW_lt fun x hx => by have := h x (List.mem_of_mem_take hx); omega
theorem wd_riseA {l : List Nat} (hr : l.Pairwise (· < ·)) {i : Nat} (h : i + 1 < l.length) : wd l i < wd l (i + 1) := by
  unfold wd
  rw [List.getD_eq_getElem?_getD, List.getD_eq_getElem?_getD, List.getElem?_eq_getElem h, List.getElem?_eq_getElem (show i < l.length by omega)]
  exact List.pairwise_iff_getElem.1 hr i (i + 1) (by omega) h (by omega)
theorem own_cell {W : World} {base : Nat} {e : TypeId} {a : Option Addr} {n c : Nat} {xs : List Value} (h : W.ownsRow base e 1 (.slice a n c) n xs) {j : Nat} {u : Value} (hu : xs[j]? = some u) : ∃ g, a = some ⟨g, 0, none⟩ ∧ W.cell? ⟨g, j, none⟩ = some u := by
  rcases h.2 with ⟨_, h0⟩ | ⟨g, cap, cur, hv, _⟩
  · have := h.1
    have : j < xs.length := (List.getElem?_eq_some_iff.1 hu).1
    omega
  · cases hv
    have := h.cells (g := g) rfl j u hu
    refine ⟨g, rfl, ?_⟩
    by_cases q : j = 0
    · subst q; simpa [Addr.add] using this
    · simpa [Addr.add, q] using this
theorem flat_le {cs : List (List Nat)} (k : Nat) : ((cs.take k).flatten).length ≤ cs.flatten.length := by
  have := congrArg (fun l => (List.flatten l).length) (List.take_append_drop k cs)
  simp only [List.flatten_append, List.length_append] at this
  omega
theorem flat_take {l : List (List Nat)} {k : Nat} (h : k < l.length) : (l.take (k + 1)).flatten = (l.take k).flatten ++ l.getD k [] := by
  rw [List.take_succ_eq_append_getElem h, List.flatten_append]
  rw [List.getD_eq_getElem?_getD, List.getElem?_eq_getElem h]; simp

set_option maxRecDepth 100000 in
set_option maxHeartbeats 4000000 in
theorem dil_ok (a : Option Addr) (cap : Nat) (us : List Nat) (s : Nat) (hs : s < 4294967296) (n₀ : Nat) (w : World) (hR : Ready a us n₀ w) (hc : codeOf us.length us = 0) :
    Calls Tryd.prog 3 #[.agg #[.int .i64 us.length, .slice a us.length cap], .int .u32 (s : Nat)] w fun e w' => e = .returned (.bool true) ∧ Below w.heap.size w w' := by
  obtain ⟨r0, hb0, hs0⟩ := one_row w 24 (.int .i64 us.length) (.slice a us.length cap) rfl
  obtain ⟨_, h16, _, hin, hord⟩ := code_zero hc
  have hl16 : us.length ≤ 16 := by omega
  have hf := hR.fit
  have R1 := hR.step hb0
  have hso := sound_any us.length a cap us n₀ R1.fit _ R1.wds R1.le
  rw [show (codeOf us.length us == 0) = true by rw [hc]; rfl] at hso
  have d1 := fun W (hW : Ready a us n₀ W) => Split_ok a cap us n₀ hW.fit W hW.tab hW.wds hW.glo hW.le hc
  have Hb := hide hb0
  clear hb0 hc hin hord
  go_enter Tryd.func3, Tryd.ntmps3
  go_wp2_with fail
  refine hso.mono ?_
  rintro e w1 ⟨rfl, hb1⟩
  have hs1 := hb1.size
  have R2 := R1.step hb1
  have q1 := row_below r0 hb1 r0.lt
  have j0 := q1.cell (i := 0) rfl
  have j1 := q1.cell (i := 1) rfl
  clear hso
  dsimp only
  go_wp2_with fail
  refine (d1 w1 R2).mono ?_
  rintro e w2 ⟨vA, vC, A, xs, cs, rfl, hb2, hoA, hoC, hInn, hP⟩
  obtain ⟨aA, cA, rfl⟩ := own_slice hoA
  obtain ⟨aC, cC, rfl⟩ := own_slice hoC
  have hs2 := hb2.size
  have hAl : A.length ≤ 16 := Nat.le_trans (nodup_lt (hP.rise.imp fun h => Nat.ne_of_lt h) hP.lt) hl16
  have hcl : cs.length = A.length := hP.len.symm
  have hne : (((A.length : Nat) : Int) != ((cs.length : Nat) : Int)) = false := by rw [hcl]; simp
  have hcl16 : cs.length ≤ 16 := by omega
  have HCL := hide hcl
  have HP := hide hP
  clear hP d1 j0 j1 hcl
  obtain ⟨V, hV⟩ : ∃ V, w2.alloc (.cells #[.slice aA A.length cA, .slice aC cs.length cC] 30) = V := ⟨_, rfl⟩
  have rs : Row V w2.heap.size 30 [.slice aA A.length cA, .slice aC cs.length cC] := by rw [← hV]; exact Row.new w2 _ _
  have hb3 : Below w2.heap.size w2 V := by rw [← hV]; exact (Below.refl _ _).alloc (Nat.le_refl _) _
  have hs3 := hb3.size
  have RV := (R2.step hb2).step hb3
  have q2 := row_below q1 hb2 q1.lt
  have qV := row_below q2 hb3 q2.lt
  have ltq := qV.lt
  have lts := rs.lt
  have oA := ownsRow_below hoA hb3
  have oC := ownsRow_below hoC hb3
  have HInn := hide (hInn.below hb3)
  have iA : IsInts V.heap.size V aA A := ownsRow_ints oA
  have hwi := kwithin_true us.length aA cA A V.heap.size (by omega) (fun i hi => HP.out.lt _ (wd_mem hi)) V iA
  have HBV := hide (((Hb.out.trans (hb1.mono (by omega))).trans (hb2.mono (by omega))).trans (hb3.mono (by omega)))
  have p0 := qV.cell (i := 0) rfl
  have s0 := rs.cell (i := 0) rfl
  have s1 := rs.cell (i := 1) rfl
  clear hoA hoC hInn
  dsimp only
  go_wp2_with (go_at_call 8; refine hwi.mono ?_; rintro e w8 ⟨rfl, hw8⟩; rw [hw8]; clear hw8 w8)
  go_loop [7, 62] (fun x i => ∃ k : Nat, k ≤ A.length ∧ i = .int .i64 k ∧ x = .int .u32 (setW (A.take k) : Nat)) (fun _ i => A.length - (intOf i).toNat)
  case atStart => exact ⟨0, Nat.zero_le _, rfl, rfl⟩
  case round =>
    obtain ⟨k, hk, rfl, rfl⟩ := hrel
    by_cases hlt : k < A.length
    · obtain ⟨b, off, rfl, hb, hcA⟩ := iA.at hlt
      have cK := hcA k hlt
      have hx := HP.out.lt _ (wd_mem hlt)
      have HX := hide (show setW (A.take (k + 1)) = orW (setW (A.take k)) (bitW (wd A k)) by rw [take_snocW hlt, setW_snoc])
      have hbr := bit_raw (i := wd A k) (by omega)
      have hor := bits_or32 (setW (A.take k)) (bitW (wd A k)) (setW_take_lt hl16 HP.out.lt k) (bitW_lt (by omega))
      rcases Nat.eq_zero_or_pos k with hk0 | hpos
      · have hgt : decide (0 < ((k : Nat) : Int)) = false := by rw [decide_eq_false_iff_not]; omega
        have hgt' : decide (0 < k) = false := by rw [decide_eq_false_iff_not]; omega
        have HK0 := hide hk0
        clear hk0 hcA
        generalize wd A k = x at *
        go_wp2_with fail
        go_round
        case rel => exact ⟨k + 1, by omega, by go_num, by rw [HX.out]⟩
        case measure => simp [intOf]; omega
      · obtain ⟨k', hk'⟩ : ∃ k', k = k' + 1 := ⟨k - 1, by omega⟩
        have hri := wd_riseA HP.out.rise (i := k') (by omega)
        rw [← hk'] at hri
        have cK' := hcA k' (by omega)
        have hkl : k' < A.length := by omega
        have hwrap : IntKind.i64.wrap ((k : Nat) - 1) = ((k' : Nat) : Int) := by rw [IntWalk.i64_in _ (by omega)]; omega
        have hsub : ((k : Nat) : Int) - 1 = (k' : Nat) := by omega
        have hgt : decide (0 < ((k : Nat) : Int)) = true := by rw [decide_eq_true_iff]; omega
        have hge : decide (((wd A k : Nat) : Int) ≤ ((wd A k' : Nat) : Int)) = false := by rw [decide_eq_false_iff_not]; omega
        have hge' : decide (wd A k ≤ wd A k') = false := by rw [decide_eq_false_iff_not]; omega
        clear hk' hcA
        generalize wd A k = x at *
        generalize wd A k' = y at *
        go_wp2_with fail
        go_round
        case rel => exact ⟨k + 1, by omega, by go_num, by rw [HX.out]⟩
        case measure => simp [intOf]; omega
    · obtain rfl : k = A.length := by omega
      rw [List.take_length]
      have hwl : setW A < 4294967296 := setW_lt fun x hx => by have := HP.out.lt x hx; omega
      go_wp2_with fail
      clear iA hwi p0 s0 s1
      go_loopw [10, 11, 88] (fun sn mn i wr => ∃ k : Nat, k ≤ cs.length ∧ i = .int .i64 k ∧ sn = .int .u32 (setW ((cs.take k).flatten) : Nat) ∧ mn = .int .i64 (((cs.take k).flatten).length : Nat) ∧ Below V.heap.size V wr) (fun _ _ i _ => cs.length - (intOf i).toNat)
      case atStart => exact ⟨0, Nat.zero_le _, rfl, rfl, rfl, Below.refl _ _⟩
      case round =>
        obtain ⟨k, hk, rfl, rfl, rfl, hB⟩ := hrel
        have hsz := hB.size
        have qr := row_below qV hB ltq
        have p0 := qr.cell (i := 0) rfl
        have p1 := qr.cell (i := 1) rfl
        by_cases hltk : k < cs.length
        · obtain ⟨u, hu1, hu2⟩ := (HInn.out.below hB).2 k hltk
          have hmem : cs.getD k [] ∈ cs := by rw [List.getD_eq_getElem?_getD, List.getElem?_eq_getElem hltk]; exact List.getElem_mem hltk
          have hfl := flat_take hltk
          have hfk := flat_le (cs := cs) k
          rw [HP.out.flat] at hfk
          have hcc := HP.out.chain hf hmem
          have hclt := HP.out.clt _ hmem
          have hclen : (cs.getD k []).length ≤ 16 := Nat.le_trans (nodup_lt ((HP.out.up _ hmem).imp fun {x y} h => ((upE_oth hf).1 h).2.1) hclt) hl16
          have HFL := hide hfl
          have HPL : Hid (∀ x ∈ (cs.take k).flatten, x < 32) := fun x hx => by
            obtain ⟨c, hc, q⟩ := List.mem_flatten.1 hx
            have := HP.out.clt c (List.mem_of_mem_take hc) x q
            omega
          generalize cs.getD k [] = c at *
          generalize (cs.take k).flatten = pre at *
          obtain ⟨ac, cc, rfl⟩ := own_slice hu2
          obtain ⟨g, rfl, cG⟩ := own_cell (ownsRow_below oC hB) hu1
          have hzl : (toZ c).length = c.length := toZ_len c
          have ic := ownsRow_ints hu2
          have hch := chained_z a cap us ac cc (toZ c) wr.heap.size hf hl16 (by omega) wr ((RV.wds.below (hB.mono RV.le)).mono (by have := RV.le; omega)) ic.z (Nat.le_refl _)
          rw [hcc, hzl] at hch
          clear hfl hcc hu1 hu2
          go_wp2_with (go_at_call 9; refine hch.mono ?_)
          rintro e w4 ⟨rfl, hb4⟩
          have hs4 := hb4.size
          have ic4 : IsInts wr.heap.size w4 ac c := ic.below hb4
          clear hch ic
          dsimp only
          go_wp2_with fail
          go_loop [10, 11, 98] (fun sn mn i => ∃ m : Nat, m ≤ c.length ∧ i = .int .i64 m ∧ sn = .int .u32 (setW (pre ++ c.take m) : Nat) ∧ mn = .int .i64 ((pre.length + m : Nat) : Int)) (fun _ _ i => c.length - (intOf i).toNat)
          case atStart => exact ⟨0, Nat.zero_le _, rfl, by simp, by simp⟩
          case round =>
            obtain ⟨m, hm, rfl, rfl, rfl⟩ := hrel
            by_cases hltm : m < c.length
            · obtain ⟨b, off, rfl, hb, hcA⟩ := ic4.at hltm
              have cK := hcA m hltm
              have hx := hclt _ (wd_mem hltm)
              have HX := hide (show setW (pre ++ c.take (m + 1)) = orW (setW (pre ++ c.take m)) (bitW (wd c m)) by rw [take_snocW hltm, ← List.append_assoc, setW_snoc])
              have hbr := bit_raw (i := wd c m) (by omega)
              have hpl : setW (pre ++ c.take m) < 4294967296 := setW_lt fun x hx => by
                rcases List.mem_append.1 hx with q | q
                · exact HPL.out x q
                · have := hclt x (List.mem_of_mem_take q); omega
              have hor := bits_or32 (setW (pre ++ c.take m)) (bitW (wd c m)) hpl (bitW_lt (by omega))
              clear hcA hpl
              generalize wd c m = x at *
              go_wp2_with fail
              go_round
              case rel => exact ⟨m + 1, by omega, by go_num, by rw [HX.out], by go_num⟩
              case measure => simp [intOf]; omega
            · obtain rfl : m = c.length := by omega
              rw [List.take_length, ← List.length_append, ← HFL.out]
              go_wp2_with fail
              exact ⟨⟨k + 1, by omega, by go_num, rfl, rfl, hB.trans (hb4.mono hsz)⟩, by simp [intOf]; omega⟩
        · obtain rfl : k = cs.length := by omega
          rw [List.take_length, HP.out.flat]
          have hsw : setW cs.flatten < 4294967296 := setW_lt fun x hx => by
            obtain ⟨c, hc, q⟩ := List.mem_flatten.1 hx
            have := HP.out.clt c hc x q
            omega
          have hRr := RV.step hB
          have hlo1 := HP.out.isLoose hf
          have hsee := HP.out.seen hl16
          have cL1 : ∀ d os, Calls Tryd.prog 10 #[.agg #[.int .i64 us.length, .slice a us.length cap], .int .u32 (setW A : Nat)] (Go.Sort.grow (redrawn wr d) os) fun e w'' => e = .returned (.bool true) ∧ ∃ p : Regrown, w'' = Go.Sort.grow (redrawn wr p.d) p.os := fun d os => by
            have R := hRr.step (below_regrown wr d os)
            have h := loose_any a cap us (setW A) hwl n₀ hf hl16 _ R.wds R.le
            rw [hlo1] at h
            exact Calls.regrown_of h
          have cS1 : ∀ d os, Calls Tryd.prog 11 #[.int .u32 (setW cs.flatten : Nat)] (Go.Sort.grow (redrawn wr d) os) fun e w'' => e = .returned (.int .i64 (us.length : Nat)) ∧ ∃ p : Regrown, w'' = Go.Sort.grow (redrawn wr p.d) p.os := fun d os => by
            have h := ksize_any (setW cs.flatten) hsw (Go.Sort.grow (redrawn wr d) os)
            rw [hsee] at h
            exact h.mono fun e w'' ⟨h1, h2⟩ => ⟨h1, ⟨⟨d, os⟩, h2⟩⟩
          have t0 := cell_regrown (qr.cell (i := 0) rfl)
          have t1 := cell_regrown (qr.cell (i := 1) rfl)
          clear p0 p1 hlo1 hsee
          go_wp2_with fail
          refine wp_region_quiet_below (by kernel_rfl) (by kernel_rfl) ?_
          repeat (go_big_quiet_step (first | with_reducible exact cL1 _ _ | with_reducible exact cS1 _ _))
          refine wpQuiet_nil ?_
          intro _ hw'
          obtain ⟨⟨dq1, osq1⟩, hw''⟩ := hw'
          subst hw''
          have hg1 := below_regrown wr dq1 osq1
          obtain ⟨V1, hV1⟩ : ∃ V, Go.Sort.grow (redrawn wr dq1) osq1 = V := ⟨_, rfl⟩
          rw [hV1] at hg1 ⊢
          clear hV1
          have hz1 := hg1.size
          clear cL1 cS1 t0 t1
          have hB1 : Below V.heap.size V V1 := hB.trans (hg1.mono hsz)
          have qr1 := row_below qV hB1 ltq
          have rs1 := row_below rs hB1 lts
          have hR1 := RV.step hB1
          have u0 := cell_regrown (qr1.cell (i := 0) rfl)
          have u1 := cell_regrown (qr1.cell (i := 1) rfl)
          have v0 := cell_regrown (rs1.cell (i := 0) rfl)
          have hfin : ∀ {W : World}, Below V1.heap.size V1 W → Below w.heap.size w W := fun h => HBV.out.trans ((hB1.trans (h.mono hB1.size)).mono HBV.out.size)
          have cOut : ∀ d os, Calls Tryd.prog 12 #[.int .u32 (s : Nat), .int .i64 (us.length : Nat)] (Go.Sort.grow (redrawn V1 d) os) fun e w'' => e = .returned (.bool (outsideB s us.length)) ∧ ∃ p : Regrown, w'' = Go.Sort.grow (redrawn V1 p.d) p.os := fun d os =>
            (Outside_any s us.length hs hl16 (Go.Sort.grow (redrawn V1 d) os)).mono fun e w'' ⟨h1, h2⟩ => ⟨h1, ⟨⟨d, os⟩, h2⟩⟩
          have cL2 : ∀ d os, Calls Tryd.prog 10 #[.agg #[.int .i64 us.length, .slice a us.length cap], .int .u32 (s : Nat)] (Go.Sort.grow (redrawn V1 d) os) fun e w'' => e = .returned (.bool (looseB us s)) ∧ ∃ p : Regrown, w'' = Go.Sort.grow (redrawn V1 p.d) p.os := fun d os => by
            have R := hR1.step (below_regrown V1 d os)
            exact Calls.regrown_of (loose_any a cap us s hs n₀ hf hl16 _ R.wds R.le)
          have cS2 : ∀ d os, Calls Tryd.prog 11 #[.int .u32 (s : Nat)] (Go.Sort.grow (redrawn V1 d) os) fun e w'' => e = .returned (.int .i64 (cntF (hasB s) 32 : Nat)) ∧ ∃ p : Regrown, w'' = Go.Sort.grow (redrawn V1 p.d) p.os := fun d os =>
            (ksize_any s hs (Go.Sort.grow (redrawn V1 d) os)).mono fun e w'' ⟨h1, h2⟩ => ⟨h1, ⟨⟨d, os⟩, h2⟩⟩
          have HM := hide (fun h1 h2 => HP.out.most hf hl16 (s := s) h1 h2)
          rcases two_ways (outsideB s us.length) with ho | ho
          · rw [ho] at cOut
            have hon := only_ofD hs ho
            clear ho
            rcases two_ways (looseB us s) with hlo | hlo
            · rw [hlo] at cL2
              clear hlo
              go_wp2_with fail
              refine wp_region_quiet_below (by kernel_rfl) (by kernel_rfl) ?_
              repeat (go_big_quiet_step (first | with_reducible exact cOut _ _ | with_reducible exact cL2 _ _ | with_reducible exact cS2 _ _))
              refine wpQuiet_nil ?_
              intro _ hw'
              obtain ⟨⟨dq2, osq2⟩, hw''⟩ := hw'
              subst hw''
              have hg2 := below_regrown V1 dq2 osq2
              obtain ⟨V2, hV2⟩ : ∃ V, Go.Sort.grow (redrawn V1 dq2) osq2 = V := ⟨_, rfl⟩
              rw [hV2] at hg2 ⊢
              clear hV2
              have hz2 := hg2.size
              go_wp2_with fail
              go_ret
              exact ⟨ret_bool (by simp), hfin hg2⟩
            · rw [hlo] at cL2
              have hle := HM.out hon hlo
              have hdl : decide (cntF (hasB s) 32 ≤ A.length) = true := decide_eq_true hle
              clear hlo
              generalize cntF (hasB s) 32 = z at *
              go_wp2_with fail
              refine wp_region_quiet_below (by kernel_rfl) (by kernel_rfl) ?_
              repeat (go_big_quiet_step (first | with_reducible exact cOut _ _ | with_reducible exact cL2 _ _ | with_reducible exact cS2 _ _))
              refine wpQuiet_nil ?_
              intro _ hw'
              obtain ⟨⟨dq2, osq2⟩, hw''⟩ := hw'
              subst hw''
              have hg2 := below_regrown V1 dq2 osq2
              obtain ⟨V2, hV2⟩ : ∃ V, Go.Sort.grow (redrawn V1 dq2) osq2 = V := ⟨_, rfl⟩
              rw [hV2] at hg2 ⊢
              clear hV2
              have hz2 := hg2.size
              go_wp2_with fail
              go_ret
              exact ⟨ret_bool (by simp), hfin hg2⟩
          · rw [ho] at cOut
            clear ho
            go_wp2_with fail
            refine wp_region_quiet_below (by kernel_rfl) (by kernel_rfl) ?_
            repeat (go_big_quiet_step (first | with_reducible exact cOut _ _ | with_reducible exact cL2 _ _ | with_reducible exact cS2 _ _))
            refine wpQuiet_nil ?_
            intro _ hw'
            obtain ⟨⟨dq2, osq2⟩, hw''⟩ := hw'
            subst hw''
            have hg2 := below_regrown V1 dq2 osq2
            obtain ⟨V2, hV2⟩ : ∃ V, Go.Sort.grow (redrawn V1 dq2) osq2 = V := ⟨_, rfl⟩
            rw [hV2] at hg2 ⊢
            clear hV2
            have hz2 := hg2.size
            go_wp2_with fail
            go_ret
            exact ⟨ret_bool (by simp), hfin hg2⟩

/-- **OrderDilworth answers true, for every order and every set, and writes nothing that was there** -/
theorem dil_any (n : Int) (a : Option Addr) (cap : Nat) (us : List Nat) (s : Nat) (hs : s < 4294967296) (n₀ : Nat) (hf : Fit us) (w : World) (hT : TabAt w) (hw : IsWords n₀ w a us) (hg : 0 < n₀) (hn₀ : n₀ ≤ w.heap.size) :
    Calls Tryd.prog 3 #[.agg #[.int .i64 n, .slice a us.length cap], .int .u32 (s : Nat)] w fun e w' => e = .returned (.bool true) ∧ Below w.heap.size w w' := by
  have hR : Ready a us n₀ w := ⟨hf, hT, hw, hg, hn₀⟩
  by_cases hc : codeOf n us = 0
  · have hl := (code_zero hc).2.2.1
    subst hl
    exact dil_ok a cap us s hs n₀ w hR hc
  · exact dil_bad n a cap us s n₀ w hR hc
end Go.Proofs.YtnlkjklcikolaaaDoor
