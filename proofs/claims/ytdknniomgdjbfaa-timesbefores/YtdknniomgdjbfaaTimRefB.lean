/- The contracts of the document's TimesLists, TimesBefore, TimesAll, TimesJoins. -/
import Derived.Test.YtdknniomgdjbfaaTimEither
namespace Go.Proofs.Ytdknniomgdjbfaa
open Go.RowKit Go.Shelf

theorem take_snocB (S : List Sl) {x : Nat} (h : x < S.length) : S.take (x + 1) = S.take x ++ [nth S x] := by
  rw [List.take_succ_eq_append_getElem h]
  unfold nth; simp [List.getD_eq_getElem?_getD, List.getElem?_eq_getElem h]
set_option maxRecDepth 100000 in
set_option maxHeartbeats 4000000 in
theorem rtlists_any (a : Option Addr) (ca : Nat) (L : List Sl) (b : Option Addr) (cb : Nat) (M : List Sl) (n₀ : Nat) (h63 : L.length ≤ 9223372036854775807) (h64 : M.length ≤ 9223372036854775807) (w : World) (hL : ZLists n₀ w a L) (hM : ZLists n₀ w b M) (hn₀ : n₀ ≤ w.heap.size) :
    Calls Try.prog 18 #[.slice a L.length ca, .slice b M.length cb] w fun e w' => e = .returned (.int .i64 (codeLL (zl L) (zl M))) ∧ Below w.heap.size w w' := by
  have s1 := rtlist_any a ca L n₀ h63 w hL
  have s2 := rtlist_any b cb M n₀ h64 w hM
  by_cases h1 : codeL (zl L) = 0
  · rw [h1] at s1
    by_cases h2 : codeL (zl M) = 0
    · rw [h2] at s2
      have HC := hide (show ∀ r, apartB (zl L) (zl M) = r → codeLL (zl L) (zl M) = if r then 3 else 0 from fun r e => by
        cases r
        · exact codeLL_ok h1 h2 e
        · exact codeLL_form h1 h2 e)
      clear h1 h2
      by_cases hl : 0 < L.length
      · by_cases hm : 0 < M.length
        · obtain ⟨bl, ol, hal, hbl, hcl⟩ := hL.outer.at hl
          obtain ⟨bm, om, ham, hbm, hcm⟩ := hM.outer.at hm
          have q0 := hcl 0 hl
          have q1 := hcm 0 hm
          rw [Nat.add_zero] at q0 q1
          have HA := hide (apart_iff hl hm)
          obtain ⟨s, es⟩ : ∃ s, nth L 0 = s := ⟨_, rfl⟩
          obtain ⟨t, et⟩ : ∃ t, nth M 0 = t := ⟨_, rfl⟩
          rw [es, et] at HA
          rw [es] at q0
          rw [et] at q1
          subst hal
          subst ham
          clear hcl hcm es et
          obtain ⟨ax, cx, zx⟩ := s
          obtain ⟨ay, cy, zy⟩ := t
          unfold slv at q0 q1
          dsimp only at q0 q1 HA
          have k0 := cell_regrown q0
          have k1 := cell_regrown q1
          have d1 : decide ((0 : Int) < (L.length : Int)) = true := decide_eq_true (by omega)
          have d2 : decide ((0 : Int) < (M.length : Int)) = true := decide_eq_true (by omega)
          clear q0 q1
          by_cases hne : zx.length = zy.length
          · have e1 : ((zx.length : Int) != (zy.length : Int)) = false := by rw [bne_eq_false_iff_eq]; omega
            have HF := hide (HC.out false (HA.out.trans (decide_eq_false (fun h => h hne))))
            clear hne
            go_enter Try.func18, Try.ntmps18
            go_wp2_with (first | (with_reducible refine s1.mono ?_; rintro e w' ⟨rfl, hww⟩; rw [hww]; clear hww w') | (with_reducible refine s2.mono ?_; rintro e w' ⟨rfl, hww⟩; rw [hww]; clear hww w'))
            refine wp_region_quiet_below (by kernel_rfl) (by kernel_rfl) ?_
            repeat (go_big_quiet_step (fail))
            refine wpQuiet_nil ?_
            intro _ hw'
            obtain ⟨⟨dq, osq⟩, hw''⟩ := hw'
            subst hw''
            go_wp2_with fail
            go_ret
            exact ⟨ret_int HF.out.symm, below_regrown _ dq osq⟩
          · have e1 : ((zx.length : Int) != (zy.length : Int)) = true := by rw [bne_iff_ne]; omega
            have HF := hide (HC.out true (HA.out.trans (decide_eq_true hne)))
            clear hne
            go_enter Try.func18, Try.ntmps18
            go_wp2_with (first | (with_reducible refine s1.mono ?_; rintro e w' ⟨rfl, hww⟩; rw [hww]; clear hww w') | (with_reducible refine s2.mono ?_; rintro e w' ⟨rfl, hww⟩; rw [hww]; clear hww w'))
            refine wp_region_quiet_below (by kernel_rfl) (by kernel_rfl) ?_
            repeat (go_big_quiet_step (fail))
            refine wpQuiet_nil ?_
            intro _ hw'
            obtain ⟨⟨dq, osq⟩, hw''⟩ := hw'
            subst hw''
            go_wp2_with fail
            go_ret
            exact ⟨ret_int HF.out.symm, below_regrown _ dq osq⟩
        · have HF := hide (HC.out false (apart_no fun h => hm h.2))
          have d1 : decide ((0 : Int) < (L.length : Int)) = true := decide_eq_true (by omega)
          have d2 : decide ((0 : Int) < (M.length : Int)) = false := decide_eq_false (by omega)
          go_enter Try.func18, Try.ntmps18
          go_wp2_with (first | (with_reducible refine s1.mono ?_; rintro e w' ⟨rfl, hww⟩; rw [hww]; clear hww w') | (with_reducible refine s2.mono ?_; rintro e w' ⟨rfl, hww⟩; rw [hww]; clear hww w'))
          refine wp_region_quiet_below (by kernel_rfl) (by kernel_rfl) ?_
          repeat (go_big_quiet_step (fail))
          refine wpQuiet_nil ?_
          intro _ hw'
          obtain ⟨⟨dq, osq⟩, hw''⟩ := hw'
          subst hw''
          go_wp2_with fail
          go_ret
          exact ⟨ret_int HF.out.symm, below_regrown _ dq osq⟩
      · have HF := hide (HC.out false (apart_no fun h => hl h.1))
        have d1 : decide ((0 : Int) < (L.length : Int)) = false := decide_eq_false (by omega)
        go_enter Try.func18, Try.ntmps18
        go_wp2_with (first | (with_reducible refine s1.mono ?_; rintro e w' ⟨rfl, hww⟩; rw [hww]; clear hww w') | (with_reducible refine s2.mono ?_; rintro e w' ⟨rfl, hww⟩; rw [hww]; clear hww w'))
        refine wp_region_quiet_below (by kernel_rfl) (by kernel_rfl) ?_
        repeat (go_big_quiet_step (fail))
        refine wpQuiet_nil ?_
        intro _ hw'
        obtain ⟨⟨dq, osq⟩, hw''⟩ := hw'
        subst hw''
        go_wp2_with fail
        go_ret
        exact ⟨ret_int HF.out.symm, below_regrown _ dq osq⟩
    · have HC := hide (codeLL_b h1 h2)
      have e1 : (codeL (zl M) != 0) = true := by rw [bne_iff_ne]; exact h2
      clear h1 h2
      generalize codeL (zl M) = c at *
      go_enter Try.func18, Try.ntmps18
      go_wp2_with (first | (with_reducible refine s1.mono ?_; rintro e w' ⟨rfl, rfl⟩) | (with_reducible refine s2.mono ?_; rintro e w' ⟨rfl, rfl⟩))
      go_ret
      exact ⟨ret_int HC.out.symm, Below.refl _ _⟩
  · have HC := hide (codeLL_a (ms := zl M) h1)
    have e1 : (codeL (zl L) != 0) = true := by rw [bne_iff_ne]; exact h1
    clear h1
    generalize codeL (zl L) = c at *
    go_enter Try.func18, Try.ntmps18
    go_wp2_with (first | (with_reducible refine s1.mono ?_; rintro e w' ⟨rfl, rfl⟩) | (with_reducible refine s2.mono ?_; rintro e w' ⟨rfl, rfl⟩))
    go_ret
    exact ⟨ret_int HC.out.symm, Below.refl _ _⟩

set_option maxRecDepth 100000 in
set_option maxHeartbeats 1000000 in
theorem rtbefore_any (a : Option Addr) (ca : Nat) (L : List Sl) (b : Option Addr) (cb : Nat) (M : List Sl) (n₀ : Nat) (h63 : L.length ≤ 9223372036854775807) (h64 : M.length ≤ 9223372036854775807) (w : World) (hL : ZLists n₀ w a L) (hM : ZLists n₀ w b M) (hn₀ : n₀ ≤ w.heap.size) :
    Calls Try.prog 19 #[.slice a L.length ca, .slice b M.length cb] w fun e w' => e = .returned (.bool (beforeB (zl L) (zl M))) ∧ Below w.heap.size w w' := by
  have hr := before_iff (L := L) (M := M) (r := !beforeB (zl L) (zl M)) rfl
  go_enter Try.func19, Try.ntmps19
  go_wp2
  go_loopw [9] (fun i wr => ∃ k : Nat, k ≤ M.length ∧ i = .int .i64 k ∧ Below w.heap.size w wr ∧ Hid (∀ j, j < k → (!openB (zl L) (nth M j).zs) = false)) (fun i _ => M.length - (intOf i).toNat)
  case atStart => exact ⟨0, Nat.zero_le _, rfl, Below.refl _ _, hide fun j hj => by omega⟩
  case round =>
    obtain ⟨k, hk, rfl, hB, HS⟩ := hrel
    by_cases hlt : k < M.length
    · obtain ⟨bo, off, rfl, hb, hcc⟩ := (hM.outer.below (hB.mono hn₀)).at hlt
      have ck := hcc k hlt
      obtain ⟨iz, il⟩ := hM.inner k hlt
      have HN := hide (show ∀ u, openB (zl L) (nth M k).zs = u → u = false → beforeB (zl L) (zl M) = false from fun u e h => by
        have := hr.2 ⟨k, hlt, by show (!openB (zl L) (nth M k).zs) = true; rw [e, h]; rfl⟩
        simpa using this)
      have HU := hide (show ∀ u, openB (zl L) (nth M k).zs = u → u = true → ∀ j, j < k + 1 → (!openB (zl L) (nth M j).zs) = false from fun u e h j hj => by
        by_cases ej : j = k
        · rw [ej, e, h]; rfl
        · exact HS.out j (by omega))
      obtain ⟨sk, ek⟩ : ∃ sk, nth M k = sk := ⟨_, rfl⟩
      rw [ek] at ck iz il HN HU
      clear hcc ek
      obtain ⟨ak, qk, zk⟩ := sk
      unfold slv at ck
      dsimp only at ck iz il HN HU
      have hck := rtopen_any a ca L ak qk zk n₀ h63 il wr (hL.below (hB.mono hn₀)) (iz.below (hB.mono hn₀)) (by have := hB.size; omega)
      cases hu : openB (zl L) zk with
      | false =>
        have HF := hide (HN.out false hu rfl)
        rw [hu] at hck
        clear hu hr HN HU
        go_wp2_with (go_at_call 12; with_reducible refine hck.mono ?_; rintro e w' ⟨rfl, hb1⟩)
        go_ret
        exact ⟨ret_bool HF.out.symm, hB.trans (hb1.mono hB.size)⟩
      | true =>
        have HF := hide (HU.out true hu rfl)
        rw [hu] at hck
        clear hu HN HU
        go_wp2_with (go_at_call 12; with_reducible refine hck.mono ?_; rintro e w' ⟨rfl, hb1⟩)
        go_roundw
        case rel => exact ⟨k + 1, by omega, by go_num, hB.trans (hb1.mono hB.size), HF⟩
        case measure => simp [intOf]; omega
    · have HR : Hid (beforeB (zl L) (zl M) = true) := hide (by
        apply Classical.byContradiction
        intro h
        have h2 := hr.1 (by simpa using h)
        exact anyTo_false (p := fun i => !openB (zl L) (nth M i).zs) (fun j hj => HS.out j (by omega)) h2)
      go_wp2
      go_ret
      exact ⟨ret_bool HR.out.symm, hB⟩

set_option maxRecDepth 100000 in
set_option maxHeartbeats 4000000 in
theorem rtall_any (a : Option Addr) (ca : Nat) (L : List Sl) (b : Option Addr) (cb : Nat) (M : List Sl) (n₀ : Nat) (h64 : L.length + M.length ≤ 64) (w : World) (hL : Outer n₀ w a L) (hM : Outer n₀ w b M) (hn₀ : n₀ ≤ w.heap.size) :
    Calls Try.prog 20 #[.slice a L.length ca, .slice b M.length cb] w fun e w' => ∃ av cv, e = .returned (.slice av (L ++ M).length cv) ∧ Below w.heap.size w w' ∧ Outer w'.heap.size w' av (L ++ M) := by
  obtain ⟨i0, hi, hz0, hz1, hz2⟩ := ints_info
  have HM := hide (show ∀ W, Below w.heap.size w W → Outer n₀ W b M from fun W hW => hM.below (hW.mono hn₀))
  clear hM
  go_enter Try.func20, Try.ntmps20
  go_wp2_with fail
  go_loopw [5, 12] (fun ls i wr => ∃ (k : Nat) (av : Option Addr) (cv : Nat), k ≤ L.length ∧ i = .int .i64 k ∧ ls = .slice av k cv ∧ Below w.heap.size w wr ∧ wr.ownsRow w.heap.size 23 1 (.slice av k cv) k (svals (L.take k))) (fun _ i _ => L.length - (intOf i).toNat)
  case atStart => exact ⟨0, none, 0, Nat.zero_le _, rfl, rfl, Below.refl _ _, World.ownsRow_nil ..⟩
  case round =>
    obtain ⟨k, av, cv, hk, rfl, rfl, hB, hown⟩ := hrel
    have hsr := hB.size
    by_cases hlt : k < L.length
    · obtain ⟨bl, ol, rfl, hbl, hcl⟩ := (hL.below (hB.mono hn₀)).at hlt
      have ck := hcl k hlt
      have HT := hide (take_snocB L hlt)
      clear hcl
      obtain ⟨s, es⟩ : ∃ s, nth L k = s := ⟨_, rfl⟩
      rw [es] at ck HT
      clear es
      obtain ⟨ax, cx', zx⟩ := s
      unfold slv at ck
      dsimp only at ck
      go_wp2_with (at_builtin; refine wpList_append_own _ rfl _ _ 22 rfl w.heap.size 23 i0 (.slice none 0 0) 1 24 Try.underlying22 hi hz0 hz1 hz2 rfl (by decide) _ _ _ rfl (hown.alloc _) ⟨wr.heap.size, 0, none⟩ 1 1 [.slice ax zx.length cx'] rfl rfl (cell_one_new _ _ _) (fun u hu => by simp at hu; subst hu; rfl) (by unfold maxLen; omega) (by omega) (by simp; omega) ?_; intro v' w4 own4 hgrow _; obtain ⟨g', cap', rfl⟩ := ownsRow_succ own4)
      have hB4 : Below w.heap.size w w4 := (hB.alloc hsr (.cells #[.slice ax zx.length cx'] 23)).grown hgrow (by simp; omega) fun q eq => by
        apply Nat.le_of_not_lt; intro hql
        exact ownBlock_ge hown (b := q) hql eq.symm
      go_wp2_with fail
      go_roundw
      case rel => exact ⟨k + 1, some ⟨g', 0, none⟩, cap', by omega, by go_num, rfl, hB4, by rw [HT.out, svals_snoc]; exact own4⟩
      case measure => simp [intOf]; omega
    · obtain rfl : k = L.length := by omega
      rw [List.take_length] at hown
      obtain ⟨wo, hwo⟩ : ∃ V, V = wr := ⟨_, rfl⟩
      subst hwo
      go_wp2_with fail
      go_loopw [5, 23] (fun ls i wr => ∃ (j : Nat) (av : Option Addr) (cv : Nat), j ≤ M.length ∧ i = .int .i64 j ∧ ls = .slice av (L.length + j) cv ∧ Below w.heap.size w wr ∧ wr.ownsRow w.heap.size 23 1 (.slice av (L.length + j) cv) (L.length + j) (svals (L ++ M.take j))) (fun _ i _ => M.length - (intOf i).toNat)
      case atStart => exact ⟨0, av, cv, Nat.zero_le _, rfl, rfl, hB, by simpa using hown⟩
      case round =>
        clear hown hB hsr
        obtain ⟨j, av, cv, hj, rfl, rfl, hB, hown⟩ := hrel
        have hsr := hB.size
        by_cases hlj : j < M.length
        · obtain ⟨bl, ol, hav, hbl, hcl⟩ := (HM.out wr hB).at hlj
          subst hav
          have ck := hcl j hlj
          have HT := hide (take_snocB M hlj)
          clear hcl
          obtain ⟨s, es⟩ : ∃ s, nth M j = s := ⟨_, rfl⟩
          rw [es] at ck HT
          clear es
          obtain ⟨ax, cx', zx⟩ := s
          unfold slv at ck
          dsimp only at ck
          go_wp2_with (at_builtin; refine wpList_append_own _ rfl _ _ 22 rfl w.heap.size 23 i0 (.slice none 0 0) 1 24 Try.underlying22 hi hz0 hz1 hz2 rfl (by decide) _ _ _ rfl (hown.alloc _) ⟨wr.heap.size, 0, none⟩ 1 1 [.slice ax zx.length cx'] rfl rfl (cell_one_new _ _ _) (fun u hu => by simp at hu; subst hu; rfl) (by unfold maxLen; omega) (by omega) (by simp; omega) ?_; intro v' w4 own4 hgrow _; obtain ⟨g', cap', rfl⟩ := ownsRow_succ own4)
          have hB4 : Below w.heap.size w w4 := (hB.alloc hsr (.cells #[.slice ax zx.length cx'] 23)).grown hgrow (by simp; omega) fun q eq => by
            apply Nat.le_of_not_lt; intro hql
            exact ownBlock_ge hown (b := q) hql eq.symm
          go_wp2_with fail
          go_roundw
          case rel => exact ⟨j + 1, some ⟨g', 0, none⟩, cap', by omega, by go_num, rfl, hB4, by rw [HT.out, ← List.append_assoc, svals_snoc]; exact own4⟩
          case measure => simp [intOf]; omega
        · obtain rfl : j = M.length := by omega
          rw [List.take_length] at hown
          have hO := ownsRow_outer hown
          go_wp2_with fail
          go_ret
          exact ⟨av, cv, by rw [List.length_append]; rfl, hB, hO⟩

set_option maxRecDepth 100000 in
set_option maxHeartbeats 8000000 in
theorem rtjoins_any (a : Option Addr) (ca : Nat) (L : List Sl) (b : Option Addr) (cb : Nat) (M : List Sl) (n₀ : Nat) (h63 : L.length ≤ 9223372036854775807) (h64 : M.length ≤ 9223372036854775807) (hc : codeLL (zl L) (zl M) = 0) (hN64 : L.length * M.length ≤ 64) (w : World) (hL : ZLists n₀ w a L) (hM : ZLists n₀ w b M) (hn₀ : n₀ ≤ w.heap.size) :
    Calls Try.prog 21 #[.slice a L.length ca, .slice b M.length cb] w fun e w' => ∃ av cv J, e = .returned (.slice av J.length cv) ∧ Below w.heap.size w w' ∧ Outer w'.heap.size w' av J ∧ InF w.heap.size w' J ∧ zl J = rowsTo L M L.length := by
  obtain ⟨i0, hi, hz0, hz1, hz2⟩ := ints_info
  have HC := hide hc
  obtain ⟨N, hN⟩ : ∃ N, L.length * M.length = N := ⟨_, rfl⟩
  have HN := hide hN
  rw [hN] at hN64
  clear hc hN
  go_enter Try.func21, Try.ntmps21
  go_wp2_with fail
  go_loopw [5, 12] (fun js i wr => ∃ (i' : Nat) (J : List Sl) (jv : Option Addr) (jc : Nat), i' ≤ L.length ∧ i = .int .i64 i' ∧ js = .slice jv J.length jc ∧ Below w.heap.size w wr ∧ wr.ownsRow w.heap.size 23 1 (.slice jv J.length jc) J.length (svals J) ∧ InF w.heap.size wr J ∧ Hid (zl J = rowsTo L M i')) (fun _ i _ => L.length - (intOf i).toNat)
  case atStart => exact ⟨0, [], none, 0, Nat.zero_le _, rfl, rfl, Below.refl _ _, World.ownsRow_nil .., InF.nil _ _, hide (by rw [rowsTo_zero]; rfl)⟩
  case round =>
    obtain ⟨i', J, jv, jc, hi', rfl, rfl, hB, hown, hF, HJ⟩ := hrel
    have hsr := hB.size
    by_cases hlt : i' < L.length
    · obtain ⟨bl, ol, hav, hbl, hcl⟩ := ((hL.below (hB.mono hn₀)).outer).at hlt
      subst hav
      have ck := hcl i' hlt
      obtain ⟨iz, il⟩ := hL.inner i' hlt
      have hzm := mem_zl.2 ⟨i', hlt, rfl⟩
      have HR := hide (rowsTo_succ L M hlt)
      obtain ⟨sx, ex⟩ : ∃ sx, nth L i' = sx := ⟨_, rfl⟩
      rw [ex] at ck iz il hzm HR
      clear hcl ex
      obtain ⟨ax, cx, zx⟩ := sx
      unfold slv at ck
      dsimp only at ck iz il hzm HR
      obtain ⟨wo, hwo⟩ : ∃ V, V = wr := ⟨_, rfl⟩
      subst hwo
      have HZM := hide hzm
      clear hzm
      go_wp2_with fail
      go_loopw [5, 18] (fun js j wr => ∃ (j' : Nat) (K : List Sl) (jv : Option Addr) (jc : Nat), j' ≤ M.length ∧ j = .int .i64 j' ∧ js = .slice jv K.length jc ∧ Below w.heap.size w wr ∧ wr.ownsRow w.heap.size 23 1 (.slice jv K.length jc) K.length (svals K) ∧ InF w.heap.size wr K ∧ Hid (zl K = rowsTo L M i' ++ ((zl M).take j').map (joinT true zx))) (fun _ j _ => M.length - (intOf j).toNat)
      case atStart => exact ⟨0, J, jv, jc, Nat.zero_le _, rfl, rfl, hB, hown, hF, hide (by rw [HJ.out]; simp)⟩
      case round =>
        clear hB hown hF hsr
        obtain ⟨j', K, kv, kc, hj', rfl, rfl, hB, hown, hF, HK⟩ := hrel
        have hsr := hB.size
        by_cases hlj : j' < M.length
        · obtain ⟨bm, om, hav, hbm, hcm⟩ := ((hM.below (hB.mono hn₀)).outer).at hlj
          subst hav
          have cj := hcm j' hlj
          obtain ⟨jz, jl⟩ := hM.inner j' hlj
          have hpc := pair_code HC.out HZM.out (mem_zl.2 ⟨j', hlj, rfl⟩)
          have HS := hide (map_take_succ (joinT true zx) hlj)
          have hKl : K.length + 1 ≤ N := by
            have h1 := congrArg List.length HK.out
            rw [zl_len, List.length_append, rowsTo_len L M i' hi', List.length_map, List.length_take, zl_len, Nat.min_eq_left hj'] at h1
            have h2 := cnt_lt hlt hlj
            rw [HN.out] at h2
            omega
          obtain ⟨sy, ey⟩ : ∃ sy, nth M j' = sy := ⟨_, rfl⟩
          rw [ey] at cj jz jl hpc HS
          clear hcm ey
          obtain ⟨ay, cy, zy⟩ := sy
          unfold slv at cj
          dsimp only at cj jz jl hpc HS
          obtain ⟨hcx, _, hxy⟩ := codeP_zero hpc
          have htg := rtjoin_any true ax cx zx ay cy zy n₀ hxy (codeT_zero hcx).2.1 wr (iz.below (hB.mono hn₀)) (jz.below (hB.mono hn₀)) (by omega)
          have HX := hide (codeT_zero hcx)
          clear hpc hcx hxy
          go_wp2_with fail
          with_reducible refine htg.mono ?_
          rintro e w4 ⟨ac, cc, rfl, hb4, own4j⟩
          have hB4 := hB.trans (hb4.mono hsr)
          have hs4 := hB4.size
          have hown4 := ownsRow_below hown hb4
          have hF4 := hF.below hb4
          obtain ⟨gc, cur, hac, hnew⟩ : ∃ gc cur, ac = some ⟨gc, 0, none⟩ ∧ w.heap.size ≤ gc ∧ w4.heap[gc]? = some (.cells cur 3) ∧ ∀ j, j < (joinT true zx zy).length → cur[j]? = some (.int .i64 (zd (joinT true zx zy) j)) := by
            rcases own4j.2 with ⟨_, h2⟩ | ⟨g', cap', cur, h1, h2, h3, _, _, _, h7⟩
            · have := HX.out.1; omega
            · cases h1
              refine ⟨g', cur, rfl, by omega, h3, fun j hj => ?_⟩
              have hx : (cur.toList.take (zx.length * 1))[j]? = (zvals (joinT true zx zy))[j]? := by rw [h7]
              rw [zvals_at hj, List.getElem?_take, if_pos (by rw [joinT_len] at hj; omega)] at hx
              simpa using hx
          subst hac
          have HB := hide hnew
          clear htg own4j hnew
          go_wp2_with (at_builtin; refine wpList_append_own _ rfl _ _ 22 rfl w.heap.size 23 i0 (.slice none 0 0) 1 24 Try.underlying22 hi hz0 hz1 hz2 rfl (by decide) _ _ _ rfl (hown4.alloc _) ⟨w4.heap.size, 0, none⟩ 1 1 [.slice (some ⟨gc, 0, none⟩) zx.length cc] rfl rfl (cell_one_new _ _ _) (fun u hu => by simp at hu; subst hu; rfl) (by unfold maxLen; omega) (by omega) (by simp; omega) ?_; intro v' w5 own5 hgrow _; obtain ⟨g', cap', rfl⟩ := ownsRow_succ own5)
          have hB5 : Below w.heap.size w w5 := (hB4.alloc hs4 (.cells #[.slice (some ⟨gc, 0, none⟩) zx.length cc] 23)).grown hgrow (by simp; omega) fun q eq => by
            apply Nat.le_of_not_lt; intro hql
            exact ownBlock_ge hown4 (b := q) hql eq.symm
          have hF5 : InF w.heap.size w5 (K ++ [⟨some ⟨gc, 0, none⟩, cc, joinT true zx zy⟩]) := by
            have h1 : InF w.heap.size w4 (K ++ [⟨some ⟨gc, 0, none⟩, cc, joinT true zx zy⟩]) := hF4.snoc ⟨gc, cur, rfl, HB.out.1, HB.out.2.1, by show (joinT true zx zy).length ≤ 4; rw [joinT_len]; exact HX.out.2.1, HB.out.2.2⟩
            exact h1.grow hown4 hgrow
          have HKZ : Hid (zl (K ++ [⟨some ⟨gc, 0, none⟩, cc, joinT true zx zy⟩]) = rowsTo L M i' ++ ((zl M).take (j' + 1)).map (joinT true zx)) := hide (by
            rw [zl_append, HK.out, HS.out, List.append_assoc]; rfl)
          have hsv : svals (K ++ [⟨some ⟨gc, 0, none⟩, cc, joinT true zx zy⟩]) = svals K ++ [.slice (some ⟨gc, 0, none⟩) zx.length cc] := by
            rw [svals_snoc]; unfold slv; dsimp only; rw [joinT_len]
          have HSV := hide hsv
          clear hsv
          go_wp2_with fail
          go_roundw
          case rel => exact ⟨j' + 1, K ++ [⟨some ⟨gc, 0, none⟩, cc, joinT true zx zy⟩], some ⟨g', 0, none⟩, cap', by omega, by go_num, by rw [List.length_append]; rfl, hB5, by rw [HSV.out, List.length_append]; exact own5, hF5, HKZ⟩
          case measure => simp [intOf]; omega
        · obtain rfl : j' = M.length := by omega
          have HE : Hid (zl K = rowsTo L M (i' + 1)) := hide (by rw [HK.out, HR.out, List.take_of_length_le (by rw [zl_len]; exact Nat.le_refl _)])
          go_wp2_with fail
          go_roundw
          case rel => exact ⟨i' + 1, K, kv, kc, by omega, by go_num, rfl, hB, hown, hF, HE⟩
          case measure => simp [intOf]; omega
    · obtain rfl : i' = L.length := by omega
      have hO := ownsRow_outer hown
      go_wp2_with fail
      go_ret
      exact ⟨jv, jc, J, rfl, hB, hO, hF, HJ.out⟩
end Go.Proofs.Ytdknniomgdjbfaa
