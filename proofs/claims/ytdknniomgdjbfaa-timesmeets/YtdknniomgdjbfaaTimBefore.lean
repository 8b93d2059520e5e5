/- The contracts of package times' checkLists and Before. -/
import Derived.Test.YtdknniomgdjbfaaTimOpen
import Derived.Test.YtdknniomgdjbfaaTimMore
namespace Go.Proofs.Ytdknniomgdjbfaa
open Go.RowKit Go.Shelf

/-- what is wrong with two lists of times -/
def apartB (ls ms : List (List Int)) : Bool := decide (0 < ls.length ∧ 0 < ms.length ∧ (ls.headD []).length ≠ (ms.headD []).length)
def codeLL (ls ms : List (List Int)) : Int := if codeL ls ≠ 0 then codeL ls else if codeL ms ≠ 0 then codeL ms else if apartB ls ms then 3 else 0
theorem codeLL_a {ls ms : List (List Int)} (h : codeL ls ≠ 0) : codeLL ls ms = codeL ls := if_pos h
theorem codeLL_b {ls ms : List (List Int)} (h : codeL ls = 0) (h2 : codeL ms ≠ 0) : codeLL ls ms = codeL ms := by unfold codeLL; rw [if_neg (fun e => e h), if_pos h2]
theorem codeLL_form {ls ms : List (List Int)} (h : codeL ls = 0) (h2 : codeL ms = 0) (h3 : apartB ls ms = true) : codeLL ls ms = 3 := by unfold codeLL; rw [if_neg (fun e => e h), if_neg (fun e => e h2), if_pos h3]
theorem codeLL_ok {ls ms : List (List Int)} (h : codeL ls = 0) (h2 : codeL ms = 0) (h3 : apartB ls ms = false) : codeLL ls ms = 0 := by unfold codeLL; rw [if_neg (fun e => e h), if_neg (fun e => e h2), if_neg (by rw [h3]; simp)]
theorem codeLL_zero {ls ms : List (List Int)} (h : codeLL ls ms = 0) : codeL ls = 0 ∧ codeL ms = 0 ∧ apartB ls ms = false := by
  by_cases h1 : codeL ls = 0
  · by_cases h2 : codeL ms = 0
    · cases h3 : apartB ls ms
      · exact ⟨h1, h2, rfl⟩
      · rw [codeLL_form h1 h2 h3] at h; exact absurd h (by decide)
    · rw [codeLL_b h1 h2] at h; exact absurd h h2
  · rw [codeLL_a h1] at h; exact absurd h h1
theorem apartB_comm (ls ms : List (List Int)) : apartB ls ms = apartB ms ls := by
  unfold apartB; rw [Bool.eq_iff_iff, decide_eq_true_iff, decide_eq_true_iff]
  constructor <;> rintro ⟨a, b, c⟩ <;> exact ⟨b, a, fun e => c e.symm⟩
theorem codeLL_zero_comm {ls ms : List (List Int)} (h : codeLL ls ms = 0) : codeLL ms ls = 0 := by
  obtain ⟨h1, h2, h3⟩ := codeLL_zero h
  exact codeLL_ok h2 h1 (by rw [apartB_comm]; exact h3)
theorem zl_head {L : List Sl} (h : 0 < L.length) : (zl L).headD [] = (nth L 0).zs := by
  cases L with
  | nil => simp at h
  | cons s l => rfl
theorem apart_no {L M : List Sl} (h : ¬ (0 < L.length ∧ 0 < M.length)) : apartB (zl L) (zl M) = false := by
  unfold apartB; rw [decide_eq_false_iff_not, zl_len, zl_len]; exact fun ⟨a, b, _⟩ => h ⟨a, b⟩
theorem apart_iff {L M : List Sl} (hL : 0 < L.length) (hM : 0 < M.length) : apartB (zl L) (zl M) = decide ((nth L 0).zs.length ≠ (nth M 0).zs.length) := by
  unfold apartB
  rw [Bool.eq_iff_iff, decide_eq_true_iff, decide_eq_true_iff, zl_len, zl_len, zl_head hL, zl_head hM]
  exact ⟨fun h => h.2.2, fun h => ⟨hL, hM, h⟩⟩
/-- is for each of the one list one of the other Leq to it? -/
def beforeB (ls ms : List (List Int)) : Bool := ms.all fun t => openB ls t
theorem beforeB_true {ls ms : List (List Int)} : beforeB ls ms = true ↔ ∀ t ∈ ms, openB ls t = true := by unfold beforeB; rw [List.all_eq_true]

set_option maxRecDepth 100000 in
set_option maxHeartbeats 4000000 in
theorem clists_any (a : Option Addr) (ca : Nat) (L : List Sl) (b : Option Addr) (cb : Nat) (M : List Sl) (n₀ : Nat) (h63 : L.length ≤ 9223372036854775807) (h64 : M.length ≤ 9223372036854775807) (w : World) (hL : ZLists n₀ w a L) (hM : ZLists n₀ w b M) (hn₀ : n₀ ≤ w.heap.size) :
    Calls Try.prog 32 #[.agg #[.slice a L.length ca, .slice b M.length cb]] w fun e w' => e = .returned (.int .i64 (codeLL (zl L) (zl M))) ∧ Below w.heap.size w w' := by
  obtain ⟨r0, hb0, hs0⟩ := one_row w 43 (.slice a L.length ca) (.slice b M.length cb) rfl
  have lt0 := r0.lt
  have c0 := r0.cell (i := 0) rfl
  have c1 := r0.cell (i := 1) rfl
  have i0 : ∀ W, (Instr.index 43 (.agg #[.slice a L.length ca, .slice b M.length cb]) (.int .i64 0)).run Try.prog W = .ok (.slice a L.length ca) W := fun _ => by kernel_rfl
  have i1 : ∀ W, (Instr.index 43 (.agg #[.slice a L.length ca, .slice b M.length cb]) (.int .i64 1)).run Try.prog W = .ok (.slice b M.length cb) W := fun _ => by kernel_rfl
  have s1 : ∀ W, Below w.heap.size w W → _ := fun W hW => tlist_any a ca L n₀ h63 W (hL.below (hW.mono hn₀)) (by have := hW.size; omega)
  have s2 : ∀ W, Below w.heap.size w W → _ := fun W hW => tlist_any b cb M n₀ h64 W (hM.below (hW.mono hn₀)) (by have := hW.size; omega)
  have HW : Hid (∀ W, Below w.heap.size w W → ZLists n₀ W a L ∧ ZLists n₀ W b M) := hide fun W hW => ⟨hL.below (hW.mono hn₀), hM.below (hW.mono hn₀)⟩
  by_cases h1 : codeL (zl L) = 0
  · rw [h1] at s1
    by_cases h2 : codeL (zl M) = 0
    · rw [h2] at s2
      have HC := hide (show ∀ r, apartB (zl L) (zl M) = r → codeLL (zl L) (zl M) = if r then 3 else 0 from fun r e => by
        cases r
        · exact codeLL_ok h1 h2 e
        · exact codeLL_form h1 h2 e)
      clear h1 h2
      go_enter Try.func32, Try.ntmps32
      go_wp2_with fail
      go_loopw [9] (fun i wr => ∃ k : Nat, k ≤ 2 ∧ i = .int .i64 k ∧ Below w.heap.size w wr ∧ Row wr w.heap.size 43 [.slice a L.length ca, .slice b M.length cb]) (fun i _ => 2 - (intOf i).toNat)
      case atStart => exact ⟨0, by omega, rfl, hb0, r0⟩
      case round =>
        clear r0 hb0 c0 c1
        obtain ⟨k, hk, rfl, hB, rP⟩ := hrel
        have lrP := rP.lt
        have hsr := hB.size
        match k, hk with
        | 0, _ =>
          have t1 := s1 _ hB
          go_wp2_with fail
          with_reducible refine t1.mono ?_
          rintro e w1 ⟨rfl, hb1⟩
          go_wp2_with fail
          go_roundw
          case rel => exact ⟨1, by omega, by go_num, hB.trans (hb1.mono hsr), row_below rP hb1 lrP⟩
          case measure => simp [intOf]
        | 1, _ =>
          have t1 := s2 _ hB
          go_wp2_with fail
          with_reducible refine t1.mono ?_
          rintro e w1 ⟨rfl, hb1⟩
          go_wp2_with fail
          go_roundw
          case rel => exact ⟨2, by omega, by go_num, hB.trans (hb1.mono hsr), row_below rP hb1 lrP⟩
          case measure => simp [intOf]
        | 2, _ =>
          have k0 := cell_regrown (rP.cell (i := 0) rfl)
          have k1 := cell_regrown (rP.cell (i := 1) rfl)
          clear s1 s2
          go_wp2_with fail
          refine wp_region_quiet_below (by kernel_rfl) (by kernel_rfl) ?_
          repeat (go_big_quiet_step (fail))
          refine wpQuiet_nil ?_
          intro _ hw'
          obtain ⟨⟨dq, osq⟩, hw''⟩ := hw'
          subst hw''
          have hb2 := below_regrown wr dq osq
          have hB2 := hB.trans (hb2.mono hsr)
          have hs2 := hB2.size
          clear k0 k1 hb2 rP lrP
          generalize Go.Sort.grow (redrawn wr dq) osq = V at *
          by_cases hl : 0 < L.length
          · by_cases hm : 0 < M.length
            · obtain ⟨bl, ol, hal, hbl, hcl⟩ := (HW.out V hB2).1.outer.at hl
              obtain ⟨bm, om, ham, hbm, hcm⟩ := (HW.out V hB2).2.outer.at hm
              have q0 := hcl 0 hl
              have q1 := hcm 0 hm
              rw [Nat.add_zero] at q0 q1
              have HA := hide (apart_iff hl hm)
              obtain ⟨s, es⟩ : ∃ s, nth L 0 = s := ⟨_, rfl⟩
              obtain ⟨t, et⟩ : ∃ t, nth M 0 = t := ⟨_, rfl⟩
              rw [es, et] at HA
              rw [es] at q0
              rw [et] at q1
              subst hal
              subst ham
              clear hcl hcm es et
              obtain ⟨ax, cx, zx⟩ := s
              obtain ⟨ay, cy, zy⟩ := t
              unfold slv at q0 q1
              dsimp only at q0 q1 HA
              have k0 := cell_regrown q0
              have k1 := cell_regrown q1
              have d1 : decide ((0 : Int) < (L.length : Int)) = true := decide_eq_true (by omega)
              have d2 : decide ((0 : Int) < (M.length : Int)) = true := decide_eq_true (by omega)
              clear q0 q1
              by_cases hne : zx.length = zy.length
              · have e1 : ((zx.length : Int) != (zy.length : Int)) = false := by rw [bne_eq_false_iff_eq]; omega
                have HF := hide (HC.out false (HA.out.trans (decide_eq_false (fun h => h hne))))
                clear hne
                go_wp2_with fail
                refine wp_region_quiet_below (by kernel_rfl) (by kernel_rfl) ?_
                repeat (go_big_quiet_step (fail))
                refine wpQuiet_nil ?_
                intro _ hw'
                obtain ⟨⟨dq, osq⟩, hw''⟩ := hw'
                subst hw''
                go_wp2_with fail
                go_ret
                exact ⟨ret_int HF.out.symm, hB2.trans ((below_regrown _ dq osq).mono hs2)⟩
              · have e1 : ((zx.length : Int) != (zy.length : Int)) = true := by rw [bne_iff_ne]; omega
                have HF := hide (HC.out true (HA.out.trans (decide_eq_true hne)))
                clear hne
                go_wp2_with fail
                refine wp_region_quiet_below (by kernel_rfl) (by kernel_rfl) ?_
                repeat (go_big_quiet_step (fail))
                refine wpQuiet_nil ?_
                intro _ hw'
                obtain ⟨⟨dq, osq⟩, hw''⟩ := hw'
                subst hw''
                go_wp2_with fail
                go_ret
                exact ⟨ret_int HF.out.symm, hB2.trans ((below_regrown _ dq osq).mono hs2)⟩
            · have HF := hide (HC.out false (apart_no fun h => hm h.2))
              have d1 : decide ((0 : Int) < (L.length : Int)) = true := decide_eq_true (by omega)
              have d2 : decide ((0 : Int) < (M.length : Int)) = false := decide_eq_false (by omega)
              go_wp2_with fail
              refine wp_region_quiet_below (by kernel_rfl) (by kernel_rfl) ?_
              repeat (go_big_quiet_step (fail))
              refine wpQuiet_nil ?_
              intro _ hw'
              obtain ⟨⟨dq, osq⟩, hw''⟩ := hw'
              subst hw''
              go_wp2_with fail
              go_ret
              exact ⟨ret_int HF.out.symm, hB2.trans ((below_regrown _ dq osq).mono hs2)⟩
          · have HF := hide (HC.out false (apart_no fun h => hl h.1))
            have d1 : decide ((0 : Int) < (L.length : Int)) = false := decide_eq_false (by omega)
            go_wp2_with fail
            refine wp_region_quiet_below (by kernel_rfl) (by kernel_rfl) ?_
            repeat (go_big_quiet_step (fail))
            refine wpQuiet_nil ?_
            intro _ hw'
            obtain ⟨⟨dq, osq⟩, hw''⟩ := hw'
            subst hw''
            go_wp2_with fail
            go_ret
            exact ⟨ret_int HF.out.symm, hB2.trans ((below_regrown _ dq osq).mono hs2)⟩
    · have HC := hide (codeLL_b h1 h2)
      have e1 : (codeL (zl M) != 0) = true := by rw [bne_iff_ne]; exact h2
      clear h1 h2
      generalize codeL (zl M) = c at *
      go_enter Try.func32, Try.ntmps32
      go_wp2_with fail
      go_loopw [9] (fun i wr => ∃ k : Nat, k ≤ 1 ∧ i = .int .i64 k ∧ Below w.heap.size w wr) (fun i _ => 2 - (intOf i).toNat)
      case atStart => exact ⟨0, by omega, rfl, hb0⟩
      case round =>
        clear r0 hb0 c0 c1
        obtain ⟨k, hk, rfl, hB⟩ := hrel
        have hsr := hB.size
        match k, hk with
        | 0, _ =>
          have t1 := s1 _ hB
          go_wp2_with fail
          with_reducible refine t1.mono ?_
          rintro e w1 ⟨rfl, hb1⟩
          go_wp2_with fail
          go_roundw
          case rel => exact ⟨1, by omega, by go_num, hB.trans (hb1.mono hsr)⟩
          case measure => simp [intOf]
        | 1, _ =>
          have t1 := s2 _ hB
          go_wp2_with fail
          with_reducible refine t1.mono ?_
          rintro e w1 ⟨rfl, hb1⟩
          go_wp2_with fail
          go_ret
          exact ⟨ret_int HC.out.symm, hB.trans (hb1.mono hsr)⟩
  · have HC := hide (codeLL_a (ms := zl M) h1)
    have e1 : (codeL (zl L) != 0) = true := by rw [bne_iff_ne]; exact h1
    clear h1
    generalize codeL (zl L) = c at *
    go_enter Try.func32, Try.ntmps32
    go_wp2_with fail
    go_loopw [9] (fun i wr => i = .int .i64 (0 : Nat) ∧ Below w.heap.size w wr) (fun i _ => 2 - (intOf i).toNat)
    case atStart => exact ⟨rfl, hb0⟩
    case round =>
      clear r0 hb0 c0 c1
      obtain ⟨rfl, hB⟩ := hrel
      have hsr := hB.size
      have t1 := s1 _ hB
      go_wp2_with fail
      with_reducible refine t1.mono ?_
      rintro e w1 ⟨rfl, hb1⟩
      go_wp2_with fail
      go_ret
      exact ⟨ret_int HC.out.symm, hB.trans (hb1.mono hsr)⟩

set_option maxHeartbeats 1000000 in
theorem before1_any (q : Nat) (a : Option Addr) (cap : Nat) (L : List Sl) (u : Sl) (n₀ : Nat) (h63 : L.length ≤ 9223372036854775807) (hul : u.zs.length ≤ 9223372036854775807) (w : World) (hq : w.cell? ⟨q, 0, none⟩ = some (.slice a L.length cap)) (hw : ZLists n₀ w a L) (hu : ZInts n₀ w u.a u.zs) (hn₀ : n₀ ≤ w.heap.size) :
    Calls Try.prog 33 #[slv u, .pointer (some ⟨q, 0, none⟩)] w fun e w' => e = .returned (.bool (!openB (zl L) u.zs)) ∧ Below w.heap.size w w' := by
  obtain ⟨b, cb, ys⟩ := u
  unfold slv
  dsimp only at *
  have h1 := topen_any a cap L b cb ys n₀ h63 hul w hw hu hn₀
  generalize openB (zl L) ys = r at *
  go_enter Try.func33, Try.ntmps33
  go_wp2_with fail
  with_reducible refine h1.mono ?_
  rintro e w' ⟨rfl, hb⟩
  go_wp2_with fail
  go_ret
  exact ⟨rfl, hb⟩
theorem before_iff {L M : List Sl} {r : Bool} (hr : r = !beforeB (zl L) (zl M)) : r = true ↔ AnyTo (fun i => !openB (zl L) (nth M i).zs) M.length := by
  subst hr
  rw [Bool.not_eq_true', Bool.eq_false_iff, ne_eq, beforeB_true]
  constructor
  · intro h
    apply Classical.byContradiction
    intro hno
    apply h
    intro t ht
    obtain ⟨i, hi, e⟩ := mem_zl.1 ht
    apply Classical.byContradiction
    intro h2
    exact hno ⟨i, hi, by show (!openB (zl L) (nth M i).zs) = true; rw [e]; simpa using h2⟩
  · rintro ⟨i, hi, h⟩ hall
    have h2 : (!openB (zl L) (nth M i).zs) = true := h
    rw [hall _ (mem_zl.2 ⟨i, hi, rfl⟩)] at h2
    cases h2
def befErr (c : Int) : Ending := .returned (.tuple #[.bool false, .int .i64 c])
set_option maxRecDepth 100000 in
set_option maxHeartbeats 2000000 in
theorem Before_any (a : Option Addr) (ca : Nat) (L : List Sl) (b : Option Addr) (cb : Nat) (M : List Sl) (n₀ : Nat) (h63 : L.length ≤ 9223372036854775807) (h64 : M.length ≤ 9223372036854775807) (w : World) (hL : ZLists n₀ w a L) (hM : ZLists n₀ w b M) (hn₀ : n₀ ≤ w.heap.size) :
    Calls Try.prog 15 #[.slice a L.length ca, .slice b M.length cb] w fun e w' => Below w.heap.size w w' ∧ ((codeLL (zl L) (zl M) ≠ 0 ∧ e = befErr (codeLL (zl L) (zl M))) ∨ (codeLL (zl L) (zl M) = 0 ∧ e = .returned (.tuple #[.bool (beforeB (zl L) (zl M)), .int .i64 0]))) := by
  have r0 := Row.new w 22 [.slice a L.length ca]
  have hb0 : Below w.heap.size w (w.alloc (.cells #[.slice a L.length ca] 22)) := (Below.refl _ _).alloc (Nat.le_refl _) _
  have c0 := r0.cell (i := 0) rfl
  have lt0 := r0.lt
  have s1 := clists_any a ca L b cb M n₀ h63 h64 _ (hL.below (hb0.mono hn₀)) (hM.below (hb0.mono hn₀)) (by simp; omega)
  unfold befErr
  by_cases hc : codeLL (zl L) (zl M) = 0
  · rw [hc] at s1 ⊢
    have s2 : ∀ W, Below w.heap.size w W → w.heap.size < W.heap.size → W.cell? ⟨w.heap.size, 0, none⟩ = some (.slice a L.length ca) → _ := fun W hW hlt hcell => con_before_any w.heap.size b cb M (fun i => !openB (zl L) (nth M i).zs) (!beforeB (zl L) (zl M)) (before_iff rfl) n₀ h64 W (hM.outer.below (hW.mono hn₀)) (by omega) (fun i hi X hX => before1_any w.heap.size a ca L (nth M i) n₀ h63 (hM.inner i hi).2 X ((hX.cell (p := ⟨w.heap.size, 0, none⟩) hlt).trans hcell) (hL.below ((hW.trans (hX.mono hW.size)).mono hn₀)) ((hM.inner i hi).1.below ((hW.trans (hX.mono hW.size)).mono hn₀)) (by have := (hW.trans (hX.mono hW.size)).size; omega))
    have HB := hide hb0
    clear hc hb0
    generalize beforeB (zl L) (zl M) = r at *
    go_enter Try.func15, Try.ntmps15
    go_wp2_with fail
    with_reducible refine s1.mono ?_
    rintro e w1 ⟨rfl, hb1⟩
    have q0 := row_below r0 hb1 lt0
    have d0 := q0.cell (i := 0) rfl
    have lq0 := q0.lt
    have hB1 := HB.out.trans (hb1.mono (by simp))
    have s3 := s2 w1 hB1 lq0 d0
    clear s1 s2 c0
    go_wp2_with fail
    with_reducible refine s3.mono ?_
    rintro e w2 ⟨rfl, hb2⟩
    go_wp2_with fail
    go_ret2
    exact ⟨hB1.trans (hb2.mono hB1.size), .inr ⟨trivial, by simp⟩⟩
  · have HC := hide hc
    have HB := hide hb0
    have e1 : (codeLL (zl L) (zl M) != 0) = true := by rw [bne_iff_ne]; exact hc
    clear hc hb0
    generalize codeLL (zl L) (zl M) = c at *
    go_enter Try.func15, Try.ntmps15
    go_wp2_with fail
    with_reducible refine s1.mono ?_
    rintro e w1 ⟨rfl, hb1⟩
    go_wp2_with fail
    go_ret2
    exact ⟨HB.out.trans (hb1.mono (by simp)), .inl ⟨HC.out, rfl⟩⟩
end Go.Proofs.Ytdknniomgdjbfaa
