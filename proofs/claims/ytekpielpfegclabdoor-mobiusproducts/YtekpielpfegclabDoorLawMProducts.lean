/- The walk of the law MobiusProducts: it answers true, and writes nothing that was there. -/
import Derived.Test.YtekpielpfegclabDoorMobPubM
import Derived.Test.YtekpielpfegclabDoorKeepBelow
import Derived.Test.YtekpielpfegclabDoorSound
import Derived.Test.YtekpielpfegclabDoorRefused
import Derived.Test.YtekpielpfegclabDoorProdPlain
import Derived.Lib.QuietBelow
import Derived.BigQuiet
namespace Go.Proofs.YtekpielpfegclabDoor
open Go.RowKit Go.Shelf

theorem rows_orders (w : World) (n m : Int) (a b : Option Addr) (la ca lb cb : Nat) {W : World} (h : (w.alloc (.cells #[.int .i64 n, .slice a la ca] 24)).alloc (.cells #[.int .i64 m, .slice b lb cb] 24) = W) :
    Row W w.heap.size 24 [.int .i64 n, .slice a la ca] ∧ Row W (w.heap.size + 1) 24 [.int .i64 m, .slice b lb cb] ∧ Below w.heap.size w W ∧ W.heap.size = w.heap.size + 2 := by
  subst h
  have r0 : Row (w.alloc (.cells #[.int .i64 n, .slice a la ca] 24)) w.heap.size 24 [.int .i64 n, .slice a la ca] := Row.new w _ _
  have r1 := Row.new (w.alloc (.cells #[.int .i64 n, .slice a la ca] 24)) 24 [.int .i64 m, .slice b lb cb]
  exact ⟨r0.alloc _, by simpa using r1, ((Below.refl _ _).alloc (Nat.le_refl _) _).alloc (by simp) _, by simp⟩

set_option maxRecDepth 100000 in
set_option maxHeartbeats 2000000 in
/-- where one of them may not be, or there are too many pairs -/
theorem mprod_out (n m : Int) (a b : Option Addr) (ca cb : Nat) (us ps : List Nat) (n₀ : Nat) (hf : Fit us) (hf' : Fit ps) (w : World) (hT : TabAt w) (hw : IsWords n₀ w a us) (hw' : IsWords n₀ w b ps) (hg : 0 < n₀) (hn₀ : n₀ ≤ w.heap.size) (hc : codeOf n us = 0 → codeOf m ps = 0 → (0 ≤ n ∧ n ≤ 16) ∧ (0 ≤ m ∧ m ≤ 16) ∧ 16 < n * m) :
    Calls Tryd.prog 7 #[.agg #[.int .i64 n, .slice a us.length ca], .agg #[.int .i64 m, .slice b ps.length cb]] w fun e w' => e = .returned (.bool true) ∧ Below w.heap.size w w' := by
  obtain ⟨W0, hW0⟩ : ∃ W, (w.alloc (.cells #[.int .i64 n, .slice a us.length ca] 24)).alloc (.cells #[.int .i64 m, .slice b ps.length cb] 24) = W := ⟨_, rfl⟩
  obtain ⟨r0, r1, hB0, hS0⟩ := rows_orders w n m a b _ ca _ cb hW0
  have hS0' : w.heap.size + 2 ≤ W0.heap.size := by omega
  have so := fun W (h : Below W0.heap.size W0 W) => sound_any n a ca us n₀ hf W ((hw.below (hB0.mono hn₀)).below (h.mono (by omega))) (by have := h.size; omega)
  have sp := fun W (h : Below W0.heap.size W0 W) => sound_any m b cb ps n₀ hf' W ((hw'.below (hB0.mono hn₀)).below (h.mono (by omega))) (by have := h.size; omega)
  have ro := fun W (h : Below W0.heap.size W0 W) => refused_any n a ca us n₀ hf W ((hT.below hB0 (by omega)).below h (by omega)) ((hw.below (hB0.mono hn₀)).below (h.mono (by omega))) hg (by have := h.size; omega)
  have rp := fun W (h : Below W0.heap.size W0 W) => refused_any m b cb ps n₀ hf' W ((hT.below hB0 (by omega)).below h (by omega)) ((hw'.below (hB0.mono hn₀)).below (h.mono (by omega))) hg (by have := h.size; omega)
  have hall : ∀ W, Below W0.heap.size W0 W → W.cell? ⟨w.heap.size, 0, none⟩ = some (.int .i64 n) ∧ W.cell? ⟨w.heap.size, 1, none⟩ = some (.slice a us.length ca) ∧ W.cell? ⟨w.heap.size + 1, 0, none⟩ = some (.int .i64 m) ∧ W.cell? ⟨w.heap.size + 1, 1, none⟩ = some (.slice b ps.length cb) := fun W h =>
    ⟨(row_below r0 h r0.lt).cell (i := 0) rfl, (row_below r0 h r0.lt).cell (i := 1) rfl, (row_below r1 h r1.lt).cell (i := 0) rfl, (row_below r1 h r1.lt).cell (i := 1) rfl⟩
  have hBc := Below.refl W0.heap.size W0
  obtain ⟨c0, c1, d0, d1⟩ := hall _ hBc
  generalize us.length = lu at *
  generalize ps.length = lp at *
  clear r0 r1 hS0
  by_cases hcn : codeOf n us = 0
  · have e1 : (codeOf n us == 0) = true := by rw [hcn]; rfl
    have e2 : (codeOf n us != 0) = false := by rw [hcn]; rfl
    rw [e1] at so
    rw [e2] at ro
    by_cases hcm : codeOf m ps = 0
    · have e3 : (codeOf m ps == 0) = true := by rw [hcm]; rfl
      have e4 : (codeOf m ps != 0) = false := by rw [hcm]; rfl
      rw [e3] at sp
      rw [e4] at rp
      obtain ⟨⟨n1, n2⟩, ⟨m1, m2⟩, hgt⟩ := hc hcn hcm
      have hmul : n * m ≤ 16 * 16 := Int.mul_le_mul n2 m2 m1 (by omega)
      have hgd : decide (n * m > 16) = true := decide_eq_true hgt
      clear e1 e2 e3 e4 hcn hcm hc
      go_enter Tryd.func7, Tryd.ntmps7
      go_wp2_with (first
        | (go_at_call 8; with_reducible refine (so _ hBc).mono ?_; rintro e wn ⟨rfl, hbn⟩; have hBc := hBc.trans (hbn.mono hBc.size); clear hbn c0 c1 d0 d1; obtain ⟨c0, c1, d0, d1⟩ := hall _ hBc)
        | (go_at_call 8; with_reducible refine (sp _ hBc).mono ?_; rintro e wn ⟨rfl, hbn⟩; have hBc := hBc.trans (hbn.mono hBc.size); clear hbn c0 c1 d0 d1; obtain ⟨c0, c1, d0, d1⟩ := hall _ hBc)
        | (go_at_call 9; with_reducible refine (ro _ hBc).mono ?_; rintro e wn ⟨rfl, hbn⟩; have hBc := hBc.trans (hbn.mono hBc.size); clear hbn c0 c1 d0 d1; obtain ⟨c0, c1, d0, d1⟩ := hall _ hBc)
        | (go_at_call 9; with_reducible refine (rp _ hBc).mono ?_; rintro e wn ⟨rfl, hbn⟩; have hBc := hBc.trans (hbn.mono hBc.size); clear hbn c0 c1 d0 d1; obtain ⟨c0, c1, d0, d1⟩ := hall _ hBc))
      go_ret
      exact ⟨rfl, hB0.trans (hBc.mono (by omega))⟩
    · have e3 : (codeOf m ps == 0) = false := by simp [hcm]
      have e4 : (codeOf m ps != 0) = true := by simp [hcm]
      rw [e3] at sp
      rw [e4] at rp
      clear e1 e2 e3 e4 hcn hcm hc
      go_enter Tryd.func7, Tryd.ntmps7
      go_wp2_with (first
        | (go_at_call 8; with_reducible refine (so _ hBc).mono ?_; rintro e wn ⟨rfl, hbn⟩; have hBc := hBc.trans (hbn.mono hBc.size); clear hbn c0 c1 d0 d1; obtain ⟨c0, c1, d0, d1⟩ := hall _ hBc)
        | (go_at_call 8; with_reducible refine (sp _ hBc).mono ?_; rintro e wn ⟨rfl, hbn⟩; have hBc := hBc.trans (hbn.mono hBc.size); clear hbn c0 c1 d0 d1; obtain ⟨c0, c1, d0, d1⟩ := hall _ hBc)
        | (go_at_call 9; with_reducible refine (ro _ hBc).mono ?_; rintro e wn ⟨rfl, hbn⟩; have hBc := hBc.trans (hbn.mono hBc.size); clear hbn c0 c1 d0 d1; obtain ⟨c0, c1, d0, d1⟩ := hall _ hBc)
        | (go_at_call 9; with_reducible refine (rp _ hBc).mono ?_; rintro e wn ⟨rfl, hbn⟩; have hBc := hBc.trans (hbn.mono hBc.size); clear hbn c0 c1 d0 d1; obtain ⟨c0, c1, d0, d1⟩ := hall _ hBc))
      go_ret
      exact ⟨rfl, hB0.trans (hBc.mono (by omega))⟩
  · have e1 : (codeOf n us == 0) = false := by simp [hcn]
    have e2 : (codeOf n us != 0) = true := by simp [hcn]
    rw [e1] at so
    rw [e2] at ro
    clear e1 e2 hcn hc sp rp
    go_enter Tryd.func7, Tryd.ntmps7
    go_wp2_with (first
        | (go_at_call 8; with_reducible refine (so _ hBc).mono ?_; rintro e wn ⟨rfl, hbn⟩; have hBc := hBc.trans (hbn.mono hBc.size); clear hbn c0 c1 d0 d1; obtain ⟨c0, c1, d0, d1⟩ := hall _ hBc)
        | (go_at_call 8; with_reducible refine (sp _ hBc).mono ?_; rintro e wn ⟨rfl, hbn⟩; have hBc := hBc.trans (hbn.mono hBc.size); clear hbn c0 c1 d0 d1; obtain ⟨c0, c1, d0, d1⟩ := hall _ hBc)
        | (go_at_call 9; with_reducible refine (ro _ hBc).mono ?_; rintro e wn ⟨rfl, hbn⟩; have hBc := hBc.trans (hbn.mono hBc.size); clear hbn c0 c1 d0 d1; obtain ⟨c0, c1, d0, d1⟩ := hall _ hBc)
        | (go_at_call 9; with_reducible refine (rp _ hBc).mono ?_; rintro e wn ⟨rfl, hbn⟩; have hBc := hBc.trans (hbn.mono hBc.size); clear hbn c0 c1 d0 d1; obtain ⟨c0, c1, d0, d1⟩ := hall _ hBc))
    go_ret
    exact ⟨rfl, hB0.trans (hBc.mono (by omega))⟩

theorem wrap_kindP (x : Int) : IntKind.i64.wrap x = wrap64 x := by rw [IntKind.wrap_i64]; unfold wrap64; rfl
theorem wrap_div (k m : Nat) (h : k < 9223372036854775808) : wrap64 ((k : Int) / (m : Int)) = ((k / m : Nat) : Int) := by
  have h5 : k / m ≤ k := Nat.div_le_self k m
  rw [← Int.natCast_ediv]
  generalize k / m = kd at h5
  exact IntWalk.wrap64_in _ (by omega)
theorem line_le {k n : Nat} (h : k < n) : k * n + n ≤ n * n := by
  have := Nat.mul_le_mul_right n (show k + 1 ≤ n from h)
  rwa [Nat.succ_mul] at this
theorem wrap_line {k n l : Nat} (h : k < n) (hn : n ≤ 16) (hl : l < n) : wrap64 ((k : Int) * (n : Int)) = (k : Int) * (n : Int) ∧ wrap64 ((k : Int) * (n : Int) + (l : Int)) = (k : Int) * (n : Int) + (l : Int) := by
  have h1 := line_le h
  have h2 := Nat.mul_le_mul hn hn
  rw [← Int.natCast_mul]
  generalize k * n = a at h1
  exact ⟨IntWalk.wrap64_in _ (by omega), IntWalk.wrap64_in _ (by omega)⟩
theorem wrap_sum {y l : Nat} (h : y + l < 257) : wrap64 ((y : Int) + (l : Int)) = ((y + l : Nat) : Int) := by
  rw [← Int.natCast_add]
  exact IntWalk.wrap64_in _ (by omega)
/-- what is read of the three tables at a pair of places, and what comes of it -/
theorem prod_pack {wr : World} {pq po pp i m nm k l : Nat} {Qq Qo Qp : List B64} (hi : i ≤ 16) (hm : m ≤ 16) (hnm : nm ≤ 16) (hk : k < nm) (hl : l < nm) (hd : ∀ k, k < nm → k / m < i ∧ k % m < m ∧ 0 < m)
    (hv : bd Qq (k * nm + l) = bd Qo (k / m * i + l / m) * bd Qp (k % m * m + l % m)) (lo : Qo.length = i * i) (lp : Qp.length = m * m) (lq : Qq.length = nm * nm)
    (rq : Row wr pq 2 (bvals Qq)) (ro : Row wr po 2 (bvals Qo)) (rp : Row wr pp 2 (bvals Qp)) :
    ∃ (kd kr ld lr y1 y2 y3 x1 x2 x3 : Nat) (vq vo vp : Int), wrap64 ((k : Int) / (m : Int)) = (kd : Int) ∧ wrap64 ((l : Int) / (m : Int)) = (ld : Int) ∧ ((k : Int) % (m : Int)) = (kr : Int) ∧ ((l : Int) % (m : Int)) = (lr : Int) ∧
      wrap64 ((k : Int) * (nm : Int)) = (y1 : Int) ∧ wrap64 ((kd : Int) * (i : Int)) = (y2 : Int) ∧ wrap64 ((kr : Int) * (m : Int)) = (y3 : Int) ∧ wrap64 ((y1 : Int) + (l : Int)) = (x1 : Int) ∧ wrap64 ((y2 : Int) + (ld : Int)) = (x2 : Int) ∧ wrap64 ((y3 : Int) + (lr : Int)) = (x3 : Int) ∧
      x1 < nm * nm ∧ x2 < i * i ∧ x3 < m * m ∧ wr.cell? ⟨pq, x1, none⟩ = some (.int .i64 vq) ∧ wr.cell? ⟨po, x2, none⟩ = some (.int .i64 vo) ∧ wr.cell? ⟨pp, x3, none⟩ = some (.int .i64 vp) ∧ 0 < m ∧ wrap64 (vo * vp) = vq ∧ IntKind.i64.wrap (vo * vp) = vq := by
  obtain ⟨k1, k2, hM⟩ := hd k hk
  obtain ⟨l1, l2, _⟩ := hd l hl
  have p1 := plc_lt hk hl
  have p2 := plc_lt k1 l1
  have p3 := plc_lt k2 l2
  have hi2 := Nat.mul_le_mul hi hi
  have hm2 := Nat.mul_le_mul hm hm
  have hn2 := Nat.mul_le_mul hnm hnm
  have hmulw := wrap_mul (bd Qo (k / m * i + l / m)) (bd Qp (k % m * m + l % m))
  rw [← hv] at hmulw
  refine ⟨k / m, k % m, l / m, l % m, k * nm, k / m * i, k % m * m, k * nm + l, k / m * i + l / m, k % m * m + l % m, (bd Qq (k * nm + l)).toInt, (bd Qo (k / m * i + l / m)).toInt, (bd Qp (k % m * m + l % m)).toInt, wrap_div k m (by omega), wrap_div l m (by omega), by rw [← Int.natCast_emod], by rw [← Int.natCast_emod], ?_, ?_, ?_, wrap_sum (by omega), wrap_sum (by omega), wrap_sum (by omega), p1, p2, p3, rq.cell (bvals_at (by rw [lq]; exact p1)), ro.cell (bvals_at (by rw [lo]; exact p2)), rp.cell (bvals_at (by rw [lp]; exact p3)), hM, hmulw, (wrap_kindP _).trans hmulw⟩
  · rw [Int.natCast_mul]; exact (wrap_line hk hnm hl).1
  · rw [Int.natCast_mul]; exact (wrap_line k1 hi l1).1
  · rw [Int.natCast_mul]; exact (wrap_line k2 hm l2).1
theorem wvals_snoc' (l : List Nat) (x : Nat) : wvals (l ++ [x]) = wvals l ++ [.int .u32 (x : Nat)] := by unfold wvals; simp
theorem own_wordsP {W : World} {base : Nat} {av : Option Addr} {cv k : Nat} {l : List Nat} (h : W.ownsRow base 40 1 (.slice av k cv) k (wvals l)) : IsWords W.heap.size W av l := by
  have hlen : l.length = k := by have := h.1; simpa [wvals] using this
  rcases h.2 with ⟨h1, h2⟩ | ⟨g, cap, cur, h1, h2, h3, h4, h5, h6, h7⟩
  · exact .inl (List.length_eq_zero_iff.1 (by omega))
  · cases h1
    refine .inr ⟨g, 0, rfl, (Array.getElem?_eq_some_iff.1 h3).1, fun i hi => ?_⟩
    have hx : (cur.toList.take (k * 1))[i]? = (wvals l)[i]? := by rw [h7]
    rw [wvals_at hi, List.getElem?_take, if_pos (by omega)] at hx
    simp [World.cell?, h3, ← Array.getElem?_toList, hx]
set_option maxRecDepth 100000 in
set_option maxHeartbeats 8000000 in
theorem mprod_in (n m : Nat) (a b : Option Addr) (ca cb : Nat) (us ps : List Nat) (n₀ : Nat) (hn : n = us.length) (hm : m = ps.length) (hf : Fit us) (hf' : Fit ps) (w : World) (hT : TabAt w) (hw : IsWords n₀ w a us) (hw' : IsWords n₀ w b ps) (hg : 0 < n₀) (hn₀ : n₀ ≤ w.heap.size) (hcn : codeOf n us = 0) (hcm : codeOf m ps = 0) (hle : n * m ≤ 16) :
    Calls Tryd.prog 7 #[.agg #[.int .i64 n, .slice a n ca], .agg #[.int .i64 m, .slice b m cb]] w fun e w' => e = .returned (.bool true) ∧ Below w.heap.size w w' := by
  obtain ⟨_, n16, _, hin, ho⟩ := code_zero hcn
  obtain ⟨_, m16, _, hin', ho'⟩ := code_zero hcm
  obtain ⟨W0, hW0⟩ : ∃ W, (w.alloc (.cells #[.int .i64 n, .slice a n ca] 24)).alloc (.cells #[.int .i64 m, .slice b m cb] 24) = W := ⟨_, rfl⟩
  obtain ⟨r0, r1, hB0, hS0⟩ := rows_orders w n m a b _ ca _ cb hW0
  have hS0' : w.heap.size + 2 ≤ W0.heap.size := by omega
  have lt0 := r0.lt
  have lt1 := r1.lt
  have hwo := fun W (h : Below W0.heap.size W0 W) => (hw.below (hB0.mono hn₀)).below (h.mono (by omega))
  have hwp := fun W (h : Below W0.heap.size W0 W) => (hw'.below (hB0.mono hn₀)).below (h.mono (by omega))
  have hTW := fun W (h : Below W0.heap.size W0 W) => (hT.below hB0 (by omega)).below h (by omega)
  have hle0 : ∀ W, Below W0.heap.size W0 W → n₀ ≤ W.heap.size := fun W h => by have := h.size; omega
  have so := fun W (h : Below W0.heap.size W0 W) => sound_any n a ca us n₀ hf W (hwo W h) (hle0 W h)
  have sp := fun W (h : Below W0.heap.size W0 W) => sound_any m b cb ps n₀ hf' W (hwp W h) (hle0 W h)
  have e1 : (codeOf n us == 0) = true := by rw [hcn]; rfl
  have e3 : (codeOf m ps == 0) = true := by rw [hcm]; rfl
  have mo := fun W (h : Below W0.heap.size W0 W) => Mu_ok n a ca us n₀ hn hf W (hTW W h) (hwo W h) hg (hle0 W h) hcn
  have mp := fun W (h : Below W0.heap.size W0 W) => Mu_ok m b cb ps n₀ hm hf' W (hTW W h) (hwp W h) hg (hle0 W h) hcm
  have hqc := prod_code hin ho hf hin' ho' hf' (by rw [← hn, ← hm]; exact hle)
  have hqf : Fit (prodL us ps) := fit_prodL (by rw [← hn, ← hm]; exact hle)
  have hql := prodL_len us ps
  have mq := fun W (h : Below W0.heap.size W0 W) (aq : Option Addr) (cq : Nat) (hq : IsWords W.heap.size W aq (prodL us ps)) => Mu_ok (n * m) aq cq (prodL us ps) W.heap.size (by rw [hql, hn, hm]) hqf W (hTW W h) hq (by have := hle0 W h; omega) (Nat.le_refl _) (by rw [hn, hm]; exact hqc)
  have hmu : ∀ k, k < n * m → ∀ l, l < n * m → bd (tabL (n * m) (muM (prodL us ps))) (k * (n * m) + l) = bd (tabL n (muM us)) (k / m * n + l / m) * bd (tabL m (muM ps)) (k % m * m + l % m) := fun k hk l hl => by
    have h := prod_mu hin ho hf hin' ho' hf'
    rw [← hn, ← hm] at h
    have hM : 0 < m := by
      cases h0 : m with
      | zero => rw [h0] at hk; omega
      | succ _ => omega
    have hdiv : ∀ k, k < n * m → k / m < n := fun k hk => (Nat.div_lt_iff_lt_mul hM).2 (by omega)
    have h1 := mat_tabL (n := n * m) (muM (prodL us ps)) k hk l hl
    have h2 := mat_tabL (n := n) (muM us) _ (hdiv k hk) _ (hdiv l hl)
    have h3 := mat_tabL (n := m) (muM ps) _ (Nat.mod_lt k hM) _ (Nat.mod_lt l hM)
    unfold mat at h1 h2 h3
    rw [h1, h2, h3]
    exact (h k hk l hl).symm
  have hsn : ∀ i j, j < m → prodTo us ps (i * m + j + 1) = prodTo us ps (i * m + j) ++ [pairW us ps i j (n * m)] := fun i j hj => by
    have := prodTo_snoc (us := us) (i := i) (hm ▸ hj)
    rwa [← hm, ← hn] at this
  have hyes : ∀ i j k, (hasB (wd us i) (k / m) && hasB (wd ps j) (k % m)) = true → pairW us ps i j (k + 1) = orW (pairW us ps i j k) (bitW k) := fun i j k h => pairW_yes (by rw [← hm]; exact h)
  have hno : ∀ i j k, (hasB (wd us i) (k / m) && hasB (wd ps j) (k % m)) = false → pairW us ps i j (k + 1) = pairW us ps i j k := fun i j k h => pairW_no (by rw [← hm]; exact h)
  have hplt := fun i j k (h : k ≤ 32) => pairW_lt us ps i j h
  have hpl : prodL us ps = prodTo us ps (n * m) := by unfold prodL; rw [← hn, ← hm]
  have bo := fun W (h : Below W0.heap.size W0 W) i j (hi : i < n) (hj : j < n) => kbelow_any n a ca us i j n₀ hf (hn ▸ hi) (by omega) W (hwo W h) (hle0 W h)
  have bp := fun W (h : Below W0.heap.size W0 W) i j (hi : i < m) (hj : j < m) => kbelow_any m b cb ps i j n₀ hf' (hm ▸ hi) (by omega) W (hwp W h) (hle0 W h)
  rw [e1] at so
  rw [e3] at sp
  rw [← hn] at so bo
  rw [← hm] at sp bp
  have hall : ∀ W, Below W0.heap.size W0 W → W.cell? ⟨w.heap.size, 0, none⟩ = some (.int .i64 n) ∧ W.cell? ⟨w.heap.size, 1, none⟩ = some (.slice a n ca) ∧ W.cell? ⟨w.heap.size + 1, 0, none⟩ = some (.int .i64 m) ∧ W.cell? ⟨w.heap.size + 1, 1, none⟩ = some (.slice b m cb) := fun W h =>
    ⟨(row_below r0 h r0.lt).cell (i := 0) rfl, (row_below r0 h r0.lt).cell (i := 1) rfl, (row_below r1 h r1.lt).cell (i := 0) rfl, (row_below r1 h r1.lt).cell (i := 1) rfl⟩
  have hBc := Below.refl W0.heap.size W0
  obtain ⟨c0, c1, d0, d1⟩ := hall _ hBc
  have lo := tabL_len n (muM us)
  have lp := tabL_len m (muM ps)
  have lq := tabL_len (n * m) (muM (prodL us ps))
  rw [hpl] at mq hmu lq
  generalize tabL n (muM us) = Qo at *
  generalize tabL m (muM ps) = Qp at *
  generalize tabL (n * m) (muM (prodTo us ps (n * m))) = Qq at *
  have hgd : decide ((n : Int) * (m : Int) > 16) = false := decide_eq_false (by rw [← Int.natCast_mul]; omega)
  clear hcn hcm hin ho hin' ho' hqc hqf hql hpl e1 e3 r0 r1 hS0 hn hm
  go_enter Tryd.func7, Tryd.ntmps7
  go_wp2_with (first
        | (go_at_call 8; with_reducible refine (so _ hBc).mono ?_; rintro e wn ⟨rfl, hbn⟩; have hBc := hBc.trans (hbn.mono hBc.size); clear hbn c0 c1 d0 d1; obtain ⟨c0, c1, d0, d1⟩ := hall _ hBc)
        | (go_at_call 8; with_reducible refine (sp _ hBc).mono ?_; rintro e wn ⟨rfl, hbn⟩; have hBc := hBc.trans (hbn.mono hBc.size); clear hbn c0 c1 d0 d1; obtain ⟨c0, c1, d0, d1⟩ := hall _ hBc)
        | (go_at_call 9; with_reducible refine (ro _ hBc).mono ?_; rintro e wn ⟨rfl, hbn⟩; have hBc := hBc.trans (hbn.mono hBc.size); clear hbn c0 c1 d0 d1; obtain ⟨c0, c1, d0, d1⟩ := hall _ hBc)
        | (go_at_call 9; with_reducible refine (rp _ hBc).mono ?_; rintro e wn ⟨rfl, hbn⟩; have hBc := hBc.trans (hbn.mono hBc.size); clear hbn c0 c1 d0 d1; obtain ⟨c0, c1, d0, d1⟩ := hall _ hBc))
  have hz : (n : Int) * (m : Int) = ((n * m : Nat) : Int) := by push_cast; rfl
  rw [hz]
  clear so sp hgd hz
  have hBm : ∀ i j, i < n → j < m → i * m + j < n * m := fun i j hi hj => by
    have := Nat.mul_le_mul_right m (show i + 1 ≤ n from hi)
    rw [Nat.succ_mul] at this; omega
  have hdm : ∀ k, k < n * m → k / m < n ∧ k % m < m ∧ 0 < m := fun k hk => by
    have hM : 0 < m := by
      cases h0 : m with
      | zero => rw [h0] at hk; omega
      | succ _ => omega
    exact ⟨(Nat.div_lt_iff_lt_mul hM).2 (by omega), Nat.mod_lt _ hM, hM⟩
  generalize hnm : n * m = nm at *
  have HNM := hide hnm
  clear hnm c0 c1 d0 d1 lt0 lt1
  have bore : ∀ W, Below W0.heap.size W0 W → ∀ i j, i < n → j < n → ∀ r, hasB (wd us i) j = r → ∀ d os, Calls Tryd.prog 20 #[.agg #[.int .i64 n, .slice a n ca], .int .i64 i, .int .i64 j] (Go.Sort.grow (redrawn W d) os) fun e w'' => e = .returned (.bool r) ∧ ∃ p : Regrown, w'' = Go.Sort.grow (redrawn W p.d) p.os := fun W h i j hi hj r hr d os => by
    subst hr
    exact Calls.regrown_of (bo (Go.Sort.grow (redrawn W d) os) (h.trans ((below_regrown W d os).mono h.size)) i j hi hj)
  have bpre : ∀ W, Below W0.heap.size W0 W → ∀ i j, i < m → j < m → ∀ r, hasB (wd ps i) j = r → ∀ d os, Calls Tryd.prog 20 #[.agg #[.int .i64 m, .slice b m cb], .int .i64 i, .int .i64 j] (Go.Sort.grow (redrawn W d) os) fun e w'' => e = .returned (.bool r) ∧ ∃ p : Regrown, w'' = Go.Sort.grow (redrawn W p.d) p.os := fun W h i j hi hj r hr d os => by
    subst hr
    exact Calls.regrown_of (bp (Go.Sort.grow (redrawn W d) os) (h.trans ((below_regrown W d os).mono h.size)) i j hi hj)
  clear bo bp
  have hBs := hBc.size
  have rN := Row.new wn 24 [.int .i64 (nm : Nat), .slice none 0 0]
  obtain ⟨i0, hi, hz0, hz1, hz2⟩ := info_parts info_u32
  go_loopw [6] (fun x wr => ∃ (i : Nat) (av : Option Addr) (cv : Nat), i ≤ n ∧ x = .int .i64 i ∧ Below wn.heap.size wn wr ∧ Row wr wn.heap.size 24 [.int .i64 (nm : Nat), .slice av (i * m) cv] ∧ wr.ownsRow (wn.heap.size + 1) 40 1 (.slice av (i * m) cv) (i * m) (wvals (prodTo us ps (i * m)))) (fun x _ => n - (intOf x).toNat)
  case atStart =>
    refine ⟨0, none, 0, Nat.zero_le _, rfl, (Below.refl _ _).alloc (Nat.le_refl _) _, ?_, ?_⟩
    · rw [Nat.zero_mul]; exact rN
    · rw [Nat.zero_mul]; exact World.ownsRow_nil ..
  case round =>
    clear rN
    obtain ⟨i, av, cv, hin, rfl, hbr, rB, hown⟩ := hrel
    have hBr := hBc.trans (hbr.mono hBs)
    obtain ⟨c0, c1, d0, d1⟩ := hall _ hBr
    by_cases hil : i < n
    · go_wp2_with fail
      go_loopw [7] (fun x wr => ∃ (j : Nat) (av : Option Addr) (cv : Nat), j ≤ m ∧ x = .int .i64 j ∧ Below wn.heap.size wn wr ∧ Row wr wn.heap.size 24 [.int .i64 (nm : Nat), .slice av (i * m + j) cv] ∧ wr.ownsRow (wn.heap.size + 1) 40 1 (.slice av (i * m + j) cv) (i * m + j) (wvals (prodTo us ps (i * m + j)))) (fun x _ => m - (intOf x).toNat)
      case atStart => exact ⟨0, av, cv, Nat.zero_le _, rfl, hbr, rB, hown⟩
      case round =>
        clear hbr rB hown hBr c0 c1 d0 d1
        obtain ⟨j, av, cv, hjm, rfl, hbr, rB, hown⟩ := hrel
        have hBr := hBc.trans (hbr.mono hBs)
        obtain ⟨c0, c1, d0, d1⟩ := hall _ hBr
        by_cases hjl : j < m
        · have hcl := hBm i j hil hjl
          have hsn1 := hsn i j hjl
          have HSN := hide hsn1
          clear hsn1
          go_wp2_with fail
          go_loopw [9, 8] (fun y s wr => ∃ k : Nat, k ≤ nm ∧ y = .int .i64 k ∧ s = .int .u32 (pairW us ps i j k : Nat) ∧ Below wn.heap.size wn wr ∧ Row wr wn.heap.size 24 [.int .i64 (nm : Nat), .slice av (i * m + j) cv] ∧ wr.ownsRow (wn.heap.size + 1) 40 1 (.slice av (i * m + j) cv) (i * m + j) (wvals (prodTo us ps (i * m + j)))) (fun y _ _ => nm - (intOf y).toNat)
          case atStart => exact ⟨0, Nat.zero_le _, rfl, rfl, hbr, rB, hown⟩
          case round =>
            clear hbr rB hown hBr c0 c1 d0 d1
            obtain ⟨k, hk, rfl, rfl, hbr, rB, hown⟩ := hrel
            have hBr := hBc.trans (hbr.mono hBs)
            obtain ⟨c0, c1, d0, d1⟩ := hall _ hBr
            have q0 := rB.cell (i := 0) rfl
            have q1 := rB.cell (i := 1) rfl
            have lB := rB.lt
            generalize hcnt : i * m + j = cnt at *
            have HCNT := hide hcnt
            clear hcnt
            by_cases hkl : k < nm
            · obtain ⟨hk1, hk2, hM⟩ := hdm k hkl
              have hx := hplt i j k (by omega)
              have hor := bits_or32 (pairW us ps i j k) (bitW k) hx (bitW_lt (by omega))
              have hbr1 := bit_raw (i := k) (by omega)
              have hY := hyes i j k
              have hN := hno i j k
              have hdv : wrap64 ((k : Int) / (m : Int)) = ((k / m : Nat) : Int) := by
                have h5 : k / m ≤ k := Nat.div_le_self k m
                rw [← Int.natCast_ediv]
                generalize k / m = kd at h5
                exact IntWalk.wrap64_in _ (by omega)
              have hrm : ((k : Int) % (m : Int)) = ((k % m : Nat) : Int) := by rw [← Int.natCast_emod]
              have h0 := cell_regrown c0
              have h1 := cell_regrown c1
              have g0 := cell_regrown d0
              have g1 := cell_regrown d1
              obtain ⟨x1, hx1⟩ : ∃ x, hasB (wd us i) (k / m) = x := ⟨_, rfl⟩
              obtain ⟨x2, hx2⟩ : ∃ x, hasB (wd ps j) (k % m) = x := ⟨_, rfl⟩
              have s1 := bore wr hBr i (k / m) hil hk1 x1 hx1
              have s2 := bpre wr hBr j (k % m) hjl hk2 x2 hx2
              rw [hx1, hx2] at hY hN
              have HY := hide hY
              have HN := hide hN
              clear hY hN hx1 hx2
              generalize k / m = kd at *
              generalize k % m = kr at *
              generalize pairW us ps i j k = x at *
              clear bore bpre mo mp mq hmu hall
              cases x1 with
              | true =>
                cases x2 with
                | true =>
                  go_wp2_with fail
                  refine wp_region_quiet_below (by kernel_rfl) (by kernel_rfl) ?_
                  repeat (go_big_quiet_step (first | with_reducible exact s1 _ _ | with_reducible exact s2 _ _))
                  refine wpQuiet_nil ?_
                  intro _ hw'
                  obtain ⟨⟨dq, osq⟩, hw''⟩ := hw'
                  subst hw''
                  have hbk := below_regrown wr dq osq
                  have hbr2 := hbr.trans (hbk.mono hbr.size)
                  have rB2 := row_below rB hbk lB
                  have own2 := ownsRow_below hown hbk
                  clear h0 h1 g0 g1 s1 s2 hbk hbr rB hown c0 c1 d0 d1 q0 q1 hdv hrm
                  go_wp2_with fail
                  refine ⟨⟨k + 1, by omega, by go_num, by rw [HY.out rfl], hbr2, rB2, own2⟩, by simp [intOf]; omega⟩
                | false =>
                  go_wp2_with fail
                  refine wp_region_quiet_below (by kernel_rfl) (by kernel_rfl) ?_
                  repeat (go_big_quiet_step (first | with_reducible exact s1 _ _ | with_reducible exact s2 _ _))
                  refine wpQuiet_nil ?_
                  intro _ hw'
                  obtain ⟨⟨dq, osq⟩, hw''⟩ := hw'
                  subst hw''
                  have hbk := below_regrown wr dq osq
                  have hbr2 := hbr.trans (hbk.mono hbr.size)
                  have rB2 := row_below rB hbk lB
                  have own2 := ownsRow_below hown hbk
                  clear h0 h1 g0 g1 s1 s2 hbk hbr rB hown c0 c1 d0 d1 q0 q1 hdv hrm
                  go_wp2_with fail
                  refine ⟨⟨k + 1, by omega, by go_num, by rw [HN.out rfl], hbr2, rB2, own2⟩, by simp [intOf]; omega⟩
              | false =>
                have HN2 : Hid ((false && x2) = false → _) := HN
                go_wp2_with fail
                refine wp_region_quiet_below (by kernel_rfl) (by kernel_rfl) ?_
                repeat (go_big_quiet_step (with_reducible exact s1 _ _))
                refine wpQuiet_nil ?_
                intro _ hw'
                obtain ⟨⟨dq, osq⟩, hw''⟩ := hw'
                subst hw''
                have hbk := below_regrown wr dq osq
                have hbr2 := hbr.trans (hbk.mono hbr.size)
                have rB2 := row_below rB hbk lB
                have own2 := ownsRow_below hown hbk
                clear s2 h0 h1 g0 g1 s1 hbk hbr rB hown c0 c1 d0 d1 q0 q1 hdv hrm
                go_wp2_with fail
                refine ⟨⟨k + 1, by omega, by go_num, by rw [HN2.out (by simp)], hbr2, rB2, own2⟩, by simp [intOf]; omega⟩
            · obtain rfl : k = nm := by omega
              have hx := hplt i j k (by omega)
              generalize pairW us ps i j k = x at *
              have hne := ownBlock_ge hown (b := wn.heap.size) (by omega)
              have hbs := hbr.size
              clear bore bpre mo mp mq hmu hall hyes hno hplt
              go_wp2_with (at_builtin; refine wpList_append_own _ rfl _ _ 22 rfl (wn.heap.size + 1) 40 i0 (.int .u32 0) 1 4 Tryd.underlying22 hi hz0 hz1 hz2 rfl (by decide) _ _ _ rfl (hown.alloc _) ⟨wr.heap.size, 0, none⟩ 1 1 [.int .u32 (x : Nat)] rfl rfl (cell_one_new _ _ _) (fun u hu => by simp at hu; subst hu; rfl) (by unfold maxLen; omega) (by omega) (by simp; omega) ?_; intro v' w5 hown' hgrow3 _; obtain ⟨g', cap', rfl⟩ := ownsRow_succ hown'; have rB5 := (rB.alloc (.cells #[.int .u32 (x : Nat)] 40)).kept hgrow3 hne; have cc := rB5.cell (i := 1) rfl; have ff := rB5.frozen 1; have lB5 := rB5.lt; have hB5 : Below wn.heap.size wn w5 := (hbr.alloc hbs (.cells #[.int .u32 (x : Nat)] 40)).grown hgrow3 (by simp; omega) (fun q ej => by apply Nat.le_of_not_lt; intro hjl; exact ownBlock_ge hown (b := q) (by omega) ej.symm); clear hgrow3 hbr rB hown hne c0 c1 d0 d1 q0 q1)
              have r6 := rB5.set 1 (.slice (some ⟨g', 0, none⟩) (cnt + 1) cap')
              have o6 := ownsRow_setAt hown' (b := wn.heap.size) (by omega) 1 (.slice (some ⟨g', 0, none⟩) (cnt + 1) cap')
              have e6 : i * m + (j + 1) = cnt + 1 := by have := HCNT.out; omega
              refine ⟨⟨j + 1, some ⟨g', 0, none⟩, cap', by omega, by go_num, hB5.setCell (p := ⟨wn.heap.size, 1, none⟩) (Nat.le_refl _) _, ?_, ?_⟩, by simp [intOf]; omega⟩
              · rw [e6]; exact r6
              · rw [e6, HSN.out, wvals_snoc']; exact o6
        · obtain rfl : j = m := by omega
          have e6 : (i + 1) * j = i * j + j := Nat.succ_mul i j
          go_wp2_with fail
          refine ⟨⟨i + 1, av, cv, by omega, by go_num, hbr, ?_, ?_⟩, by simp [intOf]; omega⟩
          · rw [e6]; exact rB
          · rw [e6]; exact hown
    · obtain rfl : i = n := by omega
      rw [HNM.out] at rB hown
      have hmo := mo wr hBr
      have lB := rB.lt
      clear bore bpre hyes hno hplt mo hsn hBm c1 d1
      go_wp2_with fail
      refine hmo.mono ?_
      rintro e w6 ⟨po, rfl, hpo, hb6, rQo⟩
      have hBr6 := hBr.trans (hb6.mono hBr.size)
      have rB6 := row_below rB hb6 lB
      have own6 := ownsRow_below hown hb6
      obtain ⟨c0, c1, d0, d1⟩ := hall _ hBr6
      have hmp := mp w6 hBr6
      have lo6 := rQo.lt
      clear hmo hb6 rB hown mp hbr
      go_wp2_with fail
      refine hmp.mono ?_
      rintro e w7 ⟨pp, rfl, hpp, hb7, rQp⟩
      have hBr7 := hBr6.trans (hb7.mono hBr6.size)
      have rB7 := row_below rB6 hb7 rB6.lt
      have own7 := ownsRow_below own6 hb7
      have rQo7 := row_below rQo hb7 lo6
      obtain ⟨c0, c1, d0, d1⟩ := hall _ hBr7
      have hmq := mq w7 hBr7 av cv (own_wordsP own7)
      have lp7 := rQp.lt
      have q0 := rB7.cell (i := 0) rfl
      have q1 := rB7.cell (i := 1) rfl
      have lB7 := rB7.lt
      clear hmp hb7 rB6 own6 rQo mq hBr6 own7
      go_wp2_with fail
      refine hmq.mono ?_
      rintro e w8 ⟨pq, rfl, hpq, hb8, rQq⟩
      have hBr8 := hBr7.trans (hb8.mono hBr7.size)
      have rB8 := row_below rB7 hb8 rB7.lt
      have rQo8 := row_below rQo7 hb8 rQo7.lt
      have rQp8 := row_below rQp hb8 lp7
      obtain ⟨c0, c1, d0, d1⟩ := hall _ hBr8
      have q0 := rB8.cell (i := 0) rfl
      have lB8 := rB8.lt
      have lo8 := rQo8.lt
      have lp8 := rQp8.lt
      have lq8 := rQq.lt
      have ii := Nat.mul_le_mul (show i ≤ 16 by omega) (show i ≤ 16 by omega)
      have mm' := Nat.mul_le_mul (show m ≤ 16 by omega) (show m ≤ 16 by omega)
      have qq' := Nat.mul_le_mul (show nm ≤ 16 by omega) (show nm ≤ 16 by omega)
      clear hmq hb8 rB7 rQo7 rQp hBr7 q1
      go_wp2_with fail
      have hb8' := Below.refl w8.heap.size w8
      clear c0 c1 d0 d1 q0
      clear hwo hwp hTW hle0
      have hMW : ∀ (k l : Nat), k < nm → l < nm → bd Qq (k * nm + l) = bd Qo (k / m * i + l / m) * bd Qp (k % m * m + l % m) := fun k l h1 h2 => hmu k h1 l h2
      clear hmu
      go_loopw [16] (fun x wr => ∃ k : Nat, k ≤ nm ∧ x = .int .i64 k ∧ Below w8.heap.size w8 wr) (fun x _ => nm - (intOf x).toNat)
      case atStart => exact ⟨0, Nat.zero_le _, rfl, hb8'⟩
      case round =>
        obtain ⟨k, hk, rfl, hbx⟩ := hrel
        have rBx := row_below rB8 hbx lB8
        have q0 := rBx.cell (i := 0) rfl
        have hBx := hBr8.trans (hbx.mono hBr8.size)
        by_cases hkl : k < nm
        · go_wp2_with fail
          go_loopw [17] (fun x wr => ∃ l : Nat, l ≤ nm ∧ x = .int .i64 l ∧ Below w8.heap.size w8 wr) (fun x _ => nm - (intOf x).toNat)
          case atStart => exact ⟨0, Nat.zero_le _, rfl, hbx⟩
          case round =>
            clear hbx rBx q0 hBx
            obtain ⟨l, hl, rfl, hbx⟩ := hrel
            have rBx := row_below rB8 hbx lB8
            have q0 := rBx.cell (i := 0) rfl
            have hBx := hBr8.trans (hbx.mono hBr8.size)
            by_cases hll : l < nm
            · obtain ⟨c0, c1, d0, d1⟩ := hall _ hBx
              obtain ⟨kd, kr, ld, lr, y1, y2, y3, x1, x2, x3, vq, vo, vp, z1, z2, z3, z4, z5, z6, z7, z8, z9, z10, z11, z12, z13, z14, z15, z16, hM, hmulw, hmul2⟩ := prod_pack (show i ≤ 16 by omega) (show m ≤ 16 by omega) (show nm ≤ 16 by omega) hkl hll hdm (hMW k l hkl hll) lo lp lq (row_below rQq hbx lq8) (row_below rQo8 hbx lo8) (row_below rQp8 hbx lp8)
              have kq := cell_regrown z14
              have ko := cell_regrown z15
              have kp := cell_regrown z16
              have h0 := cell_regrown c0
              have g0 := cell_regrown d0
              have hq0 := cell_regrown q0
              clear hMW hall hdm c0 c1 d0 d1 rBx hBx z14 z15 z16
              go_wp2_with fail
              refine wp_region_quiet_below (by kernel_rfl) (by kernel_rfl) ?_
              repeat (go_big_quiet_step (fail))
              refine wpQuiet_nil ?_
              intro _ hw'
              obtain ⟨⟨dq, osq⟩, hw''⟩ := hw'
              subst hw''
              have hbk := hbx.trans ((below_regrown wr dq osq).mono hbx.size)
              clear h0 g0 hq0 kq ko kp q0
              go_wp2_with fail
              exact ⟨⟨l + 1, by omega, by go_num, hbk⟩, by simp [intOf]; omega⟩
            · obtain rfl : l = nm := by omega
              go_wp2_with fail
              exact ⟨⟨k + 1, by omega, by go_num, hbx⟩, by simp [intOf]; omega⟩
        · obtain rfl : k = nm := by omega
          go_wp2_with fail
          go_ret
          exact ⟨rfl, hB0.trans (hBx.mono (by omega))⟩

/-- **MobiusProducts answers true, for any two orders, and writes nothing that was there** -/
theorem mprod_any (n : Int) (a : Option Addr) (ca : Nat) (us : List Nat) (m : Int) (b : Option Addr) (cb : Nat) (ps : List Nat) (n₀ : Nat) (hf : Fit us) (hf' : Fit ps) (w : World) (hT : TabAt w) (hw : IsWords n₀ w a us) (hw' : IsWords n₀ w b ps) (hg : 0 < n₀) (hn₀ : n₀ ≤ w.heap.size) :
    Calls Tryd.prog 7 #[.agg #[.int .i64 n, .slice a us.length ca], .agg #[.int .i64 m, .slice b ps.length cb]] w fun e w' => e = .returned (.bool true) ∧ Below w.heap.size w w' := by
  by_cases h : codeOf n us = 0 ∧ codeOf m ps = 0 ∧ n * m ≤ 16
  · obtain ⟨hc, hc', hle⟩ := h
    obtain rfl := (code_zero hc).2.2.1
    obtain rfl := (code_zero hc').2.2.1
    exact mprod_in us.length ps.length a b ca cb us ps n₀ rfl rfl hf hf' w hT hw hw' hg hn₀ hc hc' (by rw [← Int.natCast_mul] at hle; omega)
  · refine mprod_out n m a b ca cb us ps n₀ hf hf' w hT hw hw' hg hn₀ fun hc hc' => ?_
    have h1 := code_zero hc
    have h2 := code_zero hc'
    exact ⟨⟨h1.1, h1.2.1⟩, ⟨h2.1, h2.2.1⟩, by
      apply Int.lt_of_not_ge
      intro hle
      exact h ⟨hc, hc', hle⟩⟩
end Go.Proofs.YtekpielpfegclabDoor
