/- Package mobius: isTable; the document's Table. -/
import Derived.Test.YtekpielpfegclabDoorMobZeta
import Derived.Lib.QuietBelow
namespace Go.Proofs.YtekpielpfegclabDoor
open Go.RowKit Go.Shelf

/-- is a list a table of the order? -/
def IsTab (us : List Nat) (l : List B64) : Prop := l.length = us.length * us.length ∧ Tab us (mat us.length l)
def tabB (us : List Nat) (l : List B64) : Bool := decide (l.length = us.length * us.length) && (List.range us.length).all fun a => (List.range us.length).all fun b => hasB (wd us a) b || decide (mat us.length l a b = 0)
theorem tabB_true {us : List Nat} {l : List B64} : tabB us l = true ↔ IsTab us l := by
  unfold tabB IsTab Tab
  rw [Bool.and_eq_true, decide_eq_true_iff, List.all_eq_true]
  constructor
  · rintro ⟨h1, h2⟩
    refine ⟨h1, fun a ha b hb hno => ?_⟩
    have := List.all_eq_true.1 (h2 a (List.mem_range.2 ha)) b (List.mem_range.2 hb)
    rw [Bool.or_eq_true, decide_eq_true_iff] at this
    exact this.resolve_left hno
  · rintro ⟨h1, h2⟩
    refine ⟨h1, fun a ha => List.all_eq_true.2 fun b hb => ?_⟩
    rw [Bool.or_eq_true, decide_eq_true_iff]
    by_cases h : leW us a b
    · exact .inl h
    · exact .inr (h2 a (List.mem_range.1 ha) b (List.mem_range.1 hb) h)
theorem tabB_false {us : List Nat} {l : List B64} : tabB us l = false ↔ ¬ IsTab us l := by rw [← tabB_true]; cases tabB us l <;> simp
theorem mbelow_re (n : Int) (a : Option Addr) (cap : Nat) (us : List Nat) (n₀ : Nat) (hf : Fit us) (hl : us.length ≤ 16) (W : World) (hw : IsWords n₀ W a us) (hn₀ : n₀ ≤ W.heap.size) (x y : Nat) (r : Bool) (hx : x < us.length) (hy : y < us.length) (hr : hasB (wd us x) y = r) (d : Nat) (os : Array Obj) :
    Calls Tryd.prog 41 #[.agg #[.int .i64 n, .slice a us.length cap], .int .i64 x, .int .i64 y] (Go.Sort.grow (redrawn W d) os) fun e w'' => e = .returned (.bool r) ∧ ∃ p : Regrown, w'' = Go.Sort.grow (redrawn W p.d) p.os := by
  subst hr
  exact Calls.regrown_of (mbelow_any n a cap us x y n₀ hf hx (by omega) (Go.Sort.grow (redrawn W d) os) (hw.below ((below_regrown W d os).mono hn₀)) (by have := (below_regrown W d os).size; omega))

set_option maxRecDepth 100000 in
set_option maxHeartbeats 4000000 in
theorem isTable_any (n : Nat) (a : Option Addr) (cap : Nat) (us : List Nat) (af : Option Addr) (cf : Nat) (l : List B64) (n₀ : Nat) (hn : n = us.length) (hf : Fit us) (hl : n ≤ 16) (w : World) (hw : IsWords n₀ w a us) (hv : ZInts n₀ w af (tiL l)) (hn₀ : n₀ ≤ w.heap.size) :
    Calls Tryd.prog 24 #[.agg #[.int .i64 n, .slice a n cap], .slice af l.length cf] w fun e w' => e = .returned (.bool (tabB us l)) ∧ Below w.heap.size w w' := by
  have h2 : n * n ≤ 256 := Nat.mul_le_mul hl hl
  have hF : ¬ IsTab us l → tabB us l = false := tabB_false.2
  have hT : IsTab us l → tabB us l = true := tabB_true.2
  have hbel := fun (W : World) (hW : IsWords n₀ W a us) (hs : n₀ ≤ W.heap.size) x y r (hx : x < n) (hy : y < n) => mbelow_re n a cap us n₀ hf (by omega) W hW hs x y r (by omega) (by omega)
  rw [← hn] at hbel
  unfold IsTab at hF hT
  rw [← hn] at hF hT
  have hTab : Tab us (mat n l) ↔ ∀ i, i < n * n → bd l i ≠ 0 → hasB (wd us (i / n)) (i % n) = true := by
    unfold Tab
    rw [← hn]
    constructor
    · intro h i hi hne
      have hn0 : 0 < n := by
        cases n with
        | zero => simp at hi
        | succ _ => omega
      apply Classical.byContradiction
      intro hno
      apply hne
      have := h (i / n) ((Nat.div_lt_iff_lt_mul hn0).2 hi) (i % n) (Nat.mod_lt _ hn0) (by unfold leW; exact hno)
      unfold mat at this
      rwa [Nat.div_add_mod' i n] at this
    · intro h x hx y hy hno
      apply Classical.byContradiction
      intro hne
      have := h (x * n + y) (plc_lt hx hy) hne
      rw [pair_div hy, pair_mod hy] at this
      exact hno this
  rw [hTab] at hF hT
  clear hTab
  obtain ⟨r0, hb0, hs0⟩ := one_row w 24 (.int .i64 n) (.slice a n cap) rfl
  have hz : (n : Int) * (n : Int) = ((n * n : Nat) : Int) := by push_cast; rfl
  have hwz : wrap64 ((n : Int) * (n : Int)) = ((n * n : Nat) : Int) := by rw [hz, IntWalk.wrap64_in _ (by omega)]
  have lt0 := r0.lt
  generalize tabB us l = R at *
  clear hn
  by_cases hlen : l.length = n * n
  · have HF := hide hF
    have HT := hide hT
    have HL := hide hlen
    have hd : ((l.length : Int) != wrap64 ((n : Int) * (n : Int))) = false := by rw [hwz, hlen]; simp
    clear hF hT hz hwz
    go_enter Tryd.func24, Tryd.ntmps24
    go_wp2
    go_loopw [17] (fun i wr => ∃ k : Nat, k ≤ n * n ∧ i = .int .i64 k ∧ Below (w.heap.size + 1) (w.alloc (.cells #[.int .i64 n, .slice a n cap] 24)) wr ∧ ∀ i, i < k → bd l i ≠ 0 → hasB (wd us (i / n)) (i % n) = true) (fun i _ => n * n - (intOf i).toNat)
    case atStart => exact ⟨0, Nat.zero_le _, rfl, Below.refl _ _, fun i hi => absurd hi (Nat.not_lt_zero _)⟩
    case round =>
      obtain ⟨k, hk, rfl, hB, hK⟩ := hrel
      have hBs := hB.size
      rw [hs0] at hBs
      have q0 := row_below r0 hB (by omega)
      have hww := (hw.below (hb0.mono hn₀)).below (hB.mono (by omega))
      by_cases hlt : k < n * n
      · obtain ⟨b, off, rfl, hb, hc⟩ := hv.cellsB (i := k) (by omega)
        have hck := (hB.cell (p := ⟨b, off + k, none⟩) (by simp; omega)).trans ((hb0.cell (p := ⟨b, off + k, none⟩) (by simp; omega)).trans (hc k (by omega)))
        have hn0 : 0 < n := by
          cases n with
          | zero => simp at hlt
          | succ _ => omega
        have hdv : k / n < n := (Nat.div_lt_iff_lt_mul hn0).2 hlt
        have hmd : k % n < n := Nat.mod_lt _ hn0
        have g0 := cell_regrown (q0.cell (i := 0) rfl)
        have g1 := cell_regrown (q0.cell (i := 1) rfl)
        have c1 := fun r hr => hbel wr hww (by omega) (k / n) (k % n) r hdv hmd hr
        simp only [Int.natCast_ediv, Int.natCast_emod] at c1
        have hq1 : wrap64 ((k : Int) / (n : Int)) = (k : Int) / (n : Int) := by have := Int.natCast_nonneg (k / n); rw [← Int.natCast_ediv, IntWalk.wrap64_in _ (by omega)]
        have hq2 : wrap64 ((k : Int) % (n : Int)) = (k : Int) % (n : Int) := by have := Int.natCast_nonneg (k % n); rw [← Int.natCast_emod, IntWalk.wrap64_in _ (by omega)]
        have HC := hide hc
        clear hc
        by_cases hz : bd l k = 0
        · have hd2 : ((bd l k).toInt != 0) = false := by rw [hz]; rfl
          have HK := hide hK
          have HZ := hide hz
          clear hK hz c1
          generalize (bd l k).toInt = x at *
          go_wp2
          refine wp_region_quiet_below (by kernel_rfl) (by kernel_rfl) ?_
          repeat (go_big_quiet_step (fail))
          refine wpQuiet_nil ?_
          intro _ hw'
          obtain ⟨⟨dq, osq⟩, hw''⟩ := hw'
          subst hw''
          go_wp2
          go_roundw
          case rel => exact ⟨k + 1, by omega, by go_num, hB.trans ((below_regrown _ dq osq).mono (by omega)), fun i hi hne => by
            by_cases e : i = k
            · subst e; exact absurd HZ.out hne
            · exact HK.out i (by omega) hne⟩
          case measure => simp [intOf]; omega
        · have hd2 : ((bd l k).toInt != 0) = true := by
            rw [bne_iff_ne]; intro h; exact hz (toInt_eq.1 (h.trans toInt_zero.symm))
          cases hh : hasB (wd us (k / n)) (k % n) with
          | true =>
            have c1 := c1 true hh
            have HK := hide hK
            have HH := hide hh
            clear hK hz hh
            generalize (bd l k).toInt = x at *
            go_wp2
            refine wp_region_quiet_below (by kernel_rfl) (by kernel_rfl) ?_
            repeat (go_big_quiet_step (first | with_reducible exact c1 _ _))
            refine wpQuiet_nil ?_
            intro _ hw'
            obtain ⟨⟨dq, osq⟩, hw''⟩ := hw'
            subst hw''
            go_wp2
            go_roundw
            case rel => exact ⟨k + 1, by omega, by go_num, hB.trans ((below_regrown _ dq osq).mono (by omega)), fun i hi hne => by
              by_cases e : i = k
              · subst e; exact HH.out
              · exact HK.out i (by omega) hne⟩
            case measure => simp [intOf]; omega
          | false =>
            have c1 := c1 false hh
            have HR := hide (HF.out fun h => by
              have := h.2 k hlt hz
              rw [hh] at this; cases this)
            clear hK hz hh
            generalize (bd l k).toInt = x at *
            go_wp2
            refine wp_region_quiet_below (by kernel_rfl) (by kernel_rfl) ?_
            repeat (go_big_quiet_step (first | with_reducible exact c1 _ _))
            refine wpQuiet_nil ?_
            intro _ hw'
            obtain ⟨⟨dq, osq⟩, hw''⟩ := hw'
            subst hw''
            go_wp2
            go_ret
            exact ⟨ret_bool HR.out.symm, (hb0.trans (hB.mono (by omega))).trans ((below_regrown _ dq osq).mono (by omega))⟩
      · obtain rfl : k = n * n := by omega
        have HR := hide (HT.out ⟨HL.out, hK⟩)
        clear hK
        go_wp2
        go_ret
        exact ⟨ret_bool HR.out.symm, hb0.trans (hB.mono (by omega))⟩
  · have HR := hide (hF fun h => hlen h.1)
    have hd : ((l.length : Int) != (n : Int) * (n : Int)) = true := by
      rw [hz, bne_iff_ne]; intro h; exact hlen (by exact_mod_cast h)
    clear hF hT hz hwz hlen
    go_enter Tryd.func24, Tryd.ntmps24
    go_wp2
    go_ret
    exact ⟨ret_bool HR.out.symm, hb0⟩
end Go.Proofs.YtekpielpfegclabDoor
