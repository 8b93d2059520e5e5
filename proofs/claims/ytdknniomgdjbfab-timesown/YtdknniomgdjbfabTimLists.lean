/- The contract of the document's Lists: are two lists of lists of numbers the same? -/
import Derived.Test.YtdknniomgdjbfabTimOpen
namespace Go.Proofs.Ytdknniomgdjbfab
open Go.RowKit Go.Shelf

def sameL (L M : List Sl) : Bool := decide (zl L = zl M)
theorem sameL_true {L M : List Sl} : sameL L M = true ↔ zl L = zl M := by unfold sameL; exact decide_eq_true_iff
theorem sameL_false {L M : List Sl} : sameL L M = false ↔ zl L ≠ zl M := by unfold sameL; exact decide_eq_false_iff_not
theorem zl_ext {L M : List Sl} (hl : L.length = M.length) (h : ∀ i, i < L.length → (nth L i).zs = (nth M i).zs) : zl L = zl M := by
  apply List.ext_getElem (by rw [zl_len, zl_len]; exact hl)
  intro i h1 h2
  rw [zl_len] at h1 h2
  rw [zl_at h1, zl_at h2]
  exact h i h1
theorem zl_ne {L M : List Sl} {i : Nat} (hi : i < L.length) (hi2 : i < M.length) (h : (nth L i).zs ≠ (nth M i).zs) : zl L ≠ zl M := fun e => h (by
  have h1 := zl_at hi
  have h2 := zl_at hi2
  rw [← h1, ← h2]
  simp only [e])

set_option maxRecDepth 100000 in
set_option maxHeartbeats 2000000 in
theorem Lists_any (a : Option Addr) (ca : Nat) (L : List Sl) (b : Option Addr) (cb : Nat) (M : List Sl) (n₀ : Nat) (h63 : L.length ≤ 9223372036854775807) (w : World) (hL : ZLists n₀ w a L) (hM : ZLists n₀ w b M) (hn₀ : n₀ ≤ w.heap.size) :
    Calls Try.prog 5 #[.slice a L.length ca, .slice b M.length cb] w fun e w' => e = .returned (.bool (sameL L M)) ∧ Below w.heap.size w w' := by
  by_cases hl : L.length = M.length
  · have HL := hide hl
    have d0 : ((L.length : Int) != (M.length : Int)) = false := by rw [bne_eq_false_iff_eq]; omega
    clear hl
    go_enter Try.func5, Try.ntmps5
    go_wp2_with fail
    go_loopw [5] (fun i wr => ∃ k : Nat, k ≤ L.length ∧ i = .int .i64 k ∧ Below w.heap.size w wr ∧ Hid (∀ j, j < k → (nth L j).zs = (nth M j).zs)) (fun i _ => L.length - (intOf i).toNat)
    case atStart => exact ⟨0, Nat.zero_le _, rfl, Below.refl _ _, hide fun j hj => by omega⟩
    case round =>
      obtain ⟨k, hk, rfl, hB, HS⟩ := hrel
      by_cases hlt : k < L.length
      · have hlt2 : k < M.length := by have := HL.out; omega
        obtain ⟨bl, ol, rfl, hbl, hcl⟩ := (hL.outer.below (hB.mono hn₀)).at hlt
        obtain ⟨bm, om, rfl, hbm, hcm⟩ := (hM.outer.below (hB.mono hn₀)).at hlt2
        have ck := hcl k hlt
        have dk := hcm k hlt2
        obtain ⟨iz, il⟩ := hL.inner k hlt
        obtain ⟨jz, jl⟩ := hM.inner k hlt2
        have HN := hide (show ∀ s t, nth L k = s → nth M k = t → s.zs ≠ t.zs → sameL L M = false from fun s t e1 e2 h => sameL_false.2 (zl_ne hlt hlt2 (by rw [e1, e2]; exact h)))
        have HU := hide (show ∀ s t, nth L k = s → nth M k = t → s.zs = t.zs → ∀ j, j < k + 1 → (nth L j).zs = (nth M j).zs from fun s t e1 e2 h j hj => by
          by_cases ej : j = k
          · rw [ej, e1, e2]; exact h
          · exact HS.out j (by omega))
        obtain ⟨s, es⟩ : ∃ s, nth L k = s := ⟨_, rfl⟩
        obtain ⟨t, et⟩ : ∃ t, nth M k = t := ⟨_, rfl⟩
        have HN' := hide (HN.out s t es et)
        have HU' := hide (HU.out s t es et)
        rw [es] at ck iz il
        rw [et] at dk jz jl
        clear hcl hcm es et HN HU
        obtain ⟨ax, cs, zs⟩ := s
        obtain ⟨ay, ct, ys⟩ := t
        unfold slv at ck dk
        dsimp only at ck dk iz il jz jl HN' HU'
        have hsr := hB.size
        have hcall : ∀ d os, Calls Try.prog 8 #[.slice ax zs.length cs, .slice ay ys.length ct] (Go.Sort.grow (redrawn wr d) os) fun e w'' => e = .returned (.bool (sameB zs ys)) ∧ ∃ p : Regrown, w'' = Go.Sort.grow (redrawn wr p.d) p.os := fun d os => Calls.regrown_of
          (rtsame_any ax cs zs ay ct ys n₀ il (Go.Sort.grow (redrawn wr d) os) ((iz.below (hB.mono hn₀)).below ((below_regrown wr d os).mono (by omega))) ((jz.below (hB.mono hn₀)).below ((below_regrown wr d os).mono (by omega))) (by have := (below_regrown wr d os).size; omega))
        have k0 := cell_regrown ck
        have k1 := cell_regrown dk
        cases hu : sameB zs ys with
        | true =>
          have HF := hide (HU'.out (sameB_true.1 hu))
          rw [hu] at hcall
          clear hu ck dk HN' HU'
          go_wp2_with fail
          refine wp_region_quiet_below (by kernel_rfl) (by kernel_rfl) ?_
          repeat (go_big_quiet_step (with_reducible exact hcall _ _))
          refine wpQuiet_nil ?_
          intro _ hw'
          obtain ⟨⟨dq, osq⟩, hw''⟩ := hw'
          subst hw''
          go_wp2_with fail
          go_roundw
          case rel => exact ⟨k + 1, by omega, by go_num, hB.trans ((below_regrown _ dq osq).mono hsr), HF⟩
          case measure => simp [intOf]; omega
        | false =>
          have HF := hide (HN'.out (sameB_false.1 hu))
          rw [hu] at hcall
          clear hu ck dk HN' HU'
          go_wp2_with fail
          refine wp_region_quiet_below (by kernel_rfl) (by kernel_rfl) ?_
          repeat (go_big_quiet_step (with_reducible exact hcall _ _))
          refine wpQuiet_nil ?_
          intro _ hw'
          obtain ⟨⟨dq, osq⟩, hw''⟩ := hw'
          subst hw''
          go_wp2_with fail
          go_ret
          exact ⟨ret_bool HF.out.symm, hB.trans ((below_regrown _ dq osq).mono hsr)⟩
      · have HF := hide (sameL_true.2 (zl_ext HL.out fun i hi => HS.out i (by omega)))
        go_wp2_with fail
        go_ret
        exact ⟨ret_bool HF.out.symm, hB⟩
  · have HF := hide (sameL_false.2 (show zl L ≠ zl M from fun e => hl (by rw [← zl_len, ← zl_len, e])))
    have d0 : ((L.length : Int) != (M.length : Int)) = true := by rw [bne_iff_ne]; omega
    clear hl
    go_enter Try.func5, Try.ntmps5
    go_wp2_with fail
    go_ret
    exact ⟨ret_bool HF.out.symm, Below.refl _ _⟩
end Go.Proofs.Ytdknniomgdjbfab
