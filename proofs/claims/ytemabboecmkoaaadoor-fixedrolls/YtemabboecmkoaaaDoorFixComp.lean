/- One map behind another one: the contract of watershedkeep's composed, and what stays by it. -/
import Derived.Test.YtemabboecmkoaaaDoorFixMore
namespace Go.Proofs.YtemabboecmkoaaaDoor
open Go.RowKit Go.Shelf

/-- one map behind another one -/
def compN (fs gs : List Nat) : List Nat := gs.map (wd fs)
theorem compN_len (fs gs : List Nat) : (compN fs gs).length = gs.length := by unfold compN; simp
theorem wd_compN {fs gs : List Nat} {i : Nat} (h : i < gs.length) : wd (compN fs gs) i = wd fs (wd gs i) := by
  unfold compN
  rw [show wd (gs.map (wd fs)) i = wd fs (wd gs i) from ?_]
  generalize hF : wd fs = F
  unfold wd
  simp [List.getD_eq_getElem?_getD, List.getElem?_map, List.getElem?_eq_getElem h]
theorem compN_take (fs gs : List Nat) {k : Nat} (h : k < gs.length) : compN fs (gs.take (k + 1)) = compN fs (gs.take k) ++ [wd fs (wd gs k)] := by
  unfold compN
  rw [List.take_succ_eq_append_getElem h, List.map_append]
  congr 1
  simp [wd, List.getD_eq_getElem?_getD, List.getElem?_eq_getElem h]
theorem mapN_toZ (l : List Nat) : mapN (toZ l) = l := by
  unfold mapN toZ
  rw [List.map_map]
  conv => rhs; rw [← List.map_id l]
  apply List.map_congr_left
  intro x _
  simp
theorem comp_map {n : Nat} {fs gs : List Nat} (h1 : IsMap n n fs) (h2 : IsMap n n gs) : IsMap n n (compN fs gs) :=
  ⟨by rw [compN_len]; exact h2.len, fun i hi => by rw [wd_compN (by rw [h2.len]; exact hi)]; exact h1.lt _ (h2.lt i hi)⟩
theorem comp_mono {us fs gs : List Nat} (h1 : Mono us fs) (h2 : IsMap us.length us.length gs) (m2 : Mono us gs) : Mono us (compN fs gs) := fun a ha b hb h => by
  rw [wd_compN (by rw [h2.len]; exact ha), wd_compN (by rw [h2.len]; exact hb)]
  exact h1 _ (h2.lt a ha) _ (h2.lt b hb) (m2 a ha b hb h)
theorem map_code {us fs : List Nat} (h1 : IsMap us.length us.length fs) (h2 : Mono us fs) : mapCode us (toZ fs) = 0 :=
  mapCode_ok (intoB_true.2 ⟨by rw [toZ_len]; exact h1.len, fun i hi => by
    rw [toZ_len] at hi
    rw [zd_toZ hi]
    have := h1.lt i (by rw [← h1.len]; exact hi)
    omega⟩) (monoB_true.2 (by rw [mapN_toZ]; exact h2))
/-- the one makes of what the other behind it comes to, what it behind the other comes to -/
theorem rolls {us fs gs : List Nat} (ho : IsOrd us) (h1 : IsMap us.length us.length fs) (m1 : Mono us fs) (h2 : IsMap us.length us.length gs) (m2 : Mono us gs) {b c x y K M : Nat} (hb : IsBot us b) (hc : IsBot us c) (hx : ComesTo (compN fs gs) b x K) (hy : ComesTo (compN gs fs) c y M) (lx : x < us.length) (ly : y < us.length) : x = wd fs y := by
  have e1 := hx.stay
  have e2 := hy.stay
  rw [wd_compN (by rw [h2.len]; exact lx)] at e1
  rw [wd_compN (by rw [h1.len]; exact ly)] at e2
  have lf := h1.lt y ly
  have lg := h2.lt x lx
  have a1 : leW us x (wd fs y) := ends_down ho (comp_map h1 h2) (comp_mono m1 h2 m2) hb hx lf (by rw [wd_compN (by rw [h2.len]; exact lf), e2]; exact leW_refl ho lf)
  have a2 : leW us y (wd gs x) := ends_down ho (comp_map h2 h1) (comp_mono m2 h1 m1) hc hy lg (by rw [wd_compN (by rw [h1.len]; exact lg), e1]; exact leW_refl ho lg)
  have a3 : leW us (wd fs y) (wd fs (wd gs x)) := m1 _ ly _ lg a2
  rw [e1] at a3
  exact leW_anti ho lx lf a1 a3

set_option maxRecDepth 100000 in
set_option maxHeartbeats 1000000 in
theorem composed_any (ag : Option Addr) (cg : Nat) (fs : List Nat) (ah : Option Addr) (ch : Nat) (gs : List Nat) (n₀ : Nat) (hl : gs.length ≤ 16) (hin : ∀ i, i < gs.length → wd gs i < fs.length) (w : World) (hw : IsInts n₀ w ag fs) (hv : IsInts n₀ w ah gs) (hn₀ : n₀ ≤ w.heap.size) :
    Calls Tryd.prog 20 #[.slice ag fs.length cg, .slice ah gs.length ch] w fun e w' => ∃ av cv, e = .returned (.slice av gs.length cv) ∧ Below w.heap.size w w' ∧ w'.ownsRow w.heap.size 3 1 (.slice av gs.length cv) gs.length (ivals (compN fs gs)) := by
  obtain ⟨i0, hi, hz0, hz1, hz2⟩ := info_parts info_int
  go_enter Tryd.func20, Tryd.ntmps20
  go_wp2
  go_loopw [5, 10] (fun ls i wr => ∃ (k : Nat) (av : Option Addr) (cv : Nat), k ≤ gs.length ∧ i = .int .i64 k ∧ ls = .slice av k cv ∧ Below w.heap.size w wr ∧ wr.ownsRow w.heap.size 3 1 (.slice av k cv) k (ivals (compN fs (gs.take k)))) (fun _ i _ => gs.length - (intOf i).toNat)
  case atStart => exact ⟨0, none, 0, Nat.zero_le _, rfl, rfl, Below.refl _ _, World.ownsRow_nil ..⟩
  case round =>
    obtain ⟨k, av, cv, hk, rfl, rfl, hB, hown⟩ := hrel
    by_cases hlt : k < gs.length
    · obtain ⟨b, off, rfl, hb, hcc⟩ := (hv.below (hB.mono hn₀)).at hlt
      have hck := hcc k hlt
      have hgk := hin k hlt
      obtain ⟨b2, off2, rfl, hb2, hcc2⟩ := (hw.below (hB.mono hn₀)).at hgk
      have hck2 := hcc2 _ hgk
      have HS := hide (compN_take fs gs hlt)
      have hbsz := hB.size
      clear hcc hcc2 hin
      generalize compN fs (gs.take k) = S at *
      generalize wd gs k = x at *
      generalize wd fs x = y at *
      go_wp2_with (at_builtin; refine wpList_append_own _ rfl _ _ 25 rfl w.heap.size 3 i0 (.int .i64 0) 1 8 Tryd.underlying25 hi hz0 hz1 hz2 rfl (by decide) _ _ _ rfl (hown.alloc _) ⟨wr.heap.size, 0, none⟩ 1 1 [.int .i64 (y : Nat)] rfl rfl (cell_one_new _ _ _) (fun u hu => by simp at hu; subst hu; rfl) (by unfold maxLen; omega) (by omega) (by simp; omega) ?_; intro v' w3 hown3 hgrow3 _; obtain ⟨g', cap', rfl⟩ := ownsRow_succ hown3)
      have hB3 : Below w.heap.size w w3 := (hB.alloc hbsz (.cells #[.int .i64 (y : Nat)] 3)).grown hgrow3 (by simp; omega) fun q eq => by
        apply Nat.le_of_not_lt; intro hql
        exact ownBlock_ge hown (b := q) hql eq.symm
      refine ⟨⟨k + 1, some ⟨g', 0, none⟩, cap', by omega, by go_num, rfl, hB3, ?_⟩, by simp [intOf]; omega⟩
      rw [HS.out, ivals_snoc]
      exact hown3
    · obtain rfl : k = gs.length := by omega
      rw [List.take_length] at hown
      go_wp2
      go_ret
      exact ⟨av, cv, rfl, hB, hown⟩
end Go.Proofs.YtemabboecmkoaaaDoor
