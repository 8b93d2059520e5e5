/- Of a front: for each of the list there is one that is Leq to it; a front of what may be may be, and is its own front. -/
import Derived.Test.YtbnjbnjgfjpegaaSumFrontAny
import Derived.Test.YtbnjbnjgfjpegaaTimMore
namespace Go.Proofs.Ytbnjbnjgfjpegaa
open Go.RowKit Go.Shelf

theorem FrontG.cov {α : Type} {ok : α → Prop} {lt le : α → α → Prop} (T : Fronts ok lt le) {ls F : List α} (ho : ∀ t ∈ ls, ok t) (hF : FrontG lt le ls F) : ∀ u ∈ ls, ∃ g ∈ F, le g u := by
  classical
  have key : ∀ (m : Nat) (u : α), u ∈ ls → (ls.filter fun v => decide (lt v u)).length ≤ m → ∃ g ∈ F, le g u := fun m => by
    induction m with
    | zero =>
      intro u hu hm
      refine ⟨u, (hF.mem u).2 ⟨hu, fun v hv hle => ?_⟩, T.refl (ho u hu)⟩
      apply Classical.byContradiction
      intro hne
      have h2 : v ∈ ls.filter fun v => decide (lt v u) := List.mem_filter.2 ⟨hv, by simpa using T.stands (ho v hv) (ho u hu) hle hne⟩
      have := List.length_pos_of_mem h2
      omega
    | succ m ih =>
      intro u hu hm
      by_cases hmin : ∀ v ∈ ls, le v u → v = u
      · exact ⟨u, (hF.mem u).2 ⟨hu, hmin⟩, T.refl (ho u hu)⟩
      · obtain ⟨v, hv⟩ := Classical.not_forall.1 hmin
        obtain ⟨hvl, hv'⟩ := Classical.not_imp.1 hv
        obtain ⟨hle, hne⟩ := Classical.not_imp.1 hv'
        have hlex := T.stands (ho v hvl) (ho u hu) hle hne
        have hlt := filter_lt (fun x => decide (lt x v)) (fun x => decide (lt x u)) ls (fun x hx h => by
          have h' : lt x v := of_decide_eq_true h
          exact decide_eq_true (T.trans (ho x hx) (ho v hvl) (ho u hu) h' hlex)) ⟨v, hvl, decide_eq_true hlex, decide_eq_false (T.irrefl (ho v hvl))⟩
        obtain ⟨g, hg, h1⟩ := ih v hvl (by omega)
        exact ⟨g, hg, T.ltrans (ho g (hF.sub g hg)) (ho v hvl) (ho u hu) h1 hle⟩
  exact fun u hu => key _ u hu (Nat.le_refl _)
theorem okS_all {L : List Su} (h : codeM (sl L) = 0) : ∃ n, ∀ t ∈ sl L, OkS n t := by
  obtain ⟨n, hn⟩ := okS_list h
  exact ⟨n, fun t ht => by obtain ⟨i, hi, rfl⟩ := mem_sl.1 ht; exact hn i hi⟩
/-- a front of what may be may be -/
theorem frontM_code {L S : List Su} (hc : codeM (sl L) = 0) (hF : FrontG AheadS LeS (sl L) (sl S)) : codeM (sl S) = 0 := by
  classical
  obtain ⟨n, hok⟩ := okS_all hc
  obtain ⟨h1, h2, _⟩ := codeM_zero hc
  have hn := hF.nodup (fronts_sum n) hok
  have hl := nodup_lenG hn hF.sub
  refine codeM_ok (by omega) (firstM_ok fun t ht => h2 t (hF.sub t ht)) (outsB_true.2 fun t ht => ?_)
  have ht' := (hok t (hF.sub t ht)).2
  cases hS : sl S with
  | nil => rw [hS] at ht; simp at ht
  | cons s l => rw [ht', ← (hok s (hF.sub s (by rw [hS]; simp))).2]; rfl
/-- and it is its own front -/
theorem frontM_same {L S G : List Su} (hc : codeM (sl L) = 0) (hF : FrontG AheadS LeS (sl L) (sl S)) (hG : FrontG AheadS LeS (sl S) (sl G)) : sl S = sl G := by
  obtain ⟨n, hok⟩ := okS_all hc
  exact FrontG.unique (fronts_sum n) (fun t ht => hok t (hF.sub t ht)) hF.idem hG
theorem frontM_cov {L S : List Su} (hc : codeM (sl L) = 0) (hF : FrontG AheadS LeS (sl L) (sl S)) {i : Nat} (hi : i < L.length) : ∃ j, j < S.length ∧ leqM (nthU S j).sm (nthU L i).sm = true := by
  obtain ⟨n, hok⟩ := okS_all hc
  obtain ⟨g, hg, h⟩ := FrontG.cov (fronts_sum n) hok hF _ (mem_sl.2 ⟨i, hi, rfl⟩)
  obtain ⟨j, hj, rfl⟩ := mem_sl.1 hg
  exact ⟨j, hj, h⟩
theorem frontM_apart {L S : List Su} (hc : codeM (sl L) = 0) (hF : FrontG AheadS LeS (sl L) (sl S)) {i j : Nat} (hi : i < S.length) (hj : j < S.length) (hne : i ≠ j) : leqM (nthU S i).sm (nthU S j).sm = false := by
  obtain ⟨n, hok⟩ := okS_all hc
  rw [Bool.eq_false_iff]
  intro h
  have e := hF.apart (mem_sl.2 ⟨i, hi, rfl⟩) (mem_sl.2 ⟨j, hj, rfl⟩) h
  have hn := hF.nodup (fronts_sum n) hok
  rw [← sl_at hi, ← sl_at hj] at e
  exact hne ((List.getElem_inj hn).1 e)
end Go.Proofs.Ytbnjbnjgfjpegaa
