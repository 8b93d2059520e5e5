/- Plain mathematics of how many down-sets there are: as many as of the dual, and more than elements. -/
import Derived.Test.YtjbfjdijgfhjfaaDoorTellPlain
import Derived.Test.YtjbfjdijgfhjfaaDoorDualPlain
namespace Go.Proofs.YtjbfjdijgfhjfaaDoor

/-- what is not in a set of n elements -/
def restW (n s : Nat) : Nat := andN (allW n) s
theorem hasB_rest {n : Nat} (hn : n ≤ 16) (s j : Nat) : hasB (restW n s) j = (decide (j < n) && !hasB s j) := by
  unfold restW; rw [hasB_andN (allW_lt (by omega)), hasB_all]
theorem rest_rest {n s : Nat} (hn : n ≤ 16) (hs : Only n s) : restW n (restW n s) = s := word_ext fun j => by
  rw [hasB_rest hn, hasB_rest hn]
  by_cases h : j < n
  · simp [h]
  · have : hasB s j = false := by
      cases e : hasB s j with
      | false => rfl
      | true => exact absurd (hs j e) h
    simp [h, this]
theorem only_rest {n : Nat} (hn : n ≤ 16) (s : Nat) : Only n (restW n s) := fun j hj => by
  rw [hasB_rest hn, Bool.and_eq_true, decide_eq_true_iff] at hj; exact hj.1
theorem rest_down {us ds : List Nat} (hl : us.length ≤ 16) (hd : Dn us ds) {s : Nat} (h : IsDown us s) : IsDown ds (restW us.length s) := by
  refine ⟨by rw [hd.1]; exact only_rest hl s, fun i j hi hij hj => ?_⟩
  rw [hd.1] at hi
  have h1 := (hd.2.2 i hi j).1 hij
  rw [hasB_rest hl, Bool.and_eq_true] at hj ⊢
  refine ⟨by simpa using hi, ?_⟩
  cases e : hasB s i with
  | false => rfl
  | true =>
    rw [h.2 j i h1.1 h1.2 e] at hj
    simp at hj
theorem down_rest {us ds : List Nat} (hl : us.length ≤ 16) (hd : Dn us ds) {s : Nat} (h : IsDown ds s) : IsDown us (restW us.length s) := by
  refine ⟨only_rest hl s, fun i j hi hij hj => ?_⟩
  rw [hasB_rest hl, Bool.and_eq_true] at hj ⊢
  refine ⟨by simpa using hi, ?_⟩
  have hjn : j < us.length := by simpa using hj.1
  cases e : hasB s i with
  | false => rfl
  | true =>
    have := h.2 j i (by rw [hd.1]; exact hjn) ((hd.2.2 j hjn i).2 ⟨hi, hij⟩) e
    rw [this] at hj
    simp at hj
theorem map_nodup {f : Nat → Nat} {l : List Nat} (hl : l.Nodup) (hi : ∀ x ∈ l, ∀ y ∈ l, f x = f y → x = y) : (l.map f).Nodup := by
  rw [List.nodup_iff_pairwise_ne, List.pairwise_map]
  rw [List.nodup_iff_pairwise_ne] at hl
  exact hl.imp_of_mem fun hx hy hne e => hne (hi _ hx _ hy e)
/-- there are as many down-sets of the dual -/
theorem turned_len {us ds es : List Nat} (hl : us.length ≤ 16) (hd : Dn us ds) (he : Dn ds es) : (allD es).length = (allD ds).length := by
  apply Nat.le_antisymm
  · have := nodup_leN (a := (allD es).map (restW us.length)) (b := allD ds) (map_nodup (nodup_allD es) fun x hx y hy e => by
      have h1 : Only us.length x := by rw [← hd.1]; exact ((mem_allD he).1 hx).1
      have h2 : Only us.length y := by rw [← hd.1]; exact ((mem_allD he).1 hy).1
      rw [← rest_rest hl h1, e, rest_rest hl h2]) fun y hy => by
      obtain ⟨x, hx, rfl⟩ := List.mem_map.1 hy
      exact (mem_allD hd).2 (down_rest hl hd ((mem_allD he).1 hx))
    simpa using this
  · have := nodup_leN (a := (allD ds).map (restW us.length)) (b := allD es) (map_nodup (nodup_allD ds) fun x hx y hy e => by
      have h1 := (mem_allD hd).1 hx
      have h2 := (mem_allD hd).1 hy
      rw [← rest_rest hl h1.1, e, rest_rest hl h2.1]) fun y hy => by
      obtain ⟨x, hx, rfl⟩ := List.mem_map.1 hy
      exact (mem_allD he).2 (rest_down hl hd ((mem_allD hd).1 hx))
    simpa using this
theorem down_of {us ds : List Nat} (hin : Inside us) (ho : IsOrd us) (hf : Fit us) (hd : Dn us ds) {j : Nat} (hj : j < us.length) : IsDown us (wd ds j) :=
  ⟨fun i hi => ((hd.2.2 j hj i).1 hi).1, fun i k hi hik hk => (hd.2.2 j hj i).2 ⟨hi, ord_trans hin ho hf hi hik ((hd.2.2 j hj k).1 hk).2⟩⟩
/-- there are more down-sets than elements -/
theorem more_downs {us ds : List Nat} (hin : Inside us) (ho : IsOrd us) (hf : Fit us) (hd : Dn us ds) : us.length < (allD ds).length := by
  have hown : ∀ j, j < us.length → hasB (wd ds j) j = true := fun j hj => (hd.2.2 j hj j).2 ⟨hj, ord_refl ho hj⟩
  have := nodup_leN (a := 0 :: (List.range us.length).map (wd ds)) (b := allD ds) (by
    rw [List.nodup_cons]
    refine ⟨fun h => ?_, map_nodup List.nodup_range fun x hx y hy e => ?_⟩
    · obtain ⟨j, hj, e⟩ := List.mem_map.1 h
      have := hown j (List.mem_range.1 hj)
      rw [e] at this
      exact no0 this
    · rw [List.mem_range] at hx hy
      have h1 := hown x hx
      have h2 := hown y hy
      rw [e] at h1
      rw [← e] at h2
      exact ord_anti hin ho hf hx ((hd.2.2 y hy x).1 h1).2 ((hd.2.2 x hx y).1 h2).2) (by
    intro s hs
    rw [mem_allD hd]
    rcases List.mem_cons.1 hs with rfl | hs
    · exact ⟨fun _ h => no0 h, fun _ _ _ _ h => no0 h⟩
    · obtain ⟨j, hj, rfl⟩ := List.mem_map.1 hs
      exact down_of hin ho hf hd (List.mem_range.1 hj))
  simp at this
  omega
theorem down_self {us : List Nat} (ho : IsOrd us) {s : Nat} (h : IsDown us s) : downW us s = s := down_fix ho h.1 h.2
theorem wd_rise {l : List Nat} (hr : l.Pairwise (· < ·)) {i : Nat} (h : i + 1 < l.length) : wd l i < wd l (i + 1) := by
  unfold wd
  rw [List.getD_eq_getElem?_getD, List.getD_eq_getElem?_getD, List.getElem?_eq_getElem h, List.getElem?_eq_getElem (show i < l.length by omega)]
  exact List.pairwise_iff_getElem.1 hr i (i + 1) (by omega) h (by omega)
end Go.Proofs.YtjbfjdijgfhjfaaDoor
