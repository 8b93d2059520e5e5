/- The walk of the document's TimesFront. -/
import Derived.Test.YtdknniomgdjbfaaTimSortedW
namespace Go.Proofs.Ytdknniomgdjbfaa
open Go.RowKit Go.Shelf

/-- has none of a list less than t everywhere, but t? -/
def minB (ls : List (List Int)) (t : List Int) : Bool := ls.all fun u => !(@decide (LeqZ u t) (decLeqZ u t)) || decide (u = t)
theorem minB_true {ls : List (List Int)} {t : List Int} : minB ls t = true ↔ ∀ u ∈ ls, LeqZ u t → u = t := by
  unfold minB
  rw [List.all_eq_true]
  constructor
  · intro h u hu hle
    have := h u hu
    rw [Bool.or_eq_true, Bool.not_eq_true', @decide_eq_false_iff_not _ (decLeqZ u t), decide_eq_true_iff] at this
    exact this.resolve_left fun h' => h' hle
  · intro h u hu
    rw [Bool.or_eq_true, Bool.not_eq_true', @decide_eq_false_iff_not _ (decLeqZ u t), decide_eq_true_iff]
    apply Classical.byContradiction
    intro hn
    exact hn (.inl fun hle => hn (.inr (h u hu hle)))
/-- the least ones of the first k -/
def leastTo (L S : List Sl) (k : Nat) : List Sl := (S.take k).filter fun s => minB (zl L) s.zs
theorem leastTo_zero (L S : List Sl) : leastTo L S 0 = [] := by unfold leastTo; simp
theorem leastTo_succ (L S : List Sl) {k : Nat} (h : k < S.length) : leastTo L S (k + 1) = leastTo L S k ++ (if minB (zl L) (nth S k).zs then [nth S k] else []) := by
  unfold leastTo
  rw [take_snoc S h, List.filter_append]
  congr 1
  by_cases e : minB (zl L) (nth S k).zs = true
  · rw [if_pos e, List.filter_cons, if_pos e]; rfl
  · rw [if_neg e, List.filter_cons, if_neg e]; rfl
theorem leastTo_len (L S : List Sl) (k : Nat) : (leastTo L S k).length ≤ k := by
  unfold leastTo
  exact Nat.le_trans (List.length_filter_le _ _) (by rw [List.length_take]; omega)
theorem leastTo_front {L S : List Sl} (h : Sorted L S L.length) : IsFront (zl L) (zl (leastTo L S S.length)) := by
  have e : zl (leastTo L S S.length) = (zl S).filter fun t => minB (zl L) t := by
    unfold leastTo zl
    rw [List.take_length, List.filter_map]
    rfl
  rw [e]
  refine front_filter h.sorted (fun t => (h.mem t).trans mem_zl.symm) _ fun t _ => minB_true
theorem leastTo_sub {L S : List Sl} (h : Sorted L S L.length) (k : Nat) : ∀ s ∈ leastTo L S k, s ∈ L := fun s hs => h.sub s (List.mem_of_mem_take (List.mem_filter.1 hs).1)

set_option maxRecDepth 100000 in
set_option maxHeartbeats 8000000 in
theorem rtfront_any (a : Option Addr) (cap : Nat) (L : List Sl) (n₀ : Nat) (hc : codeL (zl L) = 0) (w : World) (hw : ZLists n₀ w a L) (hn₀ : n₀ ≤ w.heap.size) :
    Calls Try.prog 14 #[.slice a L.length cap] w fun e w' => ∃ av cv S, e = .returned (.slice av S.length cv) ∧ Below w.heap.size w w' ∧ Outer w'.heap.size w' av S ∧ (∀ s ∈ S, s ∈ L) ∧ IsFront (zl L) (zl S) := by
  obtain ⟨i0, hi, hz0, hz1, hz2⟩ := info_parts info_zs
  have hsrt := rtsorted_any a cap L n₀ hc w hw hn₀
  obtain ⟨h64, hcode, hlens⟩ := codeL_zero hc
  rw [zl_len] at h64
  obtain ⟨n, hlen⟩ : ∃ n, ∀ u ∈ zl L, u.length = n := ⟨_, fun u hu => hlens u hu⟩
  clear hc hlens
  go_enter Try.func14, Try.ntmps14
  go_wp2_with fail
  with_reducible refine hsrt.mono ?_
  rintro e w1 ⟨aS, cS, S, rfl, hb1, hOS, hSS⟩
  have hs1 := hb1.size
  have HX := hide hSS
  have hSk := hSS.len
  clear hsrt hSS
  go_wp2_with fail
  go_loopw [3, 12] (fun ou i wr => ∃ (k : Nat) (av : Option Addr) (cv : Nat), k ≤ S.length ∧ i = .int .i64 k ∧ ou = .slice av (leastTo L S k).length cv ∧ Below w1.heap.size w1 wr ∧ wr.ownsRow w1.heap.size 23 1 (.slice av (leastTo L S k).length cv) (leastTo L S k).length (svals (leastTo L S k))) (fun _ i _ => S.length - (intOf i).toNat)
  case atStart => exact ⟨0, none, 0, Nat.zero_le _, rfl, by rw [leastTo_zero]; rfl, Below.refl _ _, by rw [leastTo_zero]; exact World.ownsRow_nil ..⟩
  case round =>
    obtain ⟨k, av, cv, hk, rfl, rfl, hB, hown⟩ := hrel
    have hsr := hB.size
    have hLk := leastTo_len L S k
    by_cases hlt : k < S.length
    · obtain ⟨bS, oS, rfl, hbS, hcS⟩ := (hOS.below hB).at hlt
      have ck := hcS k hlt
      have hBw := hb1.trans (hB.mono hs1)
      obtain ⟨iz, il, hzm⟩ := HX.out.at (hw.inner.below (hBw.mono hn₀)) hlt
      have HT := hide (leastTo_succ L S hlt)
      obtain ⟨sT, ek⟩ : ∃ sT, nth S k = sT := ⟨_, rfl⟩
      rw [ek] at ck iz il hzm HT
      clear hcS ek
      obtain ⟨at_, ct, zt⟩ := sT
      unfold slv at ck
      dsimp only at ck iz il hzm HT
      have HKL := hide (show codeT zt = 0 ∧ zt.length = n from ⟨hcode _ hzm, hlen _ hzm⟩)
      clear hzm
      generalize leastTo L S k = P at *
      obtain ⟨wo, hwo⟩ : ∃ V, V = wr := ⟨_, rfl⟩
      subst hwo
      go_wp2_with fail
      go_loopw [6, 18] (fun le i wr2 => ∃ (j : Nat) (A : Bool), j ≤ L.length ∧ i = .int .i64 j ∧ le = .bool A ∧ Below wo.heap.size wo wr2 ∧ Hid (A = true ↔ ∀ x, x < j → LeqZ (nth L x).zs zt → (nth L x).zs = zt)) (fun _ i _ => L.length - (intOf i).toNat)
      case atStart => exact ⟨0, true, Nat.zero_le _, rfl, rfl, Below.refl _ _, hide ⟨fun _ x hx => by omega, fun _ => rfl⟩⟩
      case round =>
        obtain ⟨j, A, hj, rfl, rfl, hB2, HA⟩ := hrel
        have hs2 := hB2.size
        have hBw2 := hBw.trans (hB2.mono hBw.size)
        by_cases hlj : j < L.length
        · obtain ⟨bl, ol, hav, hbl, hcl⟩ := (hw.outer.below (hBw2.mono hn₀)).at hlj
          subst hav
          have cj := hcl j hlj
          obtain ⟨jz, jl⟩ := hw.inner j hlj
          have hjm := mem_zl.2 ⟨j, hlj, rfl⟩
          have HP := hide (show codeP (nth L j).zs zt = 0 from codeP_ok (hcode _ hjm) HKL.out.1 (by rw [hlen _ hjm, HKL.out.2]))
          have HStep := hide (show ∀ B : Bool, (B = true ↔ A = true ∧ (LeqZ (nth L j).zs zt → (nth L j).zs = zt)) → (B = true ↔ ∀ x, x < j + 1 → LeqZ (nth L x).zs zt → (nth L x).zs = zt) from fun B hBB => by
            rw [hBB, HA.out]
            constructor
            · rintro ⟨h1, h2⟩ x hx
              by_cases e : x = j
              · rw [e]; exact h2
              · exact h1 x (by omega)
            · intro h
              exact ⟨fun x hx => h x (by omega), h j (by omega)⟩)
          obtain ⟨sj, ej⟩ : ∃ sj, nth L j = sj := ⟨_, rfl⟩
          rw [ej] at cj jz jl HP HStep
          clear hcl hjm ej
          obtain ⟨aj, qj, zj⟩ := sj
          unfold slv at cj
          dsimp only at cj jz jl HP HStep
          have hls := rtleq_any aj qj zj at_ ct zt n₀ jl il wr (jz.below (hBw2.mono hn₀)) (iz.below (hB2.mono (by omega))) (by omega)
          cases hu : leqT zj zt with
          | false =>
            have HF := hide (HStep.out A ⟨fun h => ⟨h, fun hle => by rw [leqT_true.2 ⟨HP.out, hle⟩] at hu; cases hu⟩, fun h => h.1⟩)
            rw [hu] at hls
            clear hu
            go_wp2_with fail
            with_reducible refine hls.mono ?_
            rintro e w3 ⟨rfl, hb3⟩
            go_wp2_with fail
            go_roundw
            case rel => exact ⟨j + 1, A, by omega, by go_num, rfl, hB2.trans (hb3.mono hs2), HF⟩
            case measure => simp [intOf]; omega
          | true =>
            have HLE := hide (leqT_true.1 hu).2
            rw [hu] at hls
            clear hu
            go_wp2_with fail
            with_reducible refine hls.mono ?_
            rintro e w3 ⟨rfl, hb3⟩
            have hB3 := hBw2.trans (hb3.mono hBw2.size)
            have hss := rtsame_any aj qj zj at_ ct zt n₀ jl w3 (jz.below (hB3.mono hn₀)) ((iz.below (hB2.mono (by omega))).below (hb3.mono (by omega))) (by have := hB3.size; omega)
            clear hls
            cases hs : sameB zj zt with
            | true =>
              have HF := hide (HStep.out A ⟨fun h => ⟨h, fun _ => sameB_true.1 hs⟩, fun h => h.1⟩)
              rw [hs] at hss
              clear hs
              go_wp2_with fail
              with_reducible refine hss.mono ?_
              rintro e w4 ⟨rfl, hb4⟩
              go_wp2_with fail
              go_roundw
              case rel => exact ⟨j + 1, A, by omega, by go_num, rfl, (hB2.trans (hb3.mono hs2)).trans (hb4.mono (by have := hb3.size; omega)), HF⟩
              case measure => simp [intOf]; omega
            | false =>
              have HF := hide (HStep.out false ⟨fun h => (by cases h), fun h => absurd (h.2 HLE.out) (sameB_false.1 hs)⟩)
              rw [hs] at hss
              clear hs
              go_wp2_with fail
              with_reducible refine hss.mono ?_
              rintro e w4 ⟨rfl, hb4⟩
              go_wp2_with fail
              go_roundw
              case rel => exact ⟨j + 1, false, by omega, by go_num, rfl, (hB2.trans (hb3.mono hs2)).trans (hb4.mono (by have := hb3.size; omega)), HF⟩
              case measure => simp [intOf]; omega
        · obtain rfl : j = L.length := by omega
          have HM : Hid (minB (zl L) zt = A) := hide (by
            rw [Bool.eq_iff_iff, minB_true, HA.out]
            constructor
            · intro h x hx; exact h _ (mem_zl.2 ⟨x, hx, rfl⟩)
            · intro h u hu
              obtain ⟨x, hx, e⟩ := mem_zl.1 hu
              rw [← e]; exact h x hx)
          have hB4 : Below w1.heap.size w1 wr := hB.trans (hB2.mono hsr)
          have hownr := ownsRow_below hown hB2
          have hs4 := hB4.size
          cases A with
          | false =>
            have HT2 : Hid (leastTo L S (k + 1) = P) := hide (by rw [HT.out, HM.out]; simp)
            clear HT HM HA
            go_wp2_with fail
            go_roundw
            case rel => exact ⟨k + 1, av, cv, by omega, by go_num, by rw [HT2.out], hB4, by rw [HT2.out]; exact hownr⟩
            case measure => simp [intOf]; omega
          | true =>
            have HT2 : Hid (leastTo L S (k + 1) = P ++ [⟨at_, ct, zt⟩]) := hide (by rw [HT.out, HM.out]; rfl)
            clear HT HM HA
            go_wp2_with (at_builtin; refine wpList_append_own _ rfl _ _ 22 rfl w1.heap.size 23 i0 (.slice none 0 0) 1 24 Try.underlying22 hi hz0 hz1 hz2 rfl (by decide) _ _ _ rfl (hownr.alloc _) ⟨wr.heap.size, 0, none⟩ 1 1 [.slice at_ zt.length ct] rfl rfl (cell_one_new _ _ _) (fun u hu => by simp at hu; subst hu; rfl) (by unfold maxLen; omega) (by omega) (by simp; omega) ?_; intro v' w5 own5 hgrow _; obtain ⟨g', cap', rfl⟩ := ownsRow_succ own5)
            have hB5 : Below w1.heap.size w1 w5 := (hB4.alloc hs4 (.cells #[.slice at_ zt.length ct] 23)).grown hgrow (by simp; omega) fun q eq => by
              apply Nat.le_of_not_lt; intro hql
              exact ownBlock_ge hownr (b := q) hql eq.symm
            go_wp2_with fail
            go_roundw
            case rel => exact ⟨k + 1, some ⟨g', 0, none⟩, cap', by omega, by go_num, by rw [HT2.out, List.length_append]; rfl, hB5, by rw [HT2.out, svals_snoc, List.length_append]; exact own5⟩
            case measure => simp [intOf]; omega
    · obtain rfl : k = S.length := by omega
      have hO := ownsRow_outer hown
      go_wp2_with fail
      go_ret
      exact ⟨av, cv, leastTo L S S.length, rfl, hb1.trans (hB.mono hs1), hO, leastTo_sub HX.out _, leastTo_front HX.out⟩
end Go.Proofs.Ytdknniomgdjbfaa
