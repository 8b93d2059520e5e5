/- The walk of the document's TimesSorted. -/
import Derived.Test.YtdknniomgdjbfaaTimSorted
namespace Go.Proofs.Ytdknniomgdjbfaa
open Go.RowKit Go.Shelf

theorem take_snoc (S : List Sl) {x : Nat} (h : x < S.length) : S.take (x + 1) = S.take x ++ [nth S x] := by
  rw [List.take_succ_eq_append_getElem h]
  unfold nth; simp [List.getD_eq_getElem?_getD, List.getElem?_eq_getElem h]
theorem drop_snoc (S : List Sl) (t : Sl) {x y : Nat} (hx : x ≤ y) (h : y < S.length) : S.take x ++ t :: (S.drop x).take (y + 1 - x) = (S.take x ++ t :: (S.drop x).take (y - x)) ++ [nth S y] := by
  have e : y + 1 - x = (y - x) + 1 := by omega
  rw [e, List.take_succ_eq_append_getElem (by simp; omega)]
  have e2 : (S.drop x)[y - x]'(by simp; omega) = nth S y := by
    rw [List.getElem_drop]
    unfold nth
    have e3 : x + (y - x) = y := by omega
    simp only [e3]
    simp [List.getD_eq_getElem?_getD, List.getElem?_eq_getElem h]
  rw [e2]; simp
theorem cut_start (ls : List (List Int)) (t : List Int) : CutAt ls t 0 := fun j hj => by omega
theorem cut_step {S : List Sl} {t : List Int} {m : Nat} (h : CutAt (zl S) t m) (hm : m < S.length) (hl : LexZ (nth S m).zs t) : CutAt (zl S) t (m + 1) := fun j hj hj2 => by
  by_cases e : j = m
  · subst e; rw [zl_at hm]; exact hl
  · exact h j (by omega) hj2
theorem not_at {S : List Sl} {t : List Int} {m : Nat} (h1 : m < S.length → ¬ LexZ (nth S m).zs t) (h2 : m < S.length → (nth S m).zs ≠ t) : ∀ h : m < (zl S).length, ¬ LexZ (zl S)[m] t ∧ (zl S)[m] ≠ t := fun h => by
  have hm : m < S.length := by rw [zl_len] at h; exact h
  rw [zl_at hm]; exact ⟨h1 hm, h2 hm⟩
/-- the sorted ones lie where the list's do -/
theorem Sorted.at {L S : List Sl} {k : Nat} (h : Sorted L S k) {n₀ : Nat} {W : World} (hI : Inner n₀ W L) {m : Nat} (hm : m < S.length) : ZInts n₀ W (nth S m).a (nth S m).zs ∧ (nth S m).zs.length ≤ 9223372036854775807 ∧ (nth S m).zs ∈ zl L := by
  obtain ⟨i, hi, e⟩ := mem_nth (h.sub _ (nth_mem hm))
  rw [← e]; exact ⟨(hI i hi).1, (hI i hi).2, mem_zl.2 ⟨i, hi, rfl⟩⟩

set_option maxRecDepth 100000 in
set_option maxHeartbeats 8000000 in
theorem rtsorted_any (a : Option Addr) (cap : Nat) (L : List Sl) (n₀ : Nat) (hc : codeL (zl L) = 0) (w : World) (hw : ZLists n₀ w a L) (hn₀ : n₀ ≤ w.heap.size) :
    Calls Try.prog 31 #[.slice a L.length cap] w fun e w' => ∃ av cv S, e = .returned (.slice av S.length cv) ∧ Below w.heap.size w w' ∧ Outer w'.heap.size w' av S ∧ Sorted L S L.length := by
  obtain ⟨i0, hi, hz0, hz1, hz2⟩ := info_parts info_zs
  obtain ⟨h64, hcode, hlens⟩ := codeL_zero hc
  rw [zl_len] at h64
  obtain ⟨n, hlen⟩ : ∃ n, ∀ u ∈ zl L, u.length = n := ⟨_, fun u hu => hlens u hu⟩
  clear hc hlens
  go_enter Try.func31, Try.ntmps31
  go_wp2_with fail
  go_loopw [3, 12] (fun ou i wr => ∃ (k : Nat) (S : List Sl) (av : Option Addr) (cv : Nat), k ≤ L.length ∧ i = .int .i64 k ∧ ou = .slice av S.length cv ∧ Below w.heap.size w wr ∧ Outer wr.heap.size wr av S ∧ Hid (Sorted L S k)) (fun _ i _ => L.length - (intOf i).toNat)
  case atStart => exact ⟨0, [], none, 0, Nat.zero_le _, rfl, rfl, Below.refl _ _, .inl rfl, hide (Sorted.start L)⟩
  case round =>
    obtain ⟨k, S, av, cv, hk, rfl, rfl, hB, hO, HX⟩ := hrel
    have hsr := hB.size
    have hSk := HX.out.len
    by_cases hlt : k < L.length
    · obtain ⟨bl, ol, rfl, hbl, hcl⟩ := (hw.outer.below (hB.mono hn₀)).at hlt
      have ck := hcl k hlt
      obtain ⟨iz, il⟩ := hw.inner k hlt
      have hzm := mem_zl.2 ⟨k, hlt, rfl⟩
      obtain ⟨sT, ek⟩ : ∃ sT, nth L k = sT := ⟨_, rfl⟩
      rw [ek] at ck iz il hzm
      have hkT := hcode _ hzm
      have hkl := hlen _ hzm
      clear hcl hzm
      obtain ⟨at_, ct, zt⟩ := sT
      unfold slv at ck
      dsimp only at ck iz il hkT hkl
      have HKL := hide (show codeT zt = 0 ∧ zt.length = n from ⟨hkT, hkl⟩)
      clear hkT hkl
      obtain ⟨wo, hwo⟩ : ∃ V, V = wr := ⟨_, rfl⟩
      subst hwo
      go_wp2_with fail
      go_loopw [6] (fun i wr2 => ∃ m : Nat, m ≤ S.length ∧ i = .int .i64 m ∧ Below wo.heap.size wo wr2 ∧ Hid (CutAt (zl S) zt m)) (fun i _ => S.length - (intOf i).toNat)
      case atStart => exact ⟨0, Nat.zero_le _, rfl, Below.refl _ _, hide (cut_start _ _)⟩
      case round =>
        obtain ⟨m, hm, rfl, hB2, HC⟩ := hrel
        obtain ⟨wr2, hw2⟩ : ∃ V, V = wr := ⟨_, rfl⟩
        subst hw2
        have hs2 := hB2.size
        have hBw2 := hB.trans (hB2.mono hsr)
        by_cases hlm : m < S.length
        · have hOx := hO.below hB2
          obtain ⟨bo, oo, hav, hbo, hco⟩ := hOx.at hlm
          subst hav
          have cm := hco m hlm
          obtain ⟨jz, jl, jm⟩ := HX.out.at (hw.inner.below (hBw2.mono hn₀)) hlm
          obtain ⟨sm, em⟩ : ∃ sm, nth S m = sm := ⟨_, rfl⟩
          have HQ := hide (show nth S m = sm ∧ codeP (nth S m).zs zt = 0 from ⟨em, codeP_ok (hcode _ jm) HKL.out.1 (by rw [hlen _ jm, HKL.out.2])⟩)
          have HK := hide ek
          rw [em] at cm jz jl
          clear hco jm em ek
          obtain ⟨am, qm, zm⟩ := sm
          unfold slv at cm
          dsimp only at cm jz jl
          have hls := rtless_any am qm zm at_ ct zt n₀ jl il wr2 jz (iz.below (hBw2.mono hn₀)) (by omega)
          cases hu : lessT zm zt with
          | true =>
            have HF := hide (cut_step HC.out hlm (by rw [HQ.out.1]; exact (lessT_true.1 hu).2))
            rw [hu] at hls
            clear hu
            go_wp2_with (go_at_call 47; with_reducible refine hls.mono ?_; rintro e w3 ⟨rfl, hb3⟩)
            go_roundw
            case rel => exact ⟨m + 1, by omega, by go_num, hB2.trans (hb3.mono hs2), HF⟩
            case measure => simp [intOf]; omega
          | false =>
            have hnl : ¬ LexZ (nth S m).zs zt := fun h => by
              have h2 := lessT_true.2 ⟨HQ.out.2, h⟩
              rw [HQ.out.1] at h2
              rw [hu] at h2; cases h2
            have HNL := hide hnl
            rw [hu] at hls
            clear hu hnl
            go_wp2_with fail
            with_reducible refine hls.mono ?_
            rintro e w3 ⟨rfl, hb3⟩
            have hB3 := hBw2.trans (hb3.mono hBw2.size)
            have cm3 := (hb3.cell (p := ⟨bo, oo + m, none⟩) (show bo < wr2.heap.size by omega)).trans cm
            have hO3 := (hOx.mono hs2).below hb3
            have hss := rtsame_any am qm zm at_ ct zt n₀ jl w3 (jz.below (hb3.mono (by omega))) (iz.below (hB3.mono hn₀)) (by have := hB3.size; omega)
            clear cm hls
            cases hs : sameB zm zt with
            | true =>
              have HF := hide (HX.out.skip (by rw [HK.out]; rw [← sameB_true.1 hs]; exact mem_zl.2 ⟨m, hlm, by rw [HQ.out.1]⟩))
              rw [hs] at hss
              clear hs
              go_wp2_with fail
              with_reducible refine hss.mono ?_
              rintro e w4 ⟨rfl, hb4⟩
              go_wp2_with fail
              go_roundw
              case rel => exact ⟨k + 1, S, _, _, by omega, by go_num, rfl, hB3.trans (hb4.mono hB3.size), ((hO3.mono hb3.size).below hb4).mono hb4.size, HF⟩
              case measure => simp [intOf]; omega
            | false =>
              have HNE := hide (show (nth S m).zs ≠ zt from fun h => by rw [HQ.out.1] at h; exact sameB_false.1 hs h)
              rw [hs] at hss
              clear hs
              go_wp2_with fail
              with_reducible refine hss.mono ?_
              rintro e w4 ⟨rfl, hb4⟩
              go_wp2_with fail
              have hBb := hB3.trans (hb4.mono hB3.size)
              have hOb := ((hO3.mono hb3.size).below hb4).mono hb4.size
              have ek := HK.out
              have hcut : CutAt (zl S) (nth L k).zs m := by rw [ek]; exact HC.out
              have hnot : ∀ h : m < (zl S).length, ¬ LexZ (zl S)[m] (nth L k).zs ∧ (zl S)[m] ≠ (nth L k).zs := not_at (fun _ => by rw [ek]; exact HNL.out) (fun _ => by rw [ek]; exact HNE.out)
              clear hss hO3 hb3 hb4 hB3 cm3 hOx hB2 hs2 HK
              have HCC := hide (show CutAt (zl S) (nth L k).zs m ∧ (∀ h : m < (zl S).length, ¬ LexZ (zl S)[m] (nth L k).zs ∧ (zl S)[m] ≠ (nth L k).zs) ∧ nth L k = ⟨at_, ct, zt⟩ from ⟨hcut, hnot, ek⟩)
              clear hcut hnot ek
              go_wp2_with fail
              have hsb := hBb.size
              have hml : m ≤ S.length := hm
              go_loopw [7, 8] (fun nx i wr => ∃ (x : Nat) (av : Option Addr) (cv : Nat), x ≤ m ∧ i = .int .i64 x ∧ nx = .slice av x cv ∧ Below w4.heap.size w4 wr ∧ wr.ownsRow w4.heap.size 23 1 (.slice av x cv) x (svals (S.take x))) (fun _ i _ => m - (intOf i).toNat)
              case atStart => exact ⟨0, none, 0, Nat.zero_le _, rfl, rfl, Below.refl _ _, World.ownsRow_nil ..⟩
              case round =>
                obtain ⟨x, av, cv, hx, rfl, rfl, hB3, hown⟩ := hrel
                have hs3 := hB3.size
                by_cases hlx : x < m
                · have hxS : x < S.length := by omega
                  obtain ⟨bo2, oo2, hav2, hbo2, hco⟩ := (hOb.below hB3).at hxS
                  cases hav2
                  have cx := hco x hxS
                  have HT := hide (take_snoc S hxS)
                  clear hco
                  obtain ⟨s, es⟩ : ∃ s, nth S x = s := ⟨_, rfl⟩
                  rw [es] at cx HT
                  clear es
                  obtain ⟨ax, cx', zx⟩ := s
                  unfold slv at cx
                  dsimp only at cx
                  go_wp2_with (at_builtin; refine wpList_append_own _ rfl _ _ 22 rfl w4.heap.size 23 i0 (.slice none 0 0) 1 24 Try.underlying22 hi hz0 hz1 hz2 rfl (by decide) _ _ _ rfl (hown.alloc _) ⟨wr.heap.size, 0, none⟩ 1 1 [.slice ax zx.length cx'] rfl rfl (cell_one_new _ _ _) (fun u hu => by simp at hu; subst hu; rfl) (by unfold maxLen; omega) (by omega) (by simp; omega) ?_; intro v' w8 own4 hgrow _; obtain ⟨g', cap', rfl⟩ := ownsRow_succ own4)
                  have hB4 : Below w4.heap.size w4 w8 := (hB3.alloc hs3 (.cells #[.slice ax zx.length cx'] 23)).grown hgrow (by simp; omega) fun q eq => by
                    apply Nat.le_of_not_lt; intro hql
                    exact ownBlock_ge hown (b := q) hql eq.symm
                  refine ⟨⟨x + 1, some ⟨g', 0, none⟩, cap', by omega, by go_num, rfl, hB4, ?_⟩, by simp [intOf]; omega⟩
                  rw [HT.out, svals_snoc]
                  exact own4
                · obtain rfl : m = x := by omega
                  go_wp2_with (at_builtin; refine wpList_append_own _ rfl _ _ 22 rfl w4.heap.size 23 i0 (.slice none 0 0) 1 24 Try.underlying22 hi hz0 hz1 hz2 rfl (by decide) _ _ _ rfl (hown.alloc _) ⟨wr.heap.size, 0, none⟩ 1 1 [.slice at_ zt.length ct] rfl rfl (cell_one_new _ _ _) (fun u hu => by simp at hu; subst hu; rfl) (by unfold maxLen; omega) (by omega) (by simp; omega) ?_; intro v' w8 own4 hgrow _; obtain ⟨g', cap', rfl⟩ := ownsRow_succ own4)
                  have hB4 : Below w4.heap.size w4 w8 := (hB3.alloc hs3 (.cells #[.slice at_ zt.length ct] 23)).grown hgrow (by simp; omega) fun q eq => by
                    apply Nat.le_of_not_lt; intro hql
                    exact ownBlock_ge hown (b := q) hql eq.symm
                  have hs4 := hB4.size
                  have own5 : w8.ownsRow w4.heap.size 23 1 (.slice (some ⟨g', 0, none⟩) (m + 1) cap') (m + 1) (svals (S.take m ++ (⟨at_, ct, zt⟩ : Sl) :: (S.drop m).take (m - m))) := by
                    rw [Nat.sub_self, List.take_zero, svals_snoc]
                    exact own4
                  clear own4 hown hB3 hs3 hgrow
                  go_wp2_with fail
                  go_loopw [7, 9] (fun nx i wr => ∃ (y : Nat) (av : Option Addr) (cv : Nat), m ≤ y ∧ y ≤ S.length ∧ i = .int .i64 y ∧ nx = .slice av (y + 1) cv ∧ Below w4.heap.size w4 wr ∧ wr.ownsRow w4.heap.size 23 1 (.slice av (y + 1) cv) (y + 1) (svals (S.take m ++ (⟨at_, ct, zt⟩ : Sl) :: (S.drop m).take (y - m)))) (fun _ i _ => S.length - (intOf i).toNat)
                  case atStart => exact ⟨m, _, _, Nat.le_refl _, hml, rfl, rfl, hB4, own5⟩
                  case round =>
                    clear own5 hB4 hs4
                    obtain ⟨y, av, cv, hxy, hy, rfl, rfl, hB5, hown⟩ := hrel
                    have hs5 := hB5.size
                    by_cases hly : y < S.length
                    · obtain ⟨bo2, oo2, hav2, hbo2, hco⟩ := (hOb.below hB5).at hly
                      cases hav2
                      have cx := hco y hly
                      have HT := hide (drop_snoc S (⟨at_, ct, zt⟩ : Sl) hxy hly)
                      clear hco
                      obtain ⟨s, es⟩ : ∃ s, nth S y = s := ⟨_, rfl⟩
                      rw [es] at cx HT
                      clear es
                      obtain ⟨ax, cx', zx⟩ := s
                      unfold slv at cx
                      dsimp only at cx
                      go_wp2_with (at_builtin; refine wpList_append_own _ rfl _ _ 22 rfl w4.heap.size 23 i0 (.slice none 0 0) 1 24 Try.underlying22 hi hz0 hz1 hz2 rfl (by decide) _ _ _ rfl (hown.alloc _) ⟨wr.heap.size, 0, none⟩ 1 1 [.slice ax zx.length cx'] rfl rfl (cell_one_new _ _ _) (fun u hu => by simp at hu; subst hu; rfl) (by unfold maxLen; omega) (by omega) (by simp; omega) ?_; intro v' w6 own6 hgrow _; obtain ⟨g', cap', rfl⟩ := ownsRow_succ own6)
                      have hB6 : Below w4.heap.size w4 w6 := (hB5.alloc hs5 (.cells #[.slice ax zx.length cx'] 23)).grown hgrow (by simp; omega) fun q eq => by
                        apply Nat.le_of_not_lt; intro hql
                        exact ownBlock_ge hown (b := q) hql eq.symm
                      refine ⟨⟨y + 1, some ⟨g', 0, none⟩, cap', by omega, by omega, by go_num, rfl, hB6, ?_⟩, by simp [intOf]; omega⟩
                      rw [HT.out, svals_snoc]
                      exact own6
                    · obtain rfl : y = S.length := by omega
                      have HP := hide (HX.out.put hlt hlen hml HCC.out.1 HCC.out.2.1)
                      rw [HCC.out.2.2] at HP
                      have hlp := putAt_len S m (⟨at_, ct, zt⟩ : Sl) hml
                      have hpt : S.take m ++ (⟨at_, ct, zt⟩ : Sl) :: (S.drop m).take (S.length - m) = putAt S m (⟨at_, ct, zt⟩ : Sl) := by
                        unfold putAt
                        rw [show (S.drop m).take (S.length - m) = S.drop m from List.take_of_length_le (by rw [List.length_drop]; exact Nat.le_refl _)]
                      rw [hpt] at hown
                      clear hpt
                      go_wp2_with fail
                      go_roundw
                      case rel => exact ⟨k + 1, putAt S m (⟨at_, ct, zt⟩ : Sl), av, cv, by omega, by go_num, by rw [hlp], hBb.trans (hB5.mono hsb), ownsRow_outer hown, HP⟩
                      case measure => simp [intOf]; omega
        · have hcut : CutAt (zl S) (nth L k).zs m := by rw [ek]; exact HC.out
          have hnot : ∀ h : m < (zl S).length, ¬ LexZ (zl S)[m] (nth L k).zs ∧ (zl S)[m] ≠ (nth L k).zs := fun h => by rw [zl_len] at h; omega
          have hBb := hBw2
          have hOb := (hO.below hB2).mono hs2
          have HCC := hide (show CutAt (zl S) (nth L k).zs m ∧ (∀ h : m < (zl S).length, ¬ LexZ (zl S)[m] (nth L k).zs ∧ (zl S)[m] ≠ (nth L k).zs) ∧ nth L k = ⟨at_, ct, zt⟩ from ⟨hcut, hnot, ek⟩)
          clear hcut hnot ek
          go_wp2_with fail
          have hsb := hBb.size
          have hml : m ≤ S.length := hm
          go_loopw [7, 8] (fun nx i wr => ∃ (x : Nat) (av : Option Addr) (cv : Nat), x ≤ m ∧ i = .int .i64 x ∧ nx = .slice av x cv ∧ Below wr2.heap.size wr2 wr ∧ wr.ownsRow wr2.heap.size 23 1 (.slice av x cv) x (svals (S.take x))) (fun _ i _ => m - (intOf i).toNat)
          case atStart => exact ⟨0, none, 0, Nat.zero_le _, rfl, rfl, Below.refl _ _, World.ownsRow_nil ..⟩
          case round =>
            obtain ⟨x, av, cv, hx, rfl, rfl, hB3, hown⟩ := hrel
            have hs3 := hB3.size
            by_cases hlx : x < m
            · have hxS : x < S.length := by omega
              obtain ⟨bo2, oo2, hav2, hbo2, hco⟩ := (hOb.below hB3).at hxS
              cases hav2
              have cx := hco x hxS
              have HT := hide (take_snoc S hxS)
              clear hco
              obtain ⟨s, es⟩ : ∃ s, nth S x = s := ⟨_, rfl⟩
              rw [es] at cx HT
              clear es
              obtain ⟨ax, cx', zx⟩ := s
              unfold slv at cx
              dsimp only at cx
              go_wp2_with (at_builtin; refine wpList_append_own _ rfl _ _ 22 rfl wr2.heap.size 23 i0 (.slice none 0 0) 1 24 Try.underlying22 hi hz0 hz1 hz2 rfl (by decide) _ _ _ rfl (hown.alloc _) ⟨wr.heap.size, 0, none⟩ 1 1 [.slice ax zx.length cx'] rfl rfl (cell_one_new _ _ _) (fun u hu => by simp at hu; subst hu; rfl) (by unfold maxLen; omega) (by omega) (by simp; omega) ?_; intro v' w8 own4 hgrow _; obtain ⟨g', cap', rfl⟩ := ownsRow_succ own4)
              have hB4 : Below wr2.heap.size wr2 w8 := (hB3.alloc hs3 (.cells #[.slice ax zx.length cx'] 23)).grown hgrow (by simp; omega) fun q eq => by
                apply Nat.le_of_not_lt; intro hql
                exact ownBlock_ge hown (b := q) hql eq.symm
              refine ⟨⟨x + 1, some ⟨g', 0, none⟩, cap', by omega, by go_num, rfl, hB4, ?_⟩, by simp [intOf]; omega⟩
              rw [HT.out, svals_snoc]
              exact own4
            · obtain rfl : m = x := by omega
              go_wp2_with (at_builtin; refine wpList_append_own _ rfl _ _ 22 rfl wr2.heap.size 23 i0 (.slice none 0 0) 1 24 Try.underlying22 hi hz0 hz1 hz2 rfl (by decide) _ _ _ rfl (hown.alloc _) ⟨wr.heap.size, 0, none⟩ 1 1 [.slice at_ zt.length ct] rfl rfl (cell_one_new _ _ _) (fun u hu => by simp at hu; subst hu; rfl) (by unfold maxLen; omega) (by omega) (by simp; omega) ?_; intro v' w8 own4 hgrow _; obtain ⟨g', cap', rfl⟩ := ownsRow_succ own4)
              have hB4 : Below wr2.heap.size wr2 w8 := (hB3.alloc hs3 (.cells #[.slice at_ zt.length ct] 23)).grown hgrow (by simp; omega) fun q eq => by
                apply Nat.le_of_not_lt; intro hql
                exact ownBlock_ge hown (b := q) hql eq.symm
              have hs4 := hB4.size
              have own5 : w8.ownsRow wr2.heap.size 23 1 (.slice (some ⟨g', 0, none⟩) (m + 1) cap') (m + 1) (svals (S.take m ++ (⟨at_, ct, zt⟩ : Sl) :: (S.drop m).take (m - m))) := by
                rw [Nat.sub_self, List.take_zero, svals_snoc]
                exact own4
              clear own4 hown hB3 hs3 hgrow
              go_wp2_with fail
              go_loopw [7, 9] (fun nx i wr => ∃ (y : Nat) (av : Option Addr) (cv : Nat), m ≤ y ∧ y ≤ S.length ∧ i = .int .i64 y ∧ nx = .slice av (y + 1) cv ∧ Below wr2.heap.size wr2 wr ∧ wr.ownsRow wr2.heap.size 23 1 (.slice av (y + 1) cv) (y + 1) (svals (S.take m ++ (⟨at_, ct, zt⟩ : Sl) :: (S.drop m).take (y - m)))) (fun _ i _ => S.length - (intOf i).toNat)
              case atStart => exact ⟨m, _, _, Nat.le_refl _, hml, rfl, rfl, hB4, own5⟩
              case round =>
                clear own5 hB4 hs4
                obtain ⟨y, av, cv, hxy, hy, rfl, rfl, hB5, hown⟩ := hrel
                have hs5 := hB5.size
                by_cases hly : y < S.length
                · exfalso; omega
                · obtain rfl : y = S.length := by omega
                  have HP := hide (HX.out.put hlt hlen hml HCC.out.1 HCC.out.2.1)
                  rw [HCC.out.2.2] at HP
                  have hlp := putAt_len S m (⟨at_, ct, zt⟩ : Sl) hml
                  have hpt : S.take m ++ (⟨at_, ct, zt⟩ : Sl) :: (S.drop m).take (S.length - m) = putAt S m (⟨at_, ct, zt⟩ : Sl) := by
                    unfold putAt
                    rw [show (S.drop m).take (S.length - m) = S.drop m from List.take_of_length_le (by rw [List.length_drop]; exact Nat.le_refl _)]
                  rw [hpt] at hown
                  clear hpt
                  go_wp2_with fail
                  go_roundw
                  case rel => exact ⟨k + 1, putAt S m (⟨at_, ct, zt⟩ : Sl), av, cv, by omega, by go_num, by rw [hlp], hBb.trans (hB5.mono hsb), ownsRow_outer hown, HP⟩
                  case measure => simp [intOf]; omega
    · obtain rfl : k = L.length := by omega
      go_wp2_with fail
      go_ret
      exact ⟨av, cv, S, rfl, hB, hO, HX.out⟩
end Go.Proofs.Ytdknniomgdjbfaa
