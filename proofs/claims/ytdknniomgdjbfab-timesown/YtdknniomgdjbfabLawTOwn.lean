/- The walk of the law TimesOwn: it answers true, and writes nothing that was there. -/
import Derived.Test.YtdknniomgdjbfabTimOwn
import Derived.Test.YtdknniomgdjbfabTimLists
import Derived.Laws.AppendOwnNone
namespace Go.Proofs.Ytdknniomgdjbfab
open Go.RowKit Go.Shelf

set_option maxRecDepth 100000 in
set_option maxHeartbeats 16000000 in
/-- **TimesOwn answers true, for any list of lists of numbers, and writes nothing that was there** -/
theorem town_any (a : Option Addr) (cap : Nat) (L : List Sl) (n₀ : Nat) (hLb : L.length * 24 ≤ 140737488355328) (hIb : ∀ i, i < L.length → ((nth L i).a = none → (nth L i).cap = 0) ∧ (nth L i).zs.length * 8 ≤ 140737488355328) (w : World) (hw : ZLists n₀ w a L) (hn₀ : n₀ ≤ w.heap.size) :
    Calls Try.prog 3 #[.slice a L.length cap] w fun e w' => e = .returned (.bool true) ∧ Below w.heap.size w w' := by
  have hwW : ∀ {W}, Below w.heap.size w W → ZLists n₀ W a L := fun hW => hw.below (hW.mono hn₀)
  have hnW : ∀ {W}, Below w.heap.size w W → n₀ ≤ W.heap.size := fun hW => by have := hW.size; omega
  obtain ⟨i0, hi, hz0, hz1, hz2⟩ := info_parts info_zs
  obtain ⟨i1, hi1, hy0, hy1, hy2⟩ := info_parts info_int
  go_enter Try.func3, Try.ntmps3
  go_wp2_with fail
  go_loopw [3, 13] (fun md i wr => ∃ (k : Nat) (G : List Sl) (gv : Option Addr) (gc : Nat), k ≤ L.length ∧ i = .int .i64 k ∧ G.length = k ∧ md = .slice gv k gc ∧ Below w.heap.size w wr ∧ wr.ownsRow w.heap.size 23 1 (.slice gv k gc) k (svals G) ∧ InG w.heap.size wr G ∧ Hid (zl G = (zl L).take k)) (fun _ i _ => L.length - (intOf i).toNat)
  case atStart => exact ⟨0, [], none, 0, Nat.zero_le _, rfl, rfl, rfl, Below.refl _ _, World.ownsRow_nil .., InG.nil _ _, hide rfl⟩
  case round =>
    obtain ⟨k, G, gv, gc, hk, rfl, hGk, rfl, hB, hown, hF, HG⟩ := hrel
    have HK := hide hGk
    have hsr := hB.size
    have hnr := hnW hB
    by_cases hlt : k < L.length
    · obtain ⟨bl, ol, hav, hbl, hcl⟩ := (hwW hB).outer.at hlt
      subst hav
      have ck := hcl k hlt
      obtain ⟨iz, il⟩ := (hwW hB).inner k hlt
      obtain ⟨hnc, hb8⟩ := hIb k hlt
      obtain ⟨sT, ek⟩ : ∃ sT, nth L k = sT := ⟨_, rfl⟩
      have HN := hide (show (nth L k).zs = sT.zs from by rw [ek])
      rw [ek] at ck iz il hnc hb8
      clear hcl ek hGk
      obtain ⟨at_, ct, zt⟩ := sT
      unfold slv at ck
      dsimp only at ck iz il hnc hb8 HN
      cases at_ with
      | none =>
        obtain rfl : zt = [] := by
          rcases iz with h | ⟨_, _, h, _⟩
          · exact h
          · cases h
        have hc0 := hnc rfl
        subst hc0
        have ck : wr.cell? ⟨bl, ol + k, none⟩ = some (.slice none 0 0) := ck
        have hsB : wr.heap.size < (wr.alloc (.cells #[] 3)).heap.size := by simp
        have hb4 : Below wr.heap.size wr (wr.alloc (.cells #[] 3)) := (Below.refl _ _).alloc (Nat.le_refl _) _
        have hB4 := hB.trans (hb4.mono hsr)
        have hs4 := hB4.size
        have hown4 := hown.alloc (.cells #[] 3)
        have hF4 : InG w.heap.size (wr.alloc (.cells #[] 3)) (G ++ [⟨some ⟨wr.heap.size, 0, none⟩, 0, []⟩]) := (hF.below hb4).snoc ⟨wr.heap.size, #[], rfl, hsr, World.alloc_heap_new wr _, by simp, fun j hj => absurd hj (by simp)⟩
        have hcn := cell_one_new (wr.alloc (.cells #[] 3)) (.slice (some ⟨wr.heap.size, 0, none⟩) 0 0) 23
        rw [show (wr.alloc (.cells #[] 3)).heap.size = wr.heap.size + 1 from by simp] at hcn
        clear hnc il iz hb8
        have hsv : svals (G ++ [⟨some ⟨wr.heap.size, 0, none⟩, 0, []⟩]) = svals G ++ [.slice (some ⟨wr.heap.size, 0, none⟩) 0 0] := by rw [svals_snoc]; rfl
        have HSV := hide hsv
        have HZ := hide (show zl (G ++ [⟨some ⟨wr.heap.size, 0, none⟩, 0, []⟩]) = (zl L).take (k + 1) from by rw [zl_snoc, HG.out, zl_take hlt]; rw [HN.out])
        clear hsv
        go_wp2_with (at_builtin; first | (refine wpList_append_own_none rfl _ _ 23 rfl wr.heap.size 3 i1 1 Try.underlying23 hi1 _ 0 _ rfl (World.ownsRow_made wr #[] 0 (Nat.le_refl _) (Nat.zero_le _) rfl) rfl ?_) | (refine wpList_append_own _ rfl _ _ 22 rfl w.heap.size 23 i0 (.slice none 0 0) 1 24 Try.underlying22 hi hz0 hz1 hz2 rfl (by decide) _ _ _ rfl (hown4.alloc _) ⟨wr.heap.size + 1, 0, none⟩ 1 1 [.slice (some ⟨wr.heap.size, 0, none⟩) 0 0] rfl rfl hcn (fun u hu => by simp at hu; subst hu; rfl) (by unfold maxLen; omega) (by omega) (by simp; omega) ?_; intro v' w5 own5 hgrow _; obtain ⟨g', cap', rfl⟩ := ownsRow_succ own5))
        have hB5 : Below w.heap.size w w5 := (hB4.alloc hs4 _).grown hgrow (by simp; omega) fun q eq => by
          apply Nat.le_of_not_lt; intro hql
          exact ownBlock_ge hown4 (b := q) hql eq.symm
        have hF5 : InG w.heap.size w5 (G ++ [⟨some ⟨wr.heap.size, 0, none⟩, 0, []⟩]) := hF4.grow hown4 hgrow
        go_wp2_with fail
        go_roundw
        case rel => exact ⟨k + 1, G ++ [⟨some ⟨wr.heap.size, 0, none⟩, 0, []⟩], some ⟨g', 0, none⟩, cap', by omega, by go_num, by rw [List.length_append, HK.out]; rfl, rfl, hB5, by rw [HSV.out]; exact own5, hF5, HZ⟩
        case measure => simp [intOf]; omega
      | some ad =>
        go_wp2_with (at_builtin; refine wpList_append_own _ rfl _ _ 23 rfl wr.heap.size 3 i1 (.int .i64 0) 1 8 Try.underlying23 hi1 hy0 hy1 hy2 rfl (by decide) _ _ _ rfl (World.ownsRow_made wr #[] 0 (Nat.le_refl _) (Nat.zero_le _) rfl) ad zt.length ct (zvals zt) rfl ?qc1 ?qc2 ?qc3 ?qc4 ?qc5 ?qc6 ?_)
        case qc1 => unfold zvals; simp
        case qc2 =>
          intro j u hj
          have hjn : j < zt.length := by
            have := (List.getElem?_eq_some_iff.1 hj).1
            unfold zvals at this
            simpa using this
          rw [zvals_at hjn] at hj
          cases hj
          obtain ⟨bq, oq, hq, _, hcq⟩ := iz.at hjn
          cases hq
          rw [Addr.add_lit]
          exact Lib.cell?_alloc_some _ (hcq j hjn)
        case qc3 => intro u hu; unfold zvals at hu; obtain ⟨x, _, rfl⟩ := List.mem_map.1 hu; rfl
        case qc4 => unfold maxLen; omega
        case qc5 => omega
        case qc6 => simp
        intro v4 w4 hown0 hgrow4 hnil4
        have hown' : w4.ownsRow wr.heap.size 3 1 v4 zt.length (zvals zt) := by simpa using hown0
        have hb4 : Below wr.heap.size wr w4 := ((Below.refl _ wr).alloc (Nat.le_refl _) _).grown hgrow4 (by simp) (by intro k hk; simp [Value.ownBlock] at hk; omega)
        have hB4 := hB.trans (hb4.mono hsr)
        have hs4 := hB4.size
        have hown4 := ownsRow_below hown hb4
        obtain ⟨B, c, cur, rfl, hBge, hBh, hcur⟩ : ∃ B c cur, v4 = .slice (some ⟨B, 0, none⟩) zt.length c ∧ wr.heap.size ≤ B ∧ w4.heap[B]? = some (.cells cur 3) ∧ ∀ j, j < zt.length → cur[j]? = some (.int .i64 (zd zt j)) := by
          rcases hown'.2 with ⟨h1, _⟩ | ⟨g, c, cur, h1, h2, h3, h4, h5, h6, h7⟩
          · exact (hnil4 h1).elim
          · refine ⟨g, c, cur, h1, h2, h3, fun j hj => ?_⟩
            have hx : (cur.toList.take (zt.length * 1))[j]? = (zvals zt)[j]? := by rw [h7]
            rw [zvals_at hj, List.getElem?_take, if_pos (by omega)] at hx
            rw [← Array.getElem?_toList]; exact hx
        have hF4 : InG w.heap.size w4 (G ++ [⟨some ⟨B, 0, none⟩, c, zt⟩]) := (hF.below hb4).snoc ⟨B, cur, rfl, by omega, hBh, il, hcur⟩
        have hlB : B < w4.heap.size := (Array.getElem?_eq_some_iff.1 hBh).1
        clear hown0 hown' hgrow4 hnil4 hBh hcur iz ck hb4
        have hsv : svals (G ++ [⟨some ⟨B, 0, none⟩, c, zt⟩]) = svals G ++ [.slice (some ⟨B, 0, none⟩) zt.length c] := by rw [svals_snoc]; rfl
        have HSV := hide hsv
        have HZ := hide (show zl (G ++ [⟨some ⟨B, 0, none⟩, c, zt⟩]) = (zl L).take (k + 1) from by rw [zl_snoc, HG.out, zl_take hlt]; rw [HN.out])
        clear hsv
        go_wp2_with (at_builtin; refine wpList_append_own _ rfl _ _ 22 rfl w.heap.size 23 i0 (.slice none 0 0) 1 24 Try.underlying22 hi hz0 hz1 hz2 rfl (by decide) _ _ _ rfl (hown4.alloc _) ⟨w4.heap.size, 0, none⟩ 1 1 [.slice (some ⟨B, 0, none⟩) zt.length c] rfl rfl (cell_one_new _ _ _) (fun u hu => by simp at hu; subst hu; rfl) (by unfold maxLen; omega) (by omega) (by simp; omega) ?_; intro v' w5 own5 hgrow _; obtain ⟨g', cap', rfl⟩ := ownsRow_succ own5)
        have hB5 : Below w.heap.size w w5 := (hB4.alloc hs4 _).grown hgrow (by simp; omega) fun q eq => by
          apply Nat.le_of_not_lt; intro hql
          exact ownBlock_ge hown4 (b := q) hql eq.symm
        have hF5 : InG w.heap.size w5 (G ++ [⟨some ⟨B, 0, none⟩, c, zt⟩]) := hF4.grow hown4 hgrow
        go_wp2_with fail
        go_roundw
        case rel => exact ⟨k + 1, G ++ [⟨some ⟨B, 0, none⟩, c, zt⟩], some ⟨g', 0, none⟩, cap', by omega, by go_num, by rw [List.length_append, HK.out]; rfl, rfl, hB5, by rw [HSV.out]; exact own5, hF5, HZ⟩
        case measure => simp [intOf]; omega
    · obtain rfl : k = L.length := by omega
      have hzG : zl G = zl L := by rw [HG.out, List.take_of_length_le (by rw [zl_len]; exact Nat.le_refl _)]
      have HZ := hide hzG
      obtain ⟨w1, hw1⟩ : ∃ V, V = wr := ⟨_, rfl⟩
      subst hw1
      have hO : Outer w1.heap.size w1 gv G := ownsRow_outer hown
      have hZ : ZLists w1.heap.size w1 gv G := ⟨hO, hF.inner⟩
      have s1 := Front_any gv gc G w1.heap.size (by omega) w1 hZ (Nat.le_refl _)
      unfold joinErr at s1
      rw [hGk] at s1
      have s2 : ∀ W, Below w1.heap.size w1 W → Calls Try.prog 5 #[.slice gv L.length gc, .slice a L.length cap] W fun e w' => e = .returned (.bool true) ∧ Below W.heap.size W w' := fun W hW => by
        have hBW := hB.trans (hW.mono hsr)
        have h := Lists_any gv gc G a cap L W.heap.size (by omega) W ((hZ.below hW).mono hW.size) ((hwW hBW).mono (hnW hBW)) (Nat.le_refl _)
        rw [sameL_true.2 HZ.out, hGk] at h
        exact h
      clear hzG hZ hO hlt hF hown
      go_wp2_with fail
      with_reducible refine s1.mono ?_
      rintro e w2 ⟨hb2, hh⟩
      clear s1
      have hB2 := hB.trans (hb2.mono hsr)
      rcases hh with ⟨hc, rfl⟩ | ⟨hc, av, cv, S, rfl, hO2, hF2, hI2⟩
      · have e1 : (codeL (zl G) != 0) = true := by rw [bne_iff_ne]; exact hc
        clear hc
        generalize codeL (zl G) = c at *
        go_wp2_with fail
        go_ret
        exact ⟨rfl, hB2⟩
      · by_cases h0 : S.length = 0
        · have hS : S = [] := List.length_eq_zero_iff.1 h0
          have hL0 : L.length = 0 := by
            apply Classical.byContradiction
            intro hne
            have hk0 : 0 < G.length := by rw [HK.out]; omega
            have h := front_all hc hI2 (mem_zl.2 ⟨0, hk0, rfl⟩)
            rw [hS] at h
            simp [openB, zl] at h
          have e1 : ((S.length : Int) == 0) = true := by rw [beq_iff_eq]; omega
          have e2 : ((L.length : Int) == 0) = true := by rw [beq_iff_eq]; omega
          clear h0 hL0 hS s2
          go_wp2_with fail
          go_ret
          exact ⟨rfl, hB2⟩
        · have e1 : ((S.length : Int) == 0) = false := by rw [beq_eq_false_iff_ne]; omega
          obtain ⟨bo, oo, hav, hbo, hco⟩ := hO2.at (i := 0) (by omega)
          subst hav
          have hlS : S.length ≤ 64 := by have := (codeL_zero (front_code hc hI2)).1; rw [zl_len] at this; exact this
          have hl4 : ∀ i, i < S.length → (nth S i).zs.length ≤ 4 := fun i hi => by obtain ⟨_, _, _, _, _, h, _⟩ := hF2 i hi; exact h
          have hWr : Wr w1.heap.size w2 bo oo S := ⟨fun i hi => by
            obtain ⟨B, cur, h1, h2, h3, h4, h5⟩ := hF2 i hi
            exact ⟨B, cur.toList, h1, h2, by unfold Row; simpa using h3, fun j hj => ⟨_, by rw [Array.getElem?_toList]; exact h5 j hj⟩⟩, hco⟩
          clear hO2 hF2 hI2 hco hbo h0
          go_wp2_with fail
          go_loopw [45] (fun i wr => ∃ x : Nat, x ≤ S.length ∧ i = .int .i64 x ∧ Below w1.heap.size w1 wr ∧ Wr w1.heap.size wr bo oo S) (fun i _ => S.length - (intOf i).toNat)
          case atStart => exact ⟨0, Nat.zero_le _, rfl, hb2, hWr⟩
          case round =>
            clear hWr
            obtain ⟨x, hx, rfl, hb3, hWr⟩ := hrel
            have hs3 := hb3.size
            by_cases hlx : x < S.length
            · have cx := hWr.over x hlx
              have hx4 := hl4 x hlx
              obtain ⟨B, xs, hxa, _, _, _⟩ := hWr.rows x hlx
              obtain ⟨sT, ek⟩ : ∃ sT, nth S x = sT := ⟨_, rfl⟩
              have HX := hide ek
              rw [ek] at cx hx4 hxa
              clear ek
              obtain ⟨ax, qx, zx⟩ := sT
              unfold slv at cx
              dsimp only at cx hx4 hxa
              subst hxa
              obtain ⟨wc, hwc⟩ : ∃ V, V = wr := ⟨_, rfl⟩
              subst hwc
              go_wp2_with fail
              go_loopw [51] (fun i wr => ∃ y : Nat, y ≤ zx.length ∧ i = .int .i64 y ∧ Below w1.heap.size w1 wr ∧ Wr w1.heap.size wr bo oo S) (fun i _ => zx.length - (intOf i).toNat)
              case atStart => exact ⟨0, Nat.zero_le _, rfl, hb3, hWr⟩
              case round =>
                clear hWr cx hs3 hb3
                obtain ⟨y, hy, rfl, hb3, hWr⟩ := hrel
                have hs3 := hb3.size
                by_cases hly : y < zx.length
                · obtain ⟨B', xs', h1, hge, hR, hzs⟩ := hWr.rows x hlx
                  rw [HX.out] at h1 hzs
                  obtain rfl : B = B' := by cases h1; rfl
                  obtain ⟨z, hz⟩ := hzs y hly
                  have cy := hR.cell hz
                  have fy := hR.frozen y
                  have hWn := hWr.write (u := -7) hR hz
                  have hbn := hb3.setCell (p := ⟨B, y, none⟩) hge (.int .i64 (-7))
                  clear h1 hzs hz
                  go_wp2_with fail
                  go_roundw
                  case rel => exact ⟨y + 1, by omega, by go_num, hbn, hWn⟩
                  case measure => simp [intOf]; omega
                · go_wp2_with fail
                  go_roundw
                  case rel => exact ⟨x + 1, by omega, by go_num, hb3, hWr⟩
                  case measure => simp [intOf]; omega
            · have s3 := s2 wr hb3
              clear s2
              go_wp2_with fail
              with_reducible refine s3.mono ?_
              rintro e w5 ⟨rfl, hb5⟩
              have hB3 := hB.trans (hb3.mono hsr)
              go_wp2_with fail
              go_ret
              exact ⟨rfl, hB3.trans (hb5.mono hB3.size)⟩
end Go.Proofs.Ytdknniomgdjbfab
