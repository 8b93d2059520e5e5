/- The contract of package times' Either. -/
import Derived.Test.YtdknniomgdjbfaaTimBoth
import Derived.Test.YtdknniomgdjbfaaTimJoin
import Derived.Laws.MakeOwn
namespace Go.Proofs.Ytdknniomgdjbfaa
open Go.RowKit Go.Shelf

/-- the joins of the first ones of a list with all of another one -/
def rowsTo (L M : List Sl) (i : Nat) : List (List Int) := ((zl L).take i).flatMap fun a => (zl M).map fun b => joinT true a b
theorem rowsTo_zero (L M : List Sl) : rowsTo L M 0 = [] := by unfold rowsTo; simp
theorem rowsTo_succ (L M : List Sl) {i : Nat} (h : i < L.length) : rowsTo L M (i + 1) = rowsTo L M i ++ (zl M).map fun b => joinT true (nth L i).zs b := by
  unfold rowsTo
  rw [zl_take h, List.flatMap_append]
  simp
theorem rowsTo_len (L M : List Sl) : ∀ i, i ≤ L.length → (rowsTo L M i).length = i * M.length
  | 0, _ => by rw [rowsTo_zero]; simp
  | i + 1, h => by
    rw [rowsTo_succ L M (by omega), List.length_append, rowsTo_len L M i (by omega), List.length_map, zl_len, Nat.succ_mul]
theorem map_take_succ (f : List Int → List Int) {M : List Sl} {j : Nat} (h : j < M.length) : ((zl M).take (j + 1)).map f = ((zl M).take j).map f ++ [f (nth M j).zs] := by
  rw [zl_take h, List.map_append]; rfl
theorem cnt_lt {i j l m : Nat} (hi : i < l) (hj : j < m) : i * m + j + 1 ≤ l * m := by
  have h1 : (i + 1) * m ≤ l * m := Nat.mul_le_mul_right m hi
  rw [Nat.succ_mul] at h1
  omega
theorem mem_rows {L M : List Sl} {t : List Int} : t ∈ rowsTo L M L.length ↔ ∃ a ∈ zl L, ∃ b ∈ zl M, joinT true a b = t := by
  unfold rowsTo
  rw [List.take_of_length_le (by rw [zl_len]; exact Nat.le_refl _), List.mem_flatMap]
  constructor
  · rintro ⟨a, ha, h⟩
    obtain ⟨b, hb, e⟩ := List.mem_map.1 h
    exact ⟨a, ha, b, hb, e⟩
  · rintro ⟨a, ha, b, hb, e⟩
    exact ⟨a, ha, List.mem_map.2 ⟨b, hb, e⟩⟩
theorem rows_code {L M : List Sl} (h : codeLL (zl L) (zl M) = 0) (hl : L.length * M.length ≤ 64) : codeL (rowsTo L M L.length) = 0 := by
  refine codeL_mk (by rw [rowsTo_len L M _ (Nat.le_refl _)]; exact hl) (fun t ht => ?_) (head_len (n := ((zl L).headD []).length) fun t ht => ?_)
  · obtain ⟨a, ha, b, hb, e⟩ := mem_rows.1 ht
    rw [← e]; exact joinT_code (pair_code h ha hb)
  · obtain ⟨a, ha, b, hb, e⟩ := mem_rows.1 ht
    rw [← e, joinT_len]
    exact (codeL_zero (codeLL_zero h).1).2.2 a ha

set_option maxRecDepth 100000 in
set_option maxHeartbeats 8000000 in
theorem Either_any (a : Option Addr) (ca : Nat) (L : List Sl) (b : Option Addr) (cb : Nat) (M : List Sl) (n₀ : Nat) (h63 : L.length ≤ 9223372036854775807) (h64 : M.length ≤ 9223372036854775807) (w : World) (hL : ZLists n₀ w a L) (hM : ZLists n₀ w b M) (hn₀ : n₀ ≤ w.heap.size) :
    Calls Try.prog 17 #[.slice a L.length ca, .slice b M.length cb] w fun e w' => Below w.heap.size w w' ∧ ((codeLL (zl L) (zl M) ≠ 0 ∧ e = joinErr (codeLL (zl L) (zl M))) ∨ (codeLL (zl L) (zl M) = 0 ∧ 64 < L.length * M.length ∧ e = joinErr 1) ∨ (codeLL (zl L) (zl M) = 0 ∧ L.length * M.length ≤ 64 ∧ ∃ av cv S, e = .returned (.tuple #[.slice av S.length cv, .int .i64 0]) ∧ Outer w'.heap.size w' av S ∧ InF w.heap.size w' S ∧ IsFront (rowsTo L M L.length) (zl S))) := by
  obtain ⟨i0, hi, hz0, hz1, hz2⟩ := ints_info
  have s1 := clists_any a ca L b cb M n₀ h63 h64 w hL hM hn₀
  unfold joinErr
  by_cases hc : codeLL (zl L) (zl M) = 0
  · have HC := hide hc
    rw [hc] at s1 ⊢
    have hl1 := (codeL_zero (codeLL_zero hc).1).1
    have hl2 := (codeL_zero (codeLL_zero hc).2.1).1
    rw [zl_len] at hl1 hl2
    have hle : L.length * M.length ≤ 64 * 64 := Nat.mul_le_mul hl1 hl2
    obtain ⟨N, hN⟩ : ∃ N, L.length * M.length = N := ⟨_, rfl⟩
    have hmul : (L.length : Int) * (M.length : Int) = (N : Int) := by rw [← hN]; simp
    have HN := hide hN
    rw [hN] at hle ⊢
    have hp1 : 0 ≤ (L.length : Int) * (M.length : Int) := by rw [hmul]; omega
    have hp2 : (L.length : Int) * (M.length : Int) ≤ 4096 := by rw [hmul]; omega
    clear hc hN
    by_cases h : 64 < N
    · have d1 : decide ((64 : Int) < (N : Int)) = true := decide_eq_true (by omega)
      go_enter Try.func17, Try.ntmps17
      go_wp2_with fail
      with_reducible refine s1.mono ?_
      rintro e w1 ⟨rfl, hb1⟩
      go_wp2_with fail
      go_ret2
      exact ⟨hb1, .inr (.inl ⟨trivial, h, rfl⟩)⟩
    · have d1 : decide ((64 : Int) < (N : Int)) = false := decide_eq_false (by omega)
      go_enter Try.func17, Try.ntmps17
      go_wp2_with fail
      with_reducible refine s1.mono ?_
      rintro e w1 ⟨rfl, hb1⟩
      have hs1 := hb1.size
      obtain ⟨wm, hm, hownm, hgr⟩ := Go.run_make_own (P := Try.prog) w1 w1.heap.size 22 23 i0 (.slice none 0 0) 1 Try.underlying22 hi hz0 hz1 .i64 .i64 N (by rw [hz2]; omega) (by unfold maxLen; omega) (Nat.le_refl _)
      have hbm : Below w1.heap.size w1 wm := (Below.refl _ _).grown hgr (Nat.le_refl _) (fun k hk => by cases hk)
      clear s1
      go_wp2_with fail
      have hs1m := hbm.size
      go_loopw [7, 33] (fun js i wr => ∃ (i' : Nat) (J : List Sl) (jv : Option Addr) (jc : Nat), i' ≤ L.length ∧ i = .int .i64 i' ∧ js = .slice jv J.length jc ∧ Below w1.heap.size w1 wr ∧ wr.ownsRow w1.heap.size 23 1 (.slice jv J.length jc) J.length (svals J) ∧ InF w1.heap.size wr J ∧ Hid (zl J = rowsTo L M i')) (fun _ i _ => L.length - (intOf i).toNat)
      case atStart => exact ⟨0, [], some ⟨w1.heap.size, 0, none⟩, N, Nat.zero_le _, rfl, rfl, hbm, hownm, InF.nil _ _, hide (by rw [rowsTo_zero]; rfl)⟩
      case round =>
        clear hm hownm hgr hbm hs1m
        obtain ⟨i', J, jv, jc, hi', rfl, rfl, hB, hown, hF, HJ⟩ := hrel
        have hsr := hB.size
        have hBw := hb1.trans (hB.mono hs1)
        by_cases hlt : i' < L.length
        · obtain ⟨bl, ol, hav, hbl, hcl⟩ := ((hL.below (hBw.mono hn₀)).outer).at hlt
          subst hav
          have ck := hcl i' hlt
          obtain ⟨iz, il⟩ := hL.inner i' hlt
          have hzm := mem_zl.2 ⟨i', hlt, rfl⟩
          have HR := hide (rowsTo_succ L M hlt)
          obtain ⟨sx, ex⟩ : ∃ sx, nth L i' = sx := ⟨_, rfl⟩
          rw [ex] at ck iz il hzm HR
          clear hcl ex
          obtain ⟨ax, cx, zx⟩ := sx
          unfold slv at ck
          dsimp only at ck iz il hzm HR
          obtain ⟨wo, hwo⟩ : ∃ V, V = wr := ⟨_, rfl⟩
          subst hwo
          have HZM := hide hzm
          clear hzm
          go_wp2_with fail
          go_loopw [7, 39] (fun js j wr => ∃ (j' : Nat) (K : List Sl) (jv : Option Addr) (jc : Nat), j' ≤ M.length ∧ j = .int .i64 j' ∧ js = .slice jv K.length jc ∧ Below w1.heap.size w1 wr ∧ wr.ownsRow w1.heap.size 23 1 (.slice jv K.length jc) K.length (svals K) ∧ InF w1.heap.size wr K ∧ Hid (zl K = rowsTo L M i' ++ ((zl M).take j').map (joinT true zx))) (fun _ j _ => M.length - (intOf j).toNat)
          case atStart => exact ⟨0, J, jv, jc, Nat.zero_le _, rfl, rfl, hB, hown, hF, hide (by rw [HJ.out]; simp)⟩
          case round =>
            clear hB hown hF hsr hBw
            obtain ⟨j', K, kv, kc, hj', rfl, rfl, hB, hown, hF, HK⟩ := hrel
            have hsr := hB.size
            have hBw := hb1.trans (hB.mono hs1)
            by_cases hlj : j' < M.length
            · obtain ⟨bm, om, hav, hbm, hcm⟩ := ((hM.below (hBw.mono hn₀)).outer).at hlj
              subst hav
              have cj := hcm j' hlj
              obtain ⟨jz, jl⟩ := hM.inner j' hlj
              have hpc := pair_code HC.out HZM.out (mem_zl.2 ⟨j', hlj, rfl⟩)
              have HS := hide (map_take_succ (joinT true zx) hlj)
              have hKl : K.length + 1 ≤ N := by
                have h1 := congrArg List.length HK.out
                rw [zl_len, List.length_append, rowsTo_len L M i' hi', List.length_map, List.length_take, zl_len, Nat.min_eq_left hj'] at h1
                have h2 := cnt_lt hlt hlj
                rw [HN.out] at h2
                omega
              obtain ⟨sy, ey⟩ : ∃ sy, nth M j' = sy := ⟨_, rfl⟩
              rw [ey] at cj jz jl hpc HS
              clear hcm ey
              obtain ⟨ay, cy, zy⟩ := sy
              unfold slv at cj
              dsimp only at cj jz jl hpc HS
              obtain ⟨hcx, _, hxy⟩ := codeP_zero hpc
              have htg := togetherG_any ax cx zx ay cy zy n₀ hxy (codeT_zero hcx).2.1 wr (iz.below (hBw.mono hn₀)) (jz.below (hBw.mono hn₀)) (by have := hBw.size; omega)
              have HX := hide (show zx.length ≤ 4 from (codeT_zero hcx).2.1)
              clear hpc hcx hxy
              go_wp2_with fail
              with_reducible refine htg.mono ?_
              rintro e w4 ⟨B, rfl, hb4, hge4, r4⟩
              have hB4 := hB.trans (hb4.mono hsr)
              have hs4 := hB4.size
              have hown4 := ownsRow_below hown hb4
              have hF4 := hF.below hb4
              have HB := hide (show w1.heap.size ≤ B ∧ Row w4 B 3 (zvals (joinT true zx zy)) from ⟨by omega, r4⟩)
              clear htg r4
              go_wp2_with (at_builtin; refine wpList_append_own _ rfl _ _ 22 rfl w1.heap.size 23 i0 (.slice none 0 0) 1 24 Try.underlying22 hi hz0 hz1 hz2 rfl (by decide) _ _ _ rfl (hown4.alloc _) ⟨w4.heap.size, 0, none⟩ 1 1 [.slice (some ⟨B, 0, none⟩) zx.length zx.length] rfl rfl (cell_one_new _ _ _) (fun u hu => by simp at hu; subst hu; rfl) (by unfold maxLen; omega) (by omega) (by simp; omega) ?_; intro v' w5 own5 hgrow _; obtain ⟨g', cap', rfl⟩ := ownsRow_succ own5)
              have hB5 : Below w1.heap.size w1 w5 := (hB4.alloc hs4 (.cells #[.slice (some ⟨B, 0, none⟩) zx.length zx.length] 23)).grown hgrow (by simp; omega) fun q eq => by
                apply Nat.le_of_not_lt; intro hql
                exact ownBlock_ge hown4 (b := q) hql eq.symm
              have hF5 : InF w1.heap.size w5 (K ++ [⟨some ⟨B, 0, none⟩, zx.length, joinT true zx zy⟩]) := by
                have h1 : InF w1.heap.size w4 (K ++ [⟨some ⟨B, 0, none⟩, zx.length, joinT true zx zy⟩]) := hF4.snoc ⟨B, (zvals (joinT true zx zy)).toArray, rfl, HB.out.1, HB.out.2, by show (joinT true zx zy).length ≤ 4; rw [joinT_len]; exact HX.out, fun j hj => by
                  rw [List.getElem?_toArray]; exact zvals_at hj⟩
                exact h1.grow hown4 hgrow
              have HKZ : Hid (zl (K ++ [⟨some ⟨B, 0, none⟩, zx.length, joinT true zx zy⟩]) = rowsTo L M i' ++ ((zl M).take (j' + 1)).map (joinT true zx)) := hide (by
                rw [zl_append, HK.out, HS.out, List.append_assoc]; rfl)
              have hsv : svals (K ++ [⟨some ⟨B, 0, none⟩, zx.length, joinT true zx zy⟩]) = svals K ++ [.slice (some ⟨B, 0, none⟩) zx.length zx.length] := by
                rw [svals_snoc]; unfold slv; dsimp only; rw [joinT_len]
              have HSV := hide hsv
              clear hsv
              go_wp2_with fail
              go_roundw
              case rel => exact ⟨j' + 1, K ++ [⟨some ⟨B, 0, none⟩, zx.length, joinT true zx zy⟩], some ⟨g', 0, none⟩, cap', by omega, by go_num, by rw [List.length_append]; rfl, hB5, by rw [HSV.out, List.length_append]; exact own5, hF5, HKZ⟩
              case measure => simp [intOf]; omega
            · obtain rfl : j' = M.length := by omega
              have HE : Hid (zl K = rowsTo L M (i' + 1)) := hide (by rw [HK.out, HR.out, List.take_of_length_le (by rw [zl_len]; exact Nat.le_refl _)])
              go_wp2_with fail
              go_roundw
              case rel => exact ⟨i' + 1, K, kv, kc, by omega, by go_num, rfl, hB, hown, hF, HE⟩
              case measure => simp [intOf]; omega
        · obtain rfl : i' = L.length := by omega
          have hO := ownsRow_outer hown
          have s4 := least_any jv jc J wr.heap.size (by rw [HJ.out]; exact rows_code HC.out (by rw [HN.out]; omega)) wr ⟨hO, hF.inner⟩ (Nat.le_refl _)
          go_wp2_with fail
          with_reducible refine s4.mono ?_
          rintro e w3 ⟨av3, cv3, S, rfl, hb3, hO3, hF3, hI3⟩
          rw [HJ.out] at hI3
          go_wp2_with fail
          go_ret2
          exact ⟨hBw.trans (hb3.mono hBw.size), .inr (.inr ⟨trivial, by omega, av3, cv3, S, rfl, hO3, hF3.base hBw.size, hI3⟩)⟩
  · have HC := hide hc
    have e1 : (codeLL (zl L) (zl M) != 0) = true := by rw [bne_iff_ne]; exact hc
    clear hc
    generalize codeLL (zl L) (zl M) = c at *
    go_enter Try.func17, Try.ntmps17
    go_wp2_with fail
    with_reducible refine s1.mono ?_
    rintro e w1 ⟨rfl, hb1⟩
    go_wp2_with fail
    go_ret2
    exact ⟨hb1, .inl ⟨HC.out, rfl⟩⟩
end Go.Proofs.Ytdknniomgdjbfaa
