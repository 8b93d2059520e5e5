/- The program's Check and All of a map, and the document's FixedAll. -/
import Derived.Test.YtemabboecmkoaaaDoorFixCheck
import Derived.Test.YtemabboecmkoaaaDoorCheck
import Derived.Test.YtemabboecmkoaaaDoorOwns
namespace Go.Proofs.YtemabboecmkoaaaDoor
open Go.RowKit Go.Shelf

/-- the elements below k that stay -/
def stayTo (fs : List Nat) : Nat → List Nat
  | 0 => []
  | k + 1 => stayTo fs k ++ (if wd fs k = k then [k] else [])
theorem stayTo_succ (fs : List Nat) (k : Nat) : stayTo fs (k + 1) = stayTo fs k ++ (if wd fs k = k then [k] else []) := rfl
theorem stayTo_len (fs : List Nat) : ∀ k, (stayTo fs k).length ≤ k
  | 0 => Nat.le_refl _
  | k + 1 => by
    have := stayTo_len fs k
    rw [stayTo_succ, List.length_append]
    by_cases h : wd fs k = k
    · rw [if_pos h]; simp; omega
    · rw [if_neg h]; simp; omega
theorem mem_stayTo (fs : List Nat) (x : Nat) : ∀ k, x ∈ stayTo fs k ↔ x < k ∧ wd fs x = x
  | 0 => by simp [stayTo]
  | k + 1 => by
    rw [stayTo_succ, List.mem_append, mem_stayTo fs x k]
    by_cases h : wd fs k = k
    · rw [if_pos h, List.mem_singleton]
      constructor
      · rintro (⟨h1, h2⟩ | h1)
        · exact ⟨by omega, h2⟩
        · subst h1; exact ⟨by omega, h⟩
      · rintro ⟨h1, h2⟩
        by_cases e : x = k
        · exact .inr e
        · exact .inl ⟨by omega, h2⟩
    · rw [if_neg h]
      constructor
      · rintro (⟨h1, h2⟩ | h1)
        · exact ⟨by omega, h2⟩
        · cases h1
      · rintro ⟨h1, h2⟩
        refine .inl ⟨?_, h2⟩
        by_cases e : x = k
        · subst e; exact absurd h2 h
        · omega

/-- what is told of an order and a map of it -/
def fixCode (n : Int) (us : List Nat) (zs : List Int) : Int := if codeOf n us = 0 then mapCode us zs else codeOf n us
theorem fixCode_bad {n : Int} {us : List Nat} {zs : List Int} (h : codeOf n us ≠ 0) : fixCode n us zs = codeOf n us := if_neg h
theorem fixCode_map {n : Int} {us : List Nat} {zs : List Int} (h : codeOf n us = 0) : fixCode n us zs = mapCode us zs := if_pos h

set_option maxRecDepth 100000 in
set_option maxHeartbeats 1000000 in
theorem FCheck_any (n : Int) (a : Option Addr) (cap : Nat) (us : List Nat) (ag : Option Addr) (cg : Nat) (zs : List Int) (n₀ : Nat) (hf : Fit us) (h63 : zs.length ≤ 9223372036854775807) (w : World) (hT : TabAt w) (hw : IsWords n₀ w a us) (hz : ZInts n₀ w ag zs) (hg : 0 < n₀) (hn₀ : n₀ ≤ w.heap.size) :
    Calls Tryd.prog 10 #[.agg #[.int .i64 n, .slice a us.length cap], .slice ag zs.length cg] w fun e w' => e = .returned (.int .i64 (fixCode n us zs)) ∧ Below w.heap.size w w' := by
  obtain ⟨r0, hb0, hs0⟩ := one_row w 24 (.int .i64 n) (.slice a us.length cap) rfl
  have s1 := Check_any n a cap us n₀ hf _ (hT.below hb0 (by omega)) (hw.below (hb0.mono hn₀)) hg (by omega)
  have lt0 := r0.lt
  by_cases hc : codeOf n us = 0
  · rw [fixCode_map hc]
    have en := (code_zero hc).2.2.1.symm
    have hl16 : us.length ≤ 16 := by have := code_zero hc; omega
    rw [hc] at s1
    subst en
    have s2 : ∀ W, Below w.heap.size w W → _ := fun W hW => checkMap_any a cap us ag cg zs n₀ hf hl16 h63 W (hw.below (hW.mono hn₀)) (hz.below (hW.mono hn₀)) (by have := hW.size; omega)
    clear hc
    go_enter Tryd.func10, Tryd.ntmps10
    go_wp2_with fail
    refine s1.mono ?_
    rintro e w1 ⟨rfl, hb1⟩
    have q0 := row_below r0 hb1 lt0
    have j0 := q0.cell (i := 0) rfl
    have j1 := q0.cell (i := 1) rfl
    have hB1 : Below w.heap.size w w1 := hb0.trans (hb1.mono (by omega))
    go_wp2_with fail
    refine (s2 w1 hB1).mono ?_
    rintro e w2 ⟨rfl, hb2⟩
    go_wp2_with fail
    go_ret
    exact ⟨rfl, hB1.trans (hb2.mono hB1.size)⟩
  · rw [fixCode_bad hc]
    have hne : (codeOf n us != 0) = true := by rw [bne_iff_ne]; exact hc
    generalize codeOf n us = c at *
    go_enter Tryd.func10, Tryd.ntmps10
    go_wp2_with fail
    refine s1.mono ?_
    rintro e w1 ⟨rfl, hb1⟩
    go_wp2_with fail
    go_ret
    exact ⟨rfl, hb0.trans (hb1.mono (by omega))⟩

def fixErr (c : Int) : Ending := .returned (.tuple #[.slice none 0 0, .int .i64 c])
set_option maxRecDepth 100000 in
set_option maxHeartbeats 1000000 in
theorem FAll_err (n : Int) (a : Option Addr) (cap : Nat) (us : List Nat) (ag : Option Addr) (cg : Nat) (zs : List Int) (n₀ : Nat) (hf : Fit us) (h63 : zs.length ≤ 9223372036854775807) (w : World) (hT : TabAt w) (hw : IsWords n₀ w a us) (hz : ZInts n₀ w ag zs) (hg : 0 < n₀) (hn₀ : n₀ ≤ w.heap.size) (hc : fixCode n us zs ≠ 0) :
    Calls Tryd.prog 16 #[.agg #[.int .i64 n, .slice a us.length cap], .slice ag zs.length cg] w fun e w' => e = fixErr (fixCode n us zs) ∧ Below w.heap.size w w' := by
  obtain ⟨r0, hb0, hs0⟩ := one_row w 24 (.int .i64 n) (.slice a us.length cap) rfl
  have s1 := FCheck_any n a cap us ag cg zs n₀ hf h63 _ (hT.below hb0 (by omega)) (hw.below (hb0.mono hn₀)) (hz.below (hb0.mono hn₀)) hg (by omega)
  have hne : (fixCode n us zs != 0) = true := by rw [bne_iff_ne]; exact hc
  unfold fixErr
  generalize fixCode n us zs = c at *
  go_enter Tryd.func16, Tryd.ntmps16
  go_wp2_with fail
  refine s1.mono ?_
  rintro e w1 ⟨rfl, hb1⟩
  go_wp2_with fail
  go_ret2
  exact ⟨rfl, hb0.trans (hb1.mono (by omega))⟩

set_option maxRecDepth 100000 in
set_option maxHeartbeats 2000000 in
theorem FAll_ok (a : Option Addr) (cap : Nat) (us : List Nat) (ag : Option Addr) (cg : Nat) (zs : List Int) (n₀ : Nat) (hf : Fit us) (w : World) (hT : TabAt w) (hw : IsWords n₀ w a us) (hz : ZInts n₀ w ag zs) (hg : 0 < n₀) (hn₀ : n₀ ≤ w.heap.size) (hc : codeOf us.length us = 0) (hm : mapCode us zs = 0) :
    Calls Tryd.prog 16 #[.agg #[.int .i64 us.length, .slice a us.length cap], .slice ag us.length cg] w fun e w' => ∃ av cv, e = .returned (.tuple #[.slice av (stayTo (mapN zs) us.length).length cv, .int .i64 0]) ∧ Below w.heap.size w w' ∧ w'.ownsRow w.heap.size 3 1 (.slice av (stayTo (mapN zs) us.length).length cv) (stayTo (mapN zs) us.length).length (ivals (stayTo (mapN zs) us.length)) := by
  obtain ⟨i0, hi, hz0, hz1, hz2⟩ := info_parts info_int
  obtain ⟨r0, hb0, hs0⟩ := one_row w 24 (.int .i64 us.length) (.slice a us.length cap) rfl
  have hl16 : us.length ≤ 16 := by have := code_zero hc; omega
  obtain ⟨hI, _⟩ := mapCode_zero hm
  have hlz : zs.length = us.length := (intoB_true.1 hI).1
  have s1 := FCheck_any us.length a cap us ag cg zs n₀ hf (by omega) _ (hT.below hb0 (by omega)) (hw.below (hb0.mono hn₀)) (hz.below (hb0.mono hn₀)) hg (by omega)
  rw [fixCode_map hc, hm, hlz] at s1
  have hzi := mapN_ints (intoB_true.1 hI).2 hz
  have hlm := (into_map hI).len
  clear hI hm hc hz hT hw
  generalize mapN zs = fs at *
  go_enter Tryd.func16, Tryd.ntmps16
  go_wp2_with fail
  refine s1.mono ?_
  rintro e w1 ⟨rfl, hb1⟩
  have hB1 : Below w.heap.size w w1 := hb0.trans (hb1.mono (by omega))
  clear s1
  go_wp2_with fail
  go_loopw [7, 18] (fun ls i wr => ∃ (k : Nat) (av : Option Addr) (cv : Nat), k ≤ us.length ∧ i = .int .i64 k ∧ ls = .slice av (stayTo fs k).length cv ∧ Below w.heap.size w wr ∧ wr.ownsRow w.heap.size 3 1 (.slice av (stayTo fs k).length cv) (stayTo fs k).length (ivals (stayTo fs k))) (fun _ i _ => us.length - (intOf i).toNat)
  case atStart => exact ⟨0, none, 0, Nat.zero_le _, rfl, rfl, hB1, World.ownsRow_nil ..⟩
  case round =>
    obtain ⟨k, av, cv, hk, rfl, rfl, hB, hown⟩ := hrel
    by_cases hlt : k < us.length
    · obtain ⟨b, off, rfl, hb, hcc⟩ := (hzi.below (hB.mono hn₀)).at (i := k) (by omega)
      have hck := hcc k (by omega)
      have hsu := stayTo_succ fs k
      have hle := stayTo_len fs k
      have hbsz := hB.size
      clear hcc
      by_cases h1 : wd fs k = k
      · have hd : (((k : Nat) : Int) == ((wd fs k : Nat) : Int)) = true := by rw [h1]; simp
        rw [if_pos h1] at hsu
        have HS := hide hsu
        clear hsu h1
        generalize stayTo fs k = S at *
        go_wp2_with (at_builtin; refine wpList_append_own _ rfl _ _ 25 rfl w.heap.size 3 i0 (.int .i64 0) 1 8 Tryd.underlying25 hi hz0 hz1 hz2 rfl (by decide) _ _ _ rfl (hown.alloc _) ⟨wr.heap.size, 0, none⟩ 1 1 [.int .i64 (k : Nat)] rfl rfl (cell_one_new _ _ _) (fun u hu => by simp at hu; subst hu; rfl) (by unfold maxLen; omega) (by omega) (by simp; omega) ?_; intro v' w3 hown3 hgrow3 _; obtain ⟨g', cap', rfl⟩ := ownsRow_succ hown3)
        have hB3 : Below w.heap.size w w3 := (hB.alloc hbsz (.cells #[.int .i64 (k : Nat)] 3)).grown hgrow3 (by simp; omega) fun q eq => by
          apply Nat.le_of_not_lt; intro hql
          exact ownBlock_ge hown (b := q) hql eq.symm
        refine ⟨⟨k + 1, some ⟨g', 0, none⟩, cap', by omega, by go_num, by rw [HS.out]; simp, hB3, ?_⟩, by simp [intOf]; omega⟩
        rw [HS.out, ivals_snoc, List.length_append]
        exact hown3
      · have hd : (((k : Nat) : Int) == ((wd fs k : Nat) : Int)) = false := by rw [beq_eq_false_iff_ne]; omega
        rw [if_neg h1, List.append_nil] at hsu
        have HS := hide hsu
        clear hsu h1
        go_wp2
        exact ⟨⟨k + 1, av, cv, by omega, by go_num, by rw [HS.out], hB, by rw [HS.out]; exact hown⟩, by simp [intOf]; omega⟩
    · obtain rfl : k = us.length := by omega
      go_wp2
      go_ret2
      exact ⟨av, cv, rfl, hB, hown⟩

end Go.Proofs.YtemabboecmkoaaaDoor
