/- The contract of the program's Sub: what is wrong, or what comes of elements. -/
import Derived.Test.YtdjljnmpffhemaaDoorMade
import Derived.Test.YtdjljnmpffhemaaDoorTabNone
import Derived.Test.YtdjljnmpffhemaaDoorKeepZ
namespace Go.Proofs.YtdjljnmpffhemaaDoor
open Go.RowKit Go.Shelf

/-- the numbers as elements -/
def natL (zs : List Int) : List Nat := zs.map Int.toNat
theorem natL_len (zs : List Int) : (natL zs).length = zs.length := by unfold natL; simp
theorem wd_natL {zs : List Int} {i : Nat} (h : i < zs.length) : wd (natL zs) i = (zd zs i).toNat := by
  unfold wd natL zd
  simp [List.getD_eq_getElem?_getD, List.getElem?_map, List.getElem?_eq_getElem h]
theorem natL_ints {n n₀ : Nat} {W : World} {a : Option Addr} {zs : List Int} (h : AllIn n zs) (hz : ZInts n₀ W a zs) : IsInts n₀ W a (natL zs) := by
  rcases hz with hz | ⟨b, off, h1, h2, h3⟩
  · exact .inl (by subst hz; rfl)
  · refine .inr ⟨b, off, h1, h2, fun i hi => ?_⟩
    rw [natL_len] at hi
    rw [wd_natL hi, h3 i hi]
    have := h i hi
    congr 1
    congr 1
    omega
theorem natL_lt {n : Nat} {zs : List Int} (h : AllIn n zs) : ∀ x ∈ natL zs, x < n := fun x hx => by
  obtain ⟨i, hi, e⟩ := mem_wdN hx
  rw [natL_len] at hi
  rw [wd_natL hi] at e
  have := h i hi
  omega

def subErr (c : Int) : Ending := .returned (.tuple #[.slice none 0 0, .int .i64 c])
set_option maxRecDepth 100000 in
set_option maxHeartbeats 1000000 in
theorem Sub_err (n : Int) (a : Option Addr) (len cap : Nat) (ag : Option Addr) (lg cg : Nat) (c : Int) (hc : c ≠ 0) (w : World) (ht : ∀ W, Below w.heap.size w W → Calls Tryd.prog 31 #[.agg #[.int .i64 n, .slice a len cap]] W fun e w' => e = tabErr c ∧ Below W.heap.size W w') :
    Calls Tryd.prog 15 #[.agg #[.int .i64 n, .slice a len cap], .slice ag lg cg] w fun e w' => e = subErr c ∧ Below w.heap.size w w' := by
  obtain ⟨r0, hb0, hs0⟩ := one_row w 24 (.int .i64 n) (.slice a len cap) rfl
  have h1 := ht _ hb0
  unfold tabErr at h1
  have hne : (c != 0) = true := by rw [bne_iff_ne]; exact hc
  clear hc ht
  go_enter Tryd.func15, Tryd.ntmps15
  go_wp2_with (go_at_call 31; refine h1.mono ?_; rintro e w1 ⟨rfl, hb1⟩)
  go_ret2
  exact ⟨rfl, (hb0.trans (hb1.mono (by omega))).alloc (by have := hb1.size; omega) _⟩

set_option maxRecDepth 100000 in
set_option maxHeartbeats 2000000 in
theorem Sub_bad (a : Option Addr) (cap : Nat) (us ds : List Nat) (ag : Option Addr) (cg : Nat) (zs : List Int) (n₀ : Nat) (hf : Fit us) (h63 : zs.length ≤ 9223372036854775807) (w : World) (hT : TabAt w) (hw : IsWords n₀ w a us) (hz : ZInts n₀ w ag zs) (hg : 0 < n₀) (hn₀ : n₀ ≤ w.heap.size) (hc : codeOf us.length us = 0) (hD : Tur us us.length [] ds) (hl : latB us ds = true) (c : Int) (hbad : (16 < zs.length ∧ c = 1) ∨ (zs.length ≤ 16 ∧ ¬ AllIn us.length zs ∧ c = 2)) :
    Calls Tryd.prog 15 #[.agg #[.int .i64 us.length, .slice a us.length cap], .slice ag zs.length cg] w fun e w' => e = subErr c ∧ Below w.heap.size w w' := by
  obtain ⟨h1, h2, h3⟩ := latB_parts hl
  have hzz := n_zero hc
  rw [decide_eq_false h1] at hzz
  obtain ⟨r0, hb0, hs0⟩ := one_row w 24 (.int .i64 us.length) (.slice a us.length cap) rfl
  have hta := TableOf_ok us.length a cap us ds n₀ hf _ (hT.below hb0 (by omega)) (hw.below (hb0.mono hn₀)) hg (by omega) hc hD hzz h2 h3
  have hl16 : us.length ≤ 16 := by have := code_zero hc; omega
  clear hc hl hzz h2 h3 hD
  unfold subErr
  go_enter Tryd.func15, Tryd.ntmps15
  go_wp2_with fail
  refine hta.mono ?_
  rintro e w1 ⟨ca, cc, aj, cj, am, cm, js, ms, rfl, hb1, o0, o1, o2, hN1, hN2⟩
  have hs1 := hb1.size
  have hB1 : Below w.heap.size w w1 := hb0.trans (hb1.mono (by omega))
  generalize gath (at2 ms us.length) 0 us.length = bt at *
  generalize gath (at2 js us.length) 0 us.length = tp at *
  clear hta o0 o1 o2 hN1 hN2
  rcases hbad with ⟨h16, rfl⟩ | ⟨h16, hnot, rfl⟩
  · have hd : decide ((16 : Int) < (zs.length : Int)) = true := by simp; omega
    go_wp2
    go_ret2
    exact ⟨rfl, hB1.alloc (by omega) _⟩
  · have hd : decide ((16 : Int) < (zs.length : Int)) = false := by simp; omega
    obtain ⟨V, hV⟩ : ∃ V, V = w1.alloc (.cells #[.int .i64 us.length, .slice ca us.length cc, .slice aj (us.length * us.length) cj, .slice am (us.length * us.length) cm, .int .i64 (bt : Nat), .int .i64 (tp : Nat)] 64) := ⟨_, rfl⟩
    have hA : Below w1.heap.size w1 V := by rw [hV]; exact (Below.refl _ _).alloc (Nat.le_refl _) _
    have zT : Row V w1.heap.size 64 [.int .i64 us.length, .slice ca us.length cc, .slice aj (us.length * us.length) cj, .slice am (us.length * us.length) cm, .int .i64 (bt : Nat), .int .i64 (tp : Nat)] := by rw [hV]; exact Row.new w1 _ _
    have hBV : Below w.heap.size w V := hB1.trans (hA.mono (by omega))
    have hzV := hz.below (hBV.mono hn₀)
    have t0 := zT.cell (i := 0) rfl
    go_wp2
    rw [← hV]
    clear hV hd
    go_loop [23] (fun i => ∃ k : Nat, k ≤ zs.length ∧ i = .int .i64 k ∧ ∀ j, j < k → 0 ≤ zd zs j ∧ zd zs j < (us.length : Int)) (fun i => zs.length - (intOf i).toNat)
    case atStart => exact ⟨0, Nat.zero_le _, rfl, fun j hj => by omega⟩
    case round =>
      obtain ⟨k, hk, rfl, hsofar⟩ := hrel
      by_cases hlt : k < zs.length
      · obtain ⟨b, off, rfl, hb, hcc⟩ := hzV.at hlt
        have hck := hcc k hlt
        clear hcc
        generalize hzk : zd zs k = zk at *
        have HZK := hide hzk
        clear hzk
        by_cases hneg : zk < 0
        · have hd1 : decide (zk < 0) = true := by simpa using hneg
          go_wp2
          go_ret2
          exact ⟨rfl, hBV⟩
        · have hd1 : decide (zk < 0) = false := by simpa using hneg
          by_cases hge : (us.length : Int) ≤ zk
          · have hd2 : decide ((us.length : Int) ≤ zk) = true := by simpa using hge
            go_wp2
            go_ret2
            exact ⟨rfl, hBV⟩
          · have hd2 : decide ((us.length : Int) ≤ zk) = false := by simpa using hge
            go_wp2
            go_round
            case rel => exact ⟨k + 1, by omega, by go_num, fun j hj => by
              by_cases e : j = k
              · rw [e, HZK.out]; omega
              · exact hsofar j (by omega)⟩
            case measure => simp [intOf]; omega
      · exact absurd (fun i hi => hsofar i (by omega)) hnot

set_option maxRecDepth 100000 in
set_option maxHeartbeats 2000000 in
theorem Sub_ok (a : Option Addr) (cap : Nat) (us ds : List Nat) (ag : Option Addr) (cg : Nat) (zs : List Int) (n₀ : Nat) (hf : Fit us) (w : World) (hT : TabAt w) (hw : IsWords n₀ w a us) (hz : ZInts n₀ w ag zs) (hg : 0 < n₀) (hn₀ : n₀ ≤ w.heap.size) (hc : codeOf us.length us = 0) (hD : Tur us us.length [] ds) (hl : latB us ds = true) (hz16 : zs.length ≤ 16) (hin : AllIn us.length zs) :
    Calls Tryd.prog 15 #[.agg #[.int .i64 us.length, .slice a us.length cap], .slice ag zs.length cg] w fun e w' => ∃ av cv s js ms, e = .returned (.tuple #[.slice av (List.length s) cv, .int .i64 0]) ∧ Below w.heap.size w w' ∧ IsInts w'.heap.size w' av s ∧ s.Pairwise (· < ·) ∧ NearTo us js (us.length * us.length) ∧ NearTo ds ms (us.length * us.length) ∧ ∀ x, x ∈ s ↔ Gen (at2 js us.length) (at2 ms us.length) (fun x => x ∈ natL zs) x := by
  obtain ⟨h1, h2, h3⟩ := latB_parts hl
  have hzz := n_zero hc
  rw [decide_eq_false h1] at hzz
  obtain ⟨r0, hb0, hs0⟩ := one_row w 24 (.int .i64 us.length) (.slice a us.length cap) rfl
  have hta := TableOf_ok us.length a cap us ds n₀ hf _ (hT.below hb0 (by omega)) (hw.below (hb0.mono hn₀)) hg (by omega) hc hD hzz h2 h3
  have hl16 : us.length ≤ 16 := by have := code_zero hc; omega
  have hord := (code_zero hc).2.2.2.2
  have hL : ∀ js ms, NearTo us js (us.length * us.length) → NearTo ds ms (us.length * us.length) → Lat us.length (leW us) (at2 js us.length) (at2 ms us.length) (gath (at2 ms us.length) 0 us.length) (gath (at2 js us.length) 0 us.length) := fun js ms h1' h2' => lat_pre hord hD h1' h2' (Nat.pos_of_ne_zero h1)
  have hgl : (natL zs).length = zs.length := natL_len zs
  clear hc hl hzz h2 h3 hD
  go_enter Tryd.func15, Tryd.ntmps15
  go_wp2_with fail
  refine hta.mono ?_
  rintro e w1 ⟨ca, cc, aj, cj, am, cm, js, ms, rfl, hb1, o0, o1, o2, hN1, hN2⟩
  have hs1 := hb1.size
  have hB1 : Below w.heap.size w w1 := hb0.trans (hb1.mono (by omega))
  have L := hL js ms hN1 hN2
  have hlj := hN1.len
  have hlm := hN2.len
  have i1 := ownsRow_ints o1
  have i2 := ownsRow_ints o2
  have HN1 := hide hN1
  have HN2 := hide hN2
  have HL := hide L
  clear hta o0 o1 o2 hN1 hN2 hL L
  generalize gath (at2 ms us.length) 0 us.length = bt at *
  generalize gath (at2 js us.length) 0 us.length = tp at *
  have hd : decide ((16 : Int) < (zs.length : Int)) = false := by simp; omega
  obtain ⟨V, hV⟩ : ∃ V, V = w1.alloc (.cells #[.int .i64 us.length, .slice ca us.length cc, .slice aj (us.length * us.length) cj, .slice am (us.length * us.length) cm, .int .i64 (bt : Nat), .int .i64 (tp : Nat)] 64) := ⟨_, rfl⟩
  have hA : Below w1.heap.size w1 V := by rw [hV]; exact (Below.refl _ _).alloc (Nat.le_refl _) _
  have zT : Row V w1.heap.size 64 [.int .i64 us.length, .slice ca us.length cc, .slice aj (us.length * us.length) cj, .slice am (us.length * us.length) cm, .int .i64 (bt : Nat), .int .i64 (tp : Nat)] := by rw [hV]; exact Row.new w1 _ _
  have hBV : Below w.heap.size w V := hB1.trans (hA.mono (by omega))
  have hzV := hz.below (hBV.mono hn₀)
  have hmade := made_any us.length ca cc aj cj am cm (bt : Nat) (tp : Nat) js ms ag cg (natL zs) V.heap.size hl16 hlj hlm HL.out (natL_lt hin) (by omega) V ((i1.below hA).mono hA.size) ((i2.below hA).mono hA.size) ((natL_ints hin hzV).mono (by have := hBV.size; omega)) (Nat.le_refl _)
  rw [hgl] at hmade
  have t0 := zT.cell (i := 0) rfl
  have t1 := zT.cell (i := 1) rfl
  have t2 := zT.cell (i := 2) rfl
  have t3 := zT.cell (i := 3) rfl
  have t4 := zT.cell (i := 4) rfl
  have t5 := zT.cell (i := 5) rfl
  go_wp2
  rw [← hV]
  clear hV hd
  go_loop [23] (fun i => ∃ k : Nat, k ≤ zs.length ∧ i = .int .i64 k) (fun i => zs.length - (intOf i).toNat)
  case atStart => exact ⟨0, Nat.zero_le _, rfl⟩
  case round =>
    obtain ⟨k, hk, rfl⟩ := hrel
    by_cases hlt : k < zs.length
    · obtain ⟨b, off, rfl, hb, hcc⟩ := hzV.at hlt
      have hck := hcc k hlt
      have hik := hin k hlt
      clear hcc
      generalize zd zs k = zk at *
      have hd1 : decide (zk < 0) = false := by simp; omega
      have hd2 : decide ((us.length : Int) ≤ zk) = false := by simp; omega
      go_wp2
      go_round
      case rel => exact ⟨k + 1, by omega, by go_num⟩
      case measure => simp [intOf]; omega
    · obtain rfl : k = zs.length := by omega
      go_wp2_with (go_at_call 32; refine hmade.mono ?_; rintro e w3 ⟨av, cv, s, rfl, hb3, own3, hs3, hmem⟩)
      go_ret2
      exact ⟨av, cv, s, js, ms, rfl, hBV.trans (hb3.mono hBV.size), ownsRow_ints own3, hs3, HN1.out, HN2.out, hmem⟩
end Go.Proofs.YtdjljnmpffhemaaDoor
