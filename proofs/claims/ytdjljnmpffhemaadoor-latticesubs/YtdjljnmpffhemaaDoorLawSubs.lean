/- The walk of the law LatticeSubs: it answers true, and writes nothing that was there. -/
import Derived.Test.YtdjljnmpffhemaaDoorSub
import Derived.Test.YtdjljnmpffhemaaDoorRefSub
import Derived.Test.YtdjljnmpffhemaaDoorRefMakeOk
import Derived.Test.YtdjljnmpffhemaaDoorInts
import Derived.Test.YtdjljnmpffhemaaDoorTurEx
import Derived.Test.YtdjljnmpffhemaaDoorDualPlain
namespace Go.Proofs.YtdjljnmpffhemaaDoor
open Go.RowKit Go.Shelf

/-- are the first k numbers elements? -/
def okTo (n : Nat) (zs : List Int) : Nat → Bool
  | 0 => true
  | k + 1 => okTo n zs k && decide (0 ≤ zd zs k ∧ zd zs k < (n : Int))
theorem okTo_iff (n : Nat) (zs : List Int) : ∀ k, okTo n zs k = true ↔ ∀ j, j < k → 0 ≤ zd zs j ∧ zd zs j < (n : Int)
  | 0 => by simp [okTo]
  | k + 1 => by
    unfold okTo
    rw [Bool.and_eq_true, okTo_iff n zs k, decide_eq_true_iff]
    constructor
    · rintro ⟨h1, h2⟩ j hj
      by_cases e : j = k
      · subst e; exact h2
      · exact h1 j (by omega)
    · intro h; exact ⟨fun j hj => h j (by omega), h k (by omega)⟩
theorem okTo_all (n : Nat) (zs : List Int) : okTo n zs zs.length = allInB n zs := by
  rw [Bool.eq_iff_iff, okTo_iff, allInB_true]; rfl
def okC (b : Bool) : Int := if b then 0 else 2

set_option maxRecDepth 100000 in
set_option maxHeartbeats 1000000 in
theorem subs_err (n : Int) (a : Option Addr) (len cap : Nat) (ag : Option Addr) (lg cg : Nat) (c : Int) (hc : c ≠ 0) (w : World) (h1 : ∀ W, Below w.heap.size w W → Calls Tryd.prog 15 #[.agg #[.int .i64 n, .slice a len cap], .slice ag lg cg] W fun e w' => e = subErr c ∧ Below W.heap.size W w') (h2 : ∀ W, Below w.heap.size w W → Calls Tryd.prog 16 #[.agg #[.int .i64 n, .slice a len cap]] W fun e w' => e = latErr c ∧ Below W.heap.size W w') :
    Calls Tryd.prog 4 #[.agg #[.int .i64 n, .slice a len cap], .slice ag lg cg] w fun e w' => e = .returned (.bool true) ∧ Below w.heap.size w w' := by
  obtain ⟨r0, hb0, hs0⟩ := one_row w 24 (.int .i64 n) (.slice a len cap) rfl
  have s1 := h1 _ hb0
  unfold subErr at s1
  unfold latErr at h2
  have e1 : (c != 0) = true := by rw [bne_iff_ne]; exact hc
  have e2 : (c == 0) = false := by rw [beq_eq_false_iff_ne]; exact hc
  have e3 : (c == c) = true := by simp
  have lt0 := r0.lt
  clear h1 hc
  go_enter Tryd.func4, Tryd.ntmps4
  go_wp2_with fail
  refine s1.mono ?_
  rintro e w1 ⟨rfl, hb1⟩
  have q0 := row_below r0 hb1 lt0
  have j0 := q0.cell (i := 0) rfl
  have j1 := q0.cell (i := 1) rfl
  have hB1 : Below w.heap.size w w1 := hb0.trans (hb1.mono (by omega))
  go_wp2_with fail
  refine (h2 w1 hB1).mono ?_
  rintro e w2 ⟨rfl, hb2⟩
  go_wp2_with fail
  go_ret
  exact ⟨rfl, (hB1.trans (hb2.mono hB1.size)).alloc (by have := hb2.size; have := hB1.size; omega) _⟩

set_option maxRecDepth 100000 in
set_option maxHeartbeats 2000000 in
theorem subs_bad (a : Option Addr) (cap : Nat) (us ds : List Nat) (ag : Option Addr) (cg : Nat) (zs : List Int) (n₀ : Nat) (hf : Fit us) (h63 : zs.length ≤ 9223372036854775807) (w : World) (hT : TabAt w) (hw : IsWords n₀ w a us) (hz : ZInts n₀ w ag zs) (hg : 0 < n₀) (hn₀ : n₀ ≤ w.heap.size) (hc : codeOf us.length us = 0) (hD : Tur us us.length [] ds) (hl : latB us ds = true) (c : Int) (hbad : (16 < zs.length ∧ c = 1) ∨ (zs.length ≤ 16 ∧ ¬ AllIn us.length zs ∧ c = 2)) :
    Calls Tryd.prog 4 #[.agg #[.int .i64 us.length, .slice a us.length cap], .slice ag zs.length cg] w fun e w' => e = .returned (.bool true) ∧ Below w.heap.size w w' := by
  obtain ⟨r0, hb0, hs0⟩ := one_row w 24 (.int .i64 us.length) (.slice a us.length cap) rfl
  have s1 := Sub_bad a cap us ds ag cg zs n₀ hf h63 _ (hT.below hb0 (by omega)) (hw.below (hb0.mono hn₀)) (hz.below (hb0.mono hn₀)) hg (by omega) hc hD hl c hbad
  have h2 : ∀ W, Below w.heap.size w W → Calls Tryd.prog 16 #[.agg #[.int .i64 us.length, .slice a us.length cap]] W fun e w' => ∃ (a1 : Option Addr) (l1 c1 : Nat) (a2 : Option Addr) (l2 c2 : Nat) (z1 z2 : Int), e = .returned (.tuple #[.agg #[.slice a1 l1 c1, .slice a2 l2 c2, .int .i64 z1, .int .i64 z2], .int .i64 0]) ∧ Below W.heap.size W w' := fun W hW =>
    (RefMake_ok us.length a cap us ds n₀ hf W (hw.below (hW.mono hn₀)) (by have := hW.size; omega) hc hD hl).mono (by
      rintro e w' ⟨aj, cj, am, cm, js, ms, rfl, hb, _⟩
      exact ⟨_, _, _, _, _, _, _, _, rfl, hb⟩)
  have lt0 := r0.lt
  have hl16 : us.length ≤ 16 := by have := code_zero hc; omega
  unfold subErr at s1
  clear hc hl hD
  go_enter Tryd.func4, Tryd.ntmps4
  go_wp2_with fail
  refine s1.mono ?_
  rintro e w1 ⟨rfl, hb1⟩
  have q0 := row_below r0 hb1 lt0
  have lq0 := q0.lt
  have j0 := q0.cell (i := 0) rfl
  have j1 := q0.cell (i := 1) rfl
  have hB1 : Below w.heap.size w w1 := hb0.trans (hb1.mono (by omega))
  go_wp2_with fail
  refine (h2 w1 hB1).mono ?_
  rintro e w2 ⟨a1, l1, c1, a2, l2, c2, z1, z2, rfl, hb2⟩
  have hs2 := hb2.size
  have hA : Below w2.heap.size w2 (w2.alloc (.cells #[.slice a1 l1 c1, .slice a2 l2 c2, .int .i64 z1, .int .i64 z2] 44)) := (Below.refl _ _).alloc (Nat.le_refl _) _
  have hBV : Below w.heap.size w (w2.alloc (.cells #[.slice a1 l1 c1, .slice a2 l2 c2, .int .i64 z1, .int .i64 z2] 44)) := (hB1.trans (hb2.mono hB1.size)).trans (hA.mono (by have := hB1.size; omega))
  have q1 := row_below q0 hb2 lq0
  have lq1 := q1.lt
  have z0 := row_below q1 hA lq1
  rcases hbad with ⟨h16, rfl⟩ | ⟨h16, hnot, rfl⟩
  · have hd : decide ((16 : Int) < (zs.length : Int)) = true := by simp; omega
    go_wp2_with fail
    go_ret
    exact ⟨rfl, hBV⟩
  · have hd : decide ((16 : Int) < (zs.length : Int)) = false := by simp; omega
    obtain ⟨V, hV⟩ : ∃ V, V = w2.alloc (.cells #[.slice a1 l1 c1, .slice a2 l2 c2, .int .i64 z1, .int .i64 z2] 44) := ⟨_, rfl⟩
    rw [← hV] at hBV z0
    have hzV := hz.below (hBV.mono hn₀)
    have k0 := z0.cell (i := 0) rfl
    go_wp2_with fail
    rw [← hV]
    clear hV hd hA
    go_loop [8, 33] (fun c i => ∃ k : Nat, k ≤ zs.length ∧ i = .int .i64 k ∧ c = .int .i64 (okC (okTo us.length zs k))) (fun _ i => zs.length - (intOf i).toNat)
    case atStart => exact ⟨0, Nat.zero_le _, rfl, rfl⟩
    case round =>
      obtain ⟨k, hk, rfl, rfl⟩ := hrel
      by_cases hlt : k < zs.length
      · obtain ⟨b, off, rfl, hb, hcc⟩ := hzV.at hlt
        have hck := hcc k hlt
        have hstep : okTo us.length zs (k + 1) = (okTo us.length zs k && decide (0 ≤ zd zs k ∧ zd zs k < (us.length : Int))) := rfl
        clear hcc
        generalize zd zs k = zk at *
        by_cases hneg : zk < 0
        · have hd1 : decide (zk < 0) = true := by simpa using hneg
          have HS : Hid (okTo us.length zs (k + 1) = false) := by rw [hstep, decide_eq_false (by omega), Bool.and_false]; rfl
          clear hstep
          go_wp2
          go_round
          case rel => exact ⟨k + 1, by omega, by go_num, by rw [HS.out]; rfl⟩
          case measure => simp [intOf]; omega
        · have hd1 : decide (zk < 0) = false := by simpa using hneg
          by_cases hge : (us.length : Int) ≤ zk
          · have hd2 : decide ((us.length : Int) ≤ zk) = true := by simpa using hge
            have HS : Hid (okTo us.length zs (k + 1) = false) := by rw [hstep, decide_eq_false (by omega), Bool.and_false]; rfl
            clear hstep
            go_wp2
            go_round
            case rel => exact ⟨k + 1, by omega, by go_num, by rw [HS.out]; rfl⟩
            case measure => simp [intOf]; omega
          · have hd2 : decide ((us.length : Int) ≤ zk) = false := by simpa using hge
            have HS : Hid (okTo us.length zs (k + 1) = okTo us.length zs k) := by rw [hstep, decide_eq_true (by omega), Bool.and_true]; rfl
            clear hstep
            go_wp2
            go_round
            case rel => exact ⟨k + 1, by omega, by go_num, by rw [HS.out]⟩
            case measure => simp [intOf]; omega
      · obtain rfl : k = zs.length := by omega
        have hfin : okTo us.length zs zs.length = false := by rw [okTo_all]; exact allInB_false.2 hnot
        rw [hfin]
        have h2' : okC false = 2 := rfl
        rw [h2']
        clear hfin h2'
        go_wp2
        go_ret
        exact ⟨rfl, hBV⟩

set_option maxRecDepth 100000 in
set_option maxHeartbeats 2000000 in
theorem subs_ok (a : Option Addr) (cap : Nat) (us ds : List Nat) (ag : Option Addr) (cg : Nat) (zs : List Int) (n₀ : Nat) (hf : Fit us) (w : World) (hT : TabAt w) (hw : IsWords n₀ w a us) (hz : ZInts n₀ w ag zs) (hg : 0 < n₀) (hn₀ : n₀ ≤ w.heap.size) (hc : codeOf us.length us = 0) (hD : Tur us us.length [] ds) (hl : latB us ds = true) (hz16 : zs.length ≤ 16) (hin : AllIn us.length zs) :
    Calls Tryd.prog 4 #[.agg #[.int .i64 us.length, .slice a us.length cap], .slice ag zs.length cg] w fun e w' => e = .returned (.bool true) ∧ Below w.heap.size w w' := by
  have hord := (code_zero hc).2.2.2.2
  have hl16 : us.length ≤ 16 := by have := code_zero hc; omega
  have hpos : 0 < us.length := Nat.pos_of_ne_zero (latB_parts hl).1
  obtain ⟨r0, hb0, hs0⟩ := one_row w 24 (.int .i64 us.length) (.slice a us.length cap) rfl
  have s1 := Sub_ok a cap us ds ag cg zs n₀ hf _ (hT.below hb0 (by omega)) (hw.below (hb0.mono hn₀)) (hz.below (hb0.mono hn₀)) hg (by omega) hc hD hl hz16 hin
  have hop : ∀ W, Below w.heap.size w W → _ := fun W hW => RefMake_ok us.length a cap us ds n₀ hf W (hw.below (hW.mono hn₀)) (by have := hW.size; omega) hc hD hl
  have hL : ∀ js ms, NearTo us js (us.length * us.length) → NearTo ds ms (us.length * us.length) → Lat us.length (leW us) (at2 js us.length) (at2 ms us.length) (gath (at2 ms us.length) 0 us.length) (gath (at2 js us.length) 0 us.length) := fun js ms h1 h2 => lat_pre hord hD h1 h2 hpos
  have hU1 : ∀ js ks, NearTo us js (us.length * us.length) → NearTo us ks (us.length * us.length) → js = ks := fun js ks h1 h2 => NearTo.unique hord h1 h2
  have hU2 : ∀ js ks, NearTo ds js (us.length * us.length) → NearTo ds ks (us.length * us.length) → js = ks := fun js ks h1 h2 => NearTo.unique (tur_ord hord hD) h1 h2
  have hgl : (natL zs).length = zs.length := natL_len zs
  have lt0 := r0.lt
  clear hc hl hD
  go_enter Tryd.func4, Tryd.ntmps4
  go_wp2_with fail
  refine s1.mono ?_
  rintro e w1 ⟨av, cv, s, js, ms, rfl, hb1, is, hsort, k1, k2, hmem⟩
  clear s1
  have q0 := row_below r0 hb1 lt0
  have lq0 := q0.lt
  have j0 := q0.cell (i := 0) rfl
  have j1 := q0.cell (i := 1) rfl
  have hB1 : Below w.heap.size w w1 := hb0.trans (hb1.mono (by omega))
  have s2 := hop _ hB1
  clear hop
  go_wp2_with fail
  refine s2.mono ?_
  rintro e w2 ⟨aj, cj, am, cm, js', ms', rfl, hb2, i3, i4, n1, n2⟩
  clear s2 j0 j1
  obtain rfl := hU1 js js' k1 n1
  obtain rfl := hU2 ms ms' k2 n2
  have L := hL js ms n1 n2
  have hlj := n1.len
  have hlm := n2.len
  have hj : ∀ {x y}, x < us.length → y < us.length → at2 js us.length x y < us.length := fun hx hy => L.jlt hx hy
  have hm : ∀ {x y}, x < us.length → y < us.length → at2 ms us.length x y < us.length := fun hx hy => L.mlt hx hy
  clear hL L n1 n2 hU1 hU2 k1 k2
  generalize gath (at2 ms us.length) 0 us.length = bt at *
  generalize gath (at2 js us.length) 0 us.length = tp at *
  have hs2 := hb2.size
  obtain ⟨V, hV⟩ : ∃ V, V = w2.alloc (.cells #[.slice aj (us.length * us.length) cj, .slice am (us.length * us.length) cm, .int .i64 (bt : Nat), .int .i64 (tp : Nat)] 44) := ⟨_, rfl⟩
  have hA : Below w2.heap.size w2 V := by rw [hV]; exact (Below.refl _ _).alloc (Nat.le_refl _) _
  have zL : Row V w2.heap.size 44 [.slice aj (us.length * us.length) cj, .slice am (us.length * us.length) cm, .int .i64 (bt : Nat), .int .i64 (tp : Nat)] := by rw [hV]; exact Row.new w2 _ _
  have hBV : Below w.heap.size w V := (hB1.trans (hb2.mono hB1.size)).trans (hA.mono (by have := hB1.size; omega))
  have z0 := row_below (row_below q0 hb2 lq0) hA (by omega)
  have hzV := hz.below (hBV.mono hn₀)
  have hVs := hA.size
  have isV : IsInts V.heap.size V av s := ((is.below hb2).below (hA.mono hs2)).mono (by omega)
  have hrs := RefSub_any a cap us aj cj am cm bt tp js ms ag cg (natL zs) V.heap.size hl16 hlj hlm hj hm (natL_lt hin) (by omega) V ((i3.below hA).mono hVs) ((i4.below hA).mono hVs) ((natL_ints hin hzV).mono (by have := hBV.size; omega)) (Nat.le_refl _)
  rw [hgl] at hrs
  have k0 := z0.cell (i := 0) rfl
  have k1 := z0.cell (i := 1) rfl
  have l0 := zL.cell (i := 0) rfl
  have l1 := zL.cell (i := 1) rfl
  have l2 := zL.cell (i := 2) rfl
  have l3 := zL.cell (i := 3) rfl
  have hd : decide ((16 : Int) < (zs.length : Int)) = false := by simp; omega
  go_wp2_with fail
  rw [← hV]
  clear hV hd hA
  go_loop [8, 33] (fun c i => ∃ k : Nat, k ≤ zs.length ∧ i = .int .i64 k ∧ c = .int .i64 0) (fun _ i => zs.length - (intOf i).toNat)
  case atStart => exact ⟨0, Nat.zero_le _, rfl, rfl⟩
  case round =>
    obtain ⟨k, hk, rfl, rfl⟩ := hrel
    by_cases hlt : k < zs.length
    · obtain ⟨b, off, rfl, hb, hcc⟩ := hzV.at hlt
      have hck := hcc k hlt
      have hik := hin k hlt
      clear hcc
      generalize zd zs k = zk at *
      have hd1 : decide (zk < 0) = false := by simp; omega
      have hd2 : decide ((us.length : Int) ≤ zk) = false := by simp; omega
      go_wp2
      go_round
      case rel => exact ⟨k + 1, by omega, by go_num, rfl⟩
      case measure => simp [intOf]; omega
    · obtain rfl : k = zs.length := by omega
      go_wp2_with fail
      refine hrs.mono ?_
      rintro e w3 ⟨av2, cv2, s2, rfl, hb3, is2, hsort2, hmem2⟩
      obtain rfl : s = s2 := rise_ext hsort hsort2 fun x => by rw [hmem x, hmem2 x]
      have hl17 : s.length ≤ us.length := nodup_lt (hsort.imp fun h => by omega) fun x hx => by
        have hg' := (hmem x).1 hx
        exact hg' (fun y => y < us.length) (natL_lt hin) (fun p q hp hq => ⟨hj hp hq, hm hp hq⟩)
      have ht := TimesSame_any av av2 cv cv2 s s w3.heap.size rfl (by omega) w3 ((isV.below hb3).mono hb3.size) is2
      have hself : sameIB s s = true := by unfold sameIB; simp
      rw [hself] at ht
      go_wp2_with fail
      refine ht.mono ?_
      rintro e w4 ⟨rfl, hb4⟩
      go_wp2_with fail
      go_ret
      exact ⟨rfl, (hBV.trans (hb3.mono hBV.size)).trans (hb4.mono (by have := hb3.size; have := hBV.size; omega))⟩

/-- **LatticeSubs answers true, for every order and any numbers, and writes nothing that was there** -/
theorem subs_any (n : Int) (a : Option Addr) (cap : Nat) (us : List Nat) (ag : Option Addr) (cg : Nat) (zs : List Int) (n₀ : Nat) (hf : Fit us) (h63 : zs.length ≤ 9223372036854775807) (w : World) (hT : TabAt w) (hw : IsWords n₀ w a us) (hz : ZInts n₀ w ag zs) (hg : 0 < n₀) (hn₀ : n₀ ≤ w.heap.size) :
    Calls Tryd.prog 4 #[.agg #[.int .i64 n, .slice a us.length cap], .slice ag zs.length cg] w fun e w' => e = .returned (.bool true) ∧ Below w.heap.size w w' := by
  have hTW : ∀ {W}, Below w.heap.size w W → TabAt W := fun hW => hT.below hW (by omega)
  have hwW : ∀ {W}, Below w.heap.size w W → IsWords n₀ W a us := fun hW => hw.below (hW.mono hn₀)
  have hnW : ∀ {W}, Below w.heap.size w W → n₀ ≤ W.heap.size := fun hW => by have := hW.size; omega
  have hcomp : ∀ {W X}, Below w.heap.size w W → Below W.heap.size W X → Below w.heap.size w X := fun hW hX => hW.trans (hX.mono hW.size)
  by_cases hc : codeOf n us = 0
  · obtain ⟨ds, hD⟩ := tur_ex hf (by have := code_zero hc; omega)
    cases hl : latB us ds with
    | true =>
      have en := (code_zero hc).2.2.1.symm
      subst en
      by_cases h16 : 16 < zs.length
      · exact subs_bad a cap us ds ag cg zs n₀ hf h63 w hT hw hz hg hn₀ hc hD hl 1 (.inl ⟨h16, rfl⟩)
      · cases hin : allInB us.length zs with
        | true => exact subs_ok a cap us ds ag cg zs n₀ hf w hT hw hz hg hn₀ hc hD hl (by omega) (allInB_true.1 hin)
        | false => exact subs_bad a cap us ds ag cg zs n₀ hf h63 w hT hw hz hg hn₀ hc hD hl 2 (.inr ⟨by omega, allInB_false.1 hin, rfl⟩)
    | false => exact subs_err n a us.length cap ag zs.length cg 5 (by decide) w (fun W hW => Sub_err n a us.length cap ag zs.length cg 5 (by decide) W fun X hX => TableOf_none n a cap us ds n₀ hf X (hTW (hcomp hW hX)) (hwW (hcomp hW hX)) hg (hnW (hcomp hW hX)) hc hD hl) (fun W hW => RefMake_none n a cap us ds n₀ hf W (hwW hW) (hnW hW) hc hD hl)
  · exact subs_err n a us.length cap ag zs.length cg _ hc w (fun W hW => Sub_err n a us.length cap ag zs.length cg _ hc W fun X hX => TableOf_bad n a cap us n₀ hf X (hTW (hcomp hW hX)) (hwW (hcomp hW hX)) hg (hnW (hcomp hW hX)) hc) (fun W hW => RefMake_bad n a cap us n₀ hf W (hwW hW) (hnW hW) hc)
end Go.Proofs.YtdjljnmpffhemaaDoor
