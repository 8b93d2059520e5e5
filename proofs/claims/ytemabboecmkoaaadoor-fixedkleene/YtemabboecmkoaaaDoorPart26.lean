/- The contract of the program's Chain: what is wrong, or the longest chain, the least where several are. The walk of the law FixedKleene: it answers true, and writes nothing that was there. -/
import Derived.Test.YtemabboecmkoaaaDoorPart24
import Derived.Test.YtemabboecmkoaaaDoorPart25
import Derived.Test.YtemabboecmkoaaaDoorPart20
namespace Go.Proofs.YtemabboecmkoaaaDoor
open Go.RowKit Go.Shelf

def slcLen : Value → Nat
  | .slice _ n _ => n
  | _ => 0
theorem rowInts {W : World} {B n₀ : Nat} {t : TypeId} {l : List Nat} (h : Row W B t (ivals l)) (hB : B < n₀) : IsInts n₀ W (some ⟨B, 0, none⟩) l :=
  .inr ⟨B, 0, rfl, hB, fun i hi => by rw [Nat.zero_add]; exact h.cell (ivals_at hi)⟩
theorem ahead_above {us : List Nat} (hf : Fit us) : ∀ i, i < us.length → ∀ x, x < us.length → underB us i x = aheadB (othL us) x i := fun i hi x _ => by
  unfold aheadB; rw [hasB_above hf hi]

set_option maxRecDepth 100000 in
set_option maxHeartbeats 1000000 in
theorem Chain_bad (n : Int) (a : Option Addr) (cap : Nat) (us : List Nat) (n₀ : Nat) (hf : Fit us) (w : World) (hT : TabAt w) (hw : IsWords n₀ w a us) (hg : 0 < n₀) (hn₀ : n₀ ≤ w.heap.size) (hc : codeOf n us ≠ 0) :
    Calls Tryd.prog 19 #[.agg #[.int .i64 n, .slice a us.length cap]] w fun e w' => e = .returned (.tuple #[.slice none 0 0, .int .i64 (codeOf n us)]) ∧ Below w.heap.size w w' := by
  have r0 := Row.new w 24 [.int .i64 n, .slice a us.length cap]
  have hb0 : Below w.heap.size w (w.alloc (.cells #[.int .i64 n, .slice a us.length cap] 24)) := (Below.refl _ _).alloc (Nat.le_refl _) _
  have hck := Check_any n a cap us n₀ hf _ (hT.below hb0 (by omega)) (hw.below (hb0.mono hn₀)) hg (by simp; omega)
  generalize codeOf n us = c at *
  have hne : (c != 0) = true := by rw [bne_iff_ne]; exact hc
  have Hb := hide hb0
  clear hb0 hc
  go_enter Tryd.func19, Tryd.ntmps19
  go_wp2_with (go_at_call 23; refine hck.mono ?_; rintro e w1 ⟨rfl, hb1⟩)
  go_ret2
  exact ⟨rfl, Hb.out.trans (hb1.mono (by simp))⟩

set_option maxRecDepth 100000 in
set_option maxHeartbeats 1000000 in
theorem Chain_ok (n : Int) (a : Option Addr) (cap : Nat) (us : List Nat) (n₀ : Nat) (hf : Fit us) (w : World) (hT : TabAt w) (hw : IsWords n₀ w a us) (hg : 0 < n₀) (hn₀ : n₀ ≤ w.heap.size) (hc : codeOf n us = 0) :
    Calls Tryd.prog 19 #[.agg #[.int .i64 n, .slice a us.length cap]] w fun e w' => ∃ av cv hs M, e = .returned (.tuple #[.slice av M cv, .int .i64 0]) ∧ Below w.heap.size w w' ∧ w'.ownsRow w.heap.size 3 1 (.slice av M cv) M (ivals (chainF us (wd hs) M M)) ∧ IsHt (fun x i => underB us i x) us.length (wd hs) ∧ TopOf (wd hs) us.length M ∧ M ≤ us.length + 1 := by
  obtain ⟨_, h16, hlen, hin, hord⟩ := code_zero hc
  have hl16 : us.length ≤ 16 := by omega
  obtain ⟨i0, hi, hz0, hz1, hz2⟩ := info_parts info_int
  have r0 := Row.new w 24 [.int .i64 n, .slice a us.length cap]
  have hb0 : Below w.heap.size w (w.alloc (.cells #[.int .i64 n, .slice a us.length cap] 24)) := (Below.refl _ _).alloc (Nat.le_refl _) _
  have hck := Check_any n a cap us n₀ hf _ (hT.below hb0 (by omega)) (hw.below (hb0.mono hn₀)) hg (by simp; omega)
  rw [hc] at hck
  have c00 := r0.cell (i := 0) rfl
  have c01 := r0.cell (i := 1) rfl
  have Hlen := hide hlen
  clear hlen hc
  go_enter Tryd.func19, Tryd.ntmps19
  go_wp2_with fail
  refine hck.mono ?_
  rintro e w1 ⟨rfl, hb1⟩
  have q0 := row_below r0 hb1 r0.lt
  have hB1 : Below w.heap.size w w1 := hb0.trans (hb1.mono (by simp))
  have hs1 := hB1.size
  have ltQ := q0.lt
  have d00 := q0.cell (i := 0) rfl
  have d01 := q0.cell (i := 1) rfl
  clear hck c00 c01 r0 hb0 hb1
  go_wp2_with fail
  refine (others_any a cap us n₀ hf hl16 w1 (hw.below (hB1.mono hn₀)) (by omega)).mono ?_
  rintro e w2 ⟨rfl, hb2, rC⟩
  have hs2 := hb2.size
  have hB2 : Below w.heap.size w w2 := hB1.trans (hb2.mono hs1)
  have ltC := rC.lt
  have hel : (othL us).length = us.length := othL_len us
  have hacy : Acy (aheadB (othL us)) us.length := acy_congr (ahead_above hf) (acy_over hord)
  have hso := heights_any (some ⟨w1.heap.size, 0, none⟩) us.length (othL us) w2.heap.size (othL_fit hf) (inside_above hf hin) (by rw [hel]; exact hl16) (by rw [hel]; exact hacy) w2 (hT.below hB2 (by omega)) (rC.words ltC) (by omega) (Nat.le_refl _)
  rw [hel] at hso
  go_wp2_with fail
  refine hso.mono ?_
  rintro e w3 ⟨hs, rfl, hb3, rH, hK⟩
  have hs3 := hb3.size
  have hB3 : Below w.heap.size w w3 := hB2.trans (hb3.mono (by omega))
  have rA := row_below rC hb3 ltC
  have q3 := row_below (row_below q0 hb2 ltQ) hb3 (by omega)
  have e00 := q3.cell (i := 0) rfl
  have hht : IsHt (fun x i => underB us i x) us.length (wd hs) := ht_congr (fun i hi x hx => (ahead_above hf i hi x hx).symm) (hK.isHt hacy)
  have hsm := hK.small
  have hhl := hK.len
  have ltH := rH.lt
  have hT3 := hT.below hB3 (by omega)
  have hlen := Hlen.out
  subst hlen
  clear hso d00 d01 hK hacy
  go_wp2
  go_loop [7, 26] (fun m i => ∃ k M : Nat, k ≤ us.length ∧ i = .int .i64 k ∧ m = .int .i64 ((M : Int) - 1) ∧ TopOf (wd hs) k M ∧ M ≤ us.length + 1) (fun _ i => us.length - (intOf i).toNat)
  case atStart => exact ⟨0, 0, Nat.zero_le _, rfl, rfl, top_start _, by omega⟩
  case round =>
    obtain ⟨k, M, hk, rfl, rfl, hM, hMl⟩ := hrel
    by_cases hlt : k < us.length
    · have cH := rH.cell (i := k) (ivals_at (by rw [hhl]; exact hlt))
      have hsk := hsm k
      go_wp2
      go_round
      case rel => exact ⟨k + 1, max M (wd hs k + 1), by omega, by go_num, by congr 1; split <;> omega, top_step hM, by omega⟩
      case measure => simp [intOf]; omega
    · obtain rfl : k = us.length := by omega
      have hmore := chain_more hht hM
      go_wp2_with (go_at_call 33; refine (all_any us.length (by omega) _).mono ?_; rintro e w' ⟨rfl, hww⟩; rw [hww]; clear hww w')
      go_loopw [10, 11, 12] (fun v m q wr => ∃ (t : Nat) (L : List Nat) (av : Option Addr) (cv x : Nat), t ≤ M ∧ L = chainF us (wd hs) M t ∧ v = .slice av t cv ∧ m = .int .u32 (x : Nat) ∧ q = .int .i64 ((M : Int) - t - 1) ∧ x < 4294967296 ∧ (∀ z, hasB x z = mayC us L z) ∧ wr.ownsRow w3.heap.size 3 1 (.slice av t cv) t (ivals L) ∧ Below w3.heap.size w3 wr) (fun v _ _ _ => M - slcLen v)
      case atStart => exact ⟨0, [], none, 0, allW us.length, Nat.zero_le _, rfl, rfl, rfl, by congr 1, allW_lt (by omega), fun z => by rw [hasB_all, mayC_nil], World.ownsRow_nil .., Below.refl _ _⟩
      case round =>
        obtain ⟨t, L, av, cv, x, ht, hL, rfl, rfl, rfl, hx, hmay, hown, hbr⟩ := hrel
        have HL := hide hL
        clear hL e00
        have hrs := hbr.size
        by_cases hlt' : t < M
        · have hq : ((M : Int) - t - 1) = ((M - t - 1 : Nat) : Int) := by omega
          have hLl : L.length = t := by rw [HL.out, chainF_len]
          have hmo := hmore t hlt'
          rw [← HL.out, hLl] at hmo
          rw [hq]
          have hlo := leastOf_any x (some ⟨w2.heap.size, 0, none⟩) us.length hs (M - t - 1) w3.heap.size hx (fun y hy => by rw [hmay] at hy; rw [hhl]; exact mayC_lt hy) (by
            obtain ⟨z, hz1, hz2⟩ := hmo
            exact ⟨z, by rw [hmay]; exact hz1, by omega⟩) wr (hT3.below hbr (by omega)) ((rowInts rH ltH).below hbr) (by omega) hrs
          rw [hhl] at hlo
          clear hq hmo
          have HLl := hide hLl
          clear hLl
          go_wp2_with (first
            | (go_at_call 34; refine hlo.mono ?_; rintro e w4 ⟨y, rfl, hb4, hy1, hy2, hy3⟩; have hown4 := ownsRow_below hown hb4; have hs4 := hb4.size; have hyn : y < us.length := by rw [hmay] at hy1; exact mayC_lt hy1)
            | (at_builtin; refine wpList_append_own _ rfl _ _ 25 rfl w3.heap.size 3 i0 (.int .i64 0) 1 8 Tryd.underlying25 hi hz0 hz1 hz2 rfl (by decide) _ _ _ rfl (hown4.alloc _) ⟨w4.heap.size, 0, none⟩ 1 1 [.int .i64 (y : Nat)] rfl rfl (cell_one_new _ _ _) (fun u hu => by simp at hu; subst hu; rfl) (by unfold maxLen; omega) (by omega) (by simp; omega) ?_; intro v' w5 hown5 hgrow5 _; obtain ⟨g', cap', rfl⟩ := ownsRow_succ hown5; have hout : ∀ j, Value.ownBlock (.slice av t cv) = some j → w3.heap.size ≤ j := (fun j ej => by
                apply Nat.le_of_not_lt; intro hjl
                exact ownBlock_ge hown (b := j) (by omega) ej.symm); have hb5 : Below w3.heap.size w3 w5 := ((hbr.trans (hb4.mono hrs)).alloc (by omega) _).grown hgrow5 (by simp; omega) hout; have cA := (row_below rA hb5 (by omega)).cell (i := y) (wvals_at (by rw [hel]; exact hyn))))
          have hnx : nextC us (wd hs) M L = y := nextC_of (by rw [← hmay]; exact hy1) (by rw [HLl.out]; omega) (fun z hz hzm => by rw [HLl.out]; have := hy3 z hz (by rw [hmay]; exact hzm); omega)
          exact ⟨⟨t + 1, L ++ [y], some ⟨g', 0, none⟩, cap', wd (othL us) y, by omega, by rw [← hnx, HL.out]; rfl, rfl, rfl, by congr 1; omega, othL_fit hf y, fun z => by
            rw [mayC_snoc, hasB_above hf hyn]
            cases hu : underB us y z with
            | false => simp
            | true => simp [under_lt hf hin hyn hu], by rw [ivals_snoc]; exact hown5, hb5⟩, by simp only [slcLen]; omega⟩
        · obtain rfl : t = M := by omega
          go_wp2
          go_ret2
          have e1 := HL.out
          subst e1
          exact ⟨av, cv, hs, t, rfl, hB3.trans (hbr.mono (by omega)), ownsRow_base hown (by omega), hht, hM, hMl⟩
end Go.Proofs.YtemabboecmkoaaaDoor

namespace Go.Proofs.YtemabboecmkoaaaDoor
open Go.RowKit Go.Shelf

/-- what grows step by step has no more steps than the longest chain has elements, less one -/
theorem rise_len {us : List Nat} {g : Nat → Nat} {M K : Nat} (hg : IsHt (fun x i => underB us i x) us.length g) (ht : TopOf g us.length M) {s : Nat → Nat} (hs : ∀ j, s j < us.length) (hr : ∀ j, j < K → underB us (s j) (s (j + 1)) = true) : K < M := by
  have key : ∀ k, k ≤ K → g (s k) + k ≤ g (s 0) := fun k => by
    induction k with
    | zero => intro _; omega
    | succ k ih =>
      intro hk
      have h1 := ih (by omega)
      have h2 := (hg (s k) (hs k)).1 (s (k + 1)) (hs (k + 1)) (hr k (by omega))
      omega
  have h1 := key K (Nat.le_refl _)
  have h2 := ht.1 (s 0) (hs 0)
  omega
theorem fall_len {us : List Nat} {g : Nat → Nat} {M K : Nat} (hg : IsHt (fun x i => underB us i x) us.length g) (ht : TopOf g us.length M) {s : Nat → Nat} (hs : ∀ j, s j < us.length) (hr : ∀ j, j < K → underB us (s (j + 1)) (s j) = true) : K < M := by
  have key : ∀ k, k ≤ K → k ≤ g (s k) := fun k => by
    induction k with
    | zero => intro _; omega
    | succ k ih =>
      intro hk
      have h1 := ih (by omega)
      have h2 := (hg (s (k + 1)) (hs (k + 1))).1 (s k) (hs k) (hr k (by omega))
      omega
  have h1 := key K (Nat.le_refl _)
  have h2 := ht.1 (s K) (hs K)
  omega

set_option maxRecDepth 100000 in
set_option maxHeartbeats 4000000 in
/-- **FixedKleene answers true, for every order and any numbers, and writes nothing that was there** -/
theorem fkle_any (n : Int) (a : Option Addr) (cap : Nat) (us : List Nat) (ag : Option Addr) (cg : Nat) (zs : List Int) (n₀ : Nat) (hf : Fit us) (h63 : zs.length ≤ 9223372036854775807) (w : World) (hT : TabAt w) (hw : IsWords n₀ w a us) (hz : ZInts n₀ w ag zs) (hg : 0 < n₀) (hn₀ : n₀ ≤ w.heap.size) :
    Calls Tryd.prog 6 #[.agg #[.int .i64 n, .slice a us.length cap], .slice ag zs.length cg] w fun e w' => e = .returned (.bool true) ∧ Below w.heap.size w w' := by
  have hTW : ∀ {W}, Below w.heap.size w W → TabAt W := fun hW => hT.below hW (by omega)
  have hwW : ∀ {W}, Below w.heap.size w W → IsWords n₀ W a us := fun hW => hw.below (hW.mono hn₀)
  have hzW : ∀ {W}, Below w.heap.size w W → ZInts n₀ W ag zs := fun hW => hz.below (hW.mono hn₀)
  have hnW : ∀ {W}, Below w.heap.size w W → n₀ ≤ W.heap.size := fun hW => by have := hW.size; omega
  obtain ⟨r0, hb0, hs0⟩ := one_row w 24 (.int .i64 n) (.slice a us.length cap) rfl
  have s2 := Least_all n a cap us ag cg zs n₀ hf h63 _ (hTW hb0) (hwW hb0) (hzW hb0) hg (hnW hb0)
  have s3 : ∀ W, Below w.heap.size w W → _ := fun W hW => Great_all n a cap us ag cg zs n₀ hf h63 W (hTW hW) (hwW hW) (hzW hW) hg (hnW hW)
  have s4 : ∀ W, Below w.heap.size w W → Calls Tryd.prog 19 #[.agg #[.int .i64 n, .slice a us.length cap]] W fun e w' => ∃ av M cv z, e = .returned (.tuple #[.slice av M cv, .int .i64 z]) ∧ Below W.heap.size W w' ∧ (endCode n us zs = 0 → z = 0 ∧ ∃ g : Nat → Nat, IsHt (fun x i => underB us i x) us.length g ∧ TopOf g us.length M) := fun W hW => by
    by_cases hc : codeOf n us = 0
    · refine (Chain_ok n a cap us n₀ hf W (hTW hW) (hwW hW) hg (hnW hW) hc).mono ?_
      rintro e w' ⟨av, cv, hs, M, he, hb, _, hh, ht, _⟩
      exact ⟨av, M, cv, 0, he, hb, fun _ => ⟨rfl, wd hs, hh, ht⟩⟩
    · refine (Chain_bad n a cap us n₀ hf W (hTW hW) (hwW hW) hg (hnW hW) hc).mono ?_
      rintro e w' ⟨he, hb⟩
      exact ⟨none, 0, 0, codeOf n us, he, hb, fun h => absurd (endCode_zero h).1 hc⟩
  unfold endErr at s2 s3
  have lt0 := r0.lt
  have j0 := r0.cell (i := 0) rfl
  have j1 := r0.cell (i := 1) rfl
  have HE : endCode n us zs = 0 → IsMap us.length us.length (mapN zs) ∧ Mono us (mapN zs) := fun h => by
    obtain ⟨hc, _, hm⟩ := endCode_zero h
    obtain ⟨hI, hmo⟩ := mapCode_zero hm
    exact ⟨into_map hI, monoB_true.1 hmo⟩
  generalize endCode n us zs = c at *
  go_enter Tryd.func6, Tryd.ntmps6
  go_wp2_with fail
  with_reducible refine s2.mono ?_
  rintro e w1 ⟨hb1, hh1⟩
  clear s2 j0 j1
  have q0 := row_below r0 hb1 lt0
  have lq0 := q0.lt
  have j0 := q0.cell (i := 0) rfl
  have j1 := q0.cell (i := 1) rfl
  have hB1 : Below w.heap.size w w1 := hb0.trans (hb1.mono (by omega))
  have s3' := s3 w1 hB1
  clear s3
  by_cases h0 : c = 0
  · rcases hh1 with ⟨hx, _⟩ | ⟨_, b, y, K, hbot, hcy, _, _, rfl⟩
    · exact absurd h0 hx
    obtain ⟨hmap, hmo⟩ := HE h0
    subst h0
    go_wp2_with fail
    with_reducible refine s3'.mono ?_
    rintro e w2 ⟨hb2, hh2⟩
    rcases hh2 with ⟨hx, _⟩ | ⟨_, t, z, M, htop, hcz, _, _, rfl⟩
    · exact absurd rfl hx
    clear j0 j1 s3'
    have q1 := row_below q0 hb2 lq0
    have j0 := q1.cell (i := 0) rfl
    have j1 := q1.cell (i := 1) rfl
    have hB2 : Below w.heap.size w w2 := hB1.trans (hb2.mono hB1.size)
    have s4' := s4 w2 hB2
    clear s4
    have hb := bot_step hmap hmo hbot hcy
    have ht := top_step_ hmap hmo htop hcz
    have l1 := stepN_lt hmap hbot.1
    have l2 := stepN_lt hmap htop.1
    clear hmap hmo hbot htop hcy hcz HE
    go_wp2_with fail
    with_reducible refine s4'.mono ?_
    rintro e w3 ⟨av, L, cv, z', rfl, hb3, hz'⟩
    obtain ⟨rfl, g, hg', ht'⟩ := hz' trivial
    have m1 := rise_len hg' ht' l1 hb
    have m2 := fall_len hg' ht' l2 ht
    have hB3 : Below w.heap.size w w3 := hB2.trans (hb3.mono hB2.size)
    clear hz' hb ht l1 l2 hg' ht'
    go_wp2_with fail
    go_ret
    exact ⟨rfl, hB3⟩
  · have hh1 := hh1.resolve_right fun h => h0 h.1
    obtain ⟨_, rfl⟩ := hh1
    have e1 : (c != 0) = true := by rw [bne_iff_ne]; exact h0
    have e0 : (c == c) = true := by simp
    have s5 := s3'.mono (R' := fun e w' => e = Ending.returned (.tuple #[.int .i64 0, .int .i64 0, .int .i64 c]) ∧ Below w1.heap.size w1 w') (fun e w' h => ⟨(h.2.resolve_right fun h' => h0 h'.1).2, h.1⟩)
    clear h0 s3' HE
    go_wp2_with fail
    with_reducible refine s5.mono ?_
    rintro e w2 ⟨rfl, hb2⟩
    clear j0 j1 s5
    have q1 := row_below q0 hb2 lq0
    have j0 := q1.cell (i := 0) rfl
    have j1 := q1.cell (i := 1) rfl
    have hB2 : Below w.heap.size w w2 := hB1.trans (hb2.mono hB1.size)
    have s4' := s4 w2 hB2
    clear s4
    go_wp2_with fail
    with_reducible refine s4'.mono ?_
    rintro e w3 ⟨av, L, cv, z', rfl, hb3, _⟩
    go_wp2_with fail
    go_ret
    exact ⟨rfl, hB2.trans (hb3.mono hB2.size)⟩
end Go.Proofs.YtemabboecmkoaaaDoor
