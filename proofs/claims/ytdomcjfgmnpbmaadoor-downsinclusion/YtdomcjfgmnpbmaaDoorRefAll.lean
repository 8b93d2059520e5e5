/- The document's own answer: all down-sets, by all sets. -/
import Derived.Test.YtdomcjfgmnpbmaaDoorTellPlain
import Derived.Test.YtdomcjfgmnpbmaaDoorRefDual
import Derived.Test.YtdomcjfgmnpbmaaDoorFieldRun
import Derived.StillTactics
import Derived.Laws.AppendOwn
namespace Go.Proofs.YtdomcjfgmnpbmaaDoor
open Go.RowKit Go.Shelf

set_option maxRecDepth 100000 in
set_option maxHeartbeats 1000000 in
theorem closed_any (a : Option Addr) (cap : Nat) (ds : List Nat) (s n₀ : Nat) (hs : s < 4294967296) (hf : Fit ds) (hl : ds.length ≤ 16) (w : World) (hw : IsWords n₀ w a ds) (hn₀ : n₀ ≤ w.heap.size) :
    Calls Tryd.prog 36 #[.slice a ds.length cap, .int .u32 (s : Nat)] w fun e w' => e = .returned (.bool (closedB ds s)) ∧ Below w.heap.size w w' := by
  go_enter Tryd.func36, Tryd.ntmps36
  go_wp2
  go_loopw [5] (fun i wr => ∃ k : Nat, k ≤ ds.length ∧ i = .int .i64 k ∧ (∀ j, j < k → hasB s j = true → andW s (wd ds j) = wd ds j) ∧ Below w.heap.size w wr) (fun i _ => ds.length - (intOf i).toNat)
  case atStart => exact ⟨0, Nat.zero_le _, rfl, fun j hj => by omega, Below.refl _ _⟩
  case round =>
    obtain ⟨k, hk, rfl, hall, hB⟩ := hrel
    by_cases hlt : k < ds.length
    · obtain ⟨b, off, rfl, hb, hc⟩ := (hw.below (hB.mono hn₀)).at hlt
      have cE := hc k hlt
      have hand := bits_and32 s (wd ds k) hs (hf k)
      have hbit := Bit_any s k hs (by omega)
      clear hc
      cases hsk : hasB s k with
      | false =>
        rw [hsk] at hbit
        have HH : Hid (∀ j, j < k + 1 → hasB s j = true → andW s (wd ds j) = wd ds j) := fun j hj hh => by
          by_cases e : j = k
          · subst e; rw [hsk] at hh; cases hh
          · exact hall j (by omega) hh
        clear hsk hall
        go_wp2
        refine wp_region_still_lit (by kernel_rfl) (by kernel_rfl) ?_
        repeat (first | (refine no_implicit_lambda% (wpStill_step ?_); intro K hK; go_simp; refine hK _ ?_; clear hK K) | still_call (hbit _))
        refine no_implicit_lambda% (wpStill_nil ?_)
        go_wp2
        exact ⟨⟨k + 1, by omega, by go_num, HH, hB.drew⟩, by simp [intOf]; omega⟩
      | true =>
        rw [hsk] at hbit
        by_cases he : andW s (wd ds k) = wd ds k
        · have hne : (((andW s (wd ds k) : Nat) : Int) != ((wd ds k : Nat) : Int)) = false := by rw [he]; simp
          have HH : Hid (∀ j, j < k + 1 → hasB s j = true → andW s (wd ds j) = wd ds j) := fun j hj hh => by
            by_cases e : j = k
            · subst e; exact he
            · exact hall j (by omega) hh
          clear hsk hall he
          go_wp2
          refine wp_region_still_lit (by kernel_rfl) (by kernel_rfl) ?_
          repeat (first | (refine no_implicit_lambda% (wpStill_step ?_); intro K hK; go_simp; refine hK _ ?_; clear hK K) | still_call (hbit _))
          refine no_implicit_lambda% (wpStill_nil ?_)
          go_wp2
          exact ⟨⟨k + 1, by omega, by go_num, HH, hB.drew⟩, by simp [intOf]; omega⟩
        · have hne : (((andW s (wd ds k) : Nat) : Int) != ((wd ds k : Nat) : Int)) = true := by rw [bne_iff_ne]; omega
          have hF : closedB ds s = false := by
            cases h : closedB ds s with
            | false => rfl
            | true => exact absurd (closedB_iff.1 h k hlt hsk) he
          have HF := hide hF
          clear hsk hall he hF
          go_wp2
          refine wp_region_still_lit (by kernel_rfl) (by kernel_rfl) ?_
          repeat (first | (refine no_implicit_lambda% (wpStill_step ?_); intro K hK; go_simp; refine hK _ ?_; clear hK K) | still_call (hbit _))
          refine no_implicit_lambda% (wpStill_nil ?_)
          go_wp2
          go_ret
          exact ⟨ret_bool HF.out.symm, hB.drew⟩
    · obtain rfl : k = ds.length := by omega
      have hT : closedB ds s = true := closedB_iff.2 hall
      have HT := hide hT
      clear hT hall
      go_wp2
      go_ret
      exact ⟨ret_bool HT.out.symm, hB⟩

/-- the down-sets below x -/
def allTo (ds : List Nat) (x : Nat) : List Nat := (List.range x).filter (closedB ds)
theorem allTo_yes {ds : List Nat} {x : Nat} (h : closedB ds x = true) : allTo ds (x + 1) = allTo ds x ++ [x] := by
  unfold allTo; rw [List.range_succ, List.filter_append]; simp [h]
theorem allTo_no {ds : List Nat} {x : Nat} (h : closedB ds x = false) : allTo ds (x + 1) = allTo ds x := by
  unfold allTo; rw [List.range_succ, List.filter_append]; simp [h]
theorem allTo_len (ds : List Nat) (x : Nat) : (allTo ds x).length ≤ x := by
  unfold allTo; refine Nat.le_trans (List.length_filter_le _ _) ?_; simp

set_option maxRecDepth 100000 in
set_option maxHeartbeats 2000000 in
theorem DownsAll_any (most : Nat) (hm : most ≤ 256) (a : Option Addr) (cap : Nat) (us : List Nat) (n₀ : Nat) (hf : Fit us) (hl : us.length ≤ 16) (w : World) (hw : IsWords n₀ w a us) (hn₀ : n₀ ≤ w.heap.size) :
    Calls Tryd.prog 12 #[.agg #[.int .i64 us.length, .slice a us.length cap], .int .i64 (most : Nat)] w fun e w' => ∃ ds v, e = .returned (.tuple #[v, .int .i64 ((allD ds).length : Nat)]) ∧ Tur us us.length [] ds ∧ Below w.heap.size w w' ∧ w'.ownsRow w.heap.size 53 1 v ((allD ds).take most).length (wvals ((allD ds).take most)) := by
  obtain ⟨r0, hb0, hs0⟩ := one_row w 24 (.int .i64 us.length) (.slice a us.length cap) rfl
  have hod := OrderDual_any a cap us n₀ hf hl _ (hw.below (hb0.mono hn₀)) (by omega)
  obtain ⟨i0, hi, hz0, hz1, hz2⟩ := info_parts info_u32
  have Hb := hide hb0
  have hbr := bit_raw (i := us.length) (by omega)
  have hpl : bitW us.length ≤ 65536 := by unfold bitW; exact Nat.le_trans (Nat.pow_le_pow_right (by decide) hl) (by decide)
  clear hb0
  go_enter Tryd.func12, Tryd.ntmps12
  go_wp2_with (go_at_call 35; refine hod.mono ?_; rintro e w1 ⟨v, ds, rfl, hb1, hown, hT⟩; obtain ⟨ad, cd, rfl, hwv⟩ := ownsRow_words hown; have hlD := hT.len; have hfr := run_field_up us.length ad us.length cd w1)
  clear hfr
  have q0 := row_below r0 hb1 r0.lt
  have hs1 := hb1.size
  have HB := hide (Hb.out.trans (hb1.mono (by omega)))
  go_loopw [7, 8, 9] (fun l n x wr => ∃ (y k : Nat) (v : Value) (ls : List Nat), y ≤ bitW us.length ∧ x = .int .u32 (y : Nat) ∧ n = .int .i64 (k : Nat) ∧ l = v ∧ wr.ownsRow w1.heap.size 53 1 v ls.length (wvals ls) ∧ Below w1.heap.size w1 wr ∧ Hid (ls = (allTo ds y).take most) ∧ Hid (k = (allTo ds y).length)) (fun _ _ x _ => bitW us.length - (intOf x).toNat)
  case atStart => exact ⟨0, 0, _, [], Nat.zero_le _, rfl, rfl, rfl, by rw [wvals]; exact World.ownsRow_nil _ _ _ _, Below.refl _ _, by simp [allTo, Hid], by simp [allTo, Hid]⟩
  case round =>
    obtain ⟨y, k, v, ls, hy, rfl, rfl, rfl, hown2, hB, hls, hk⟩ := hrel
    have q1 := row_below q0 hB q0.lt
    have c0 := q1.cell (i := 0) rfl
    have hsz := hB.size
    have hkl : k ≤ 65536 := by rw [hk.out]; exact Nat.le_trans (allTo_len ds y) (by omega)
    have hlsl : ls.length ≤ 256 := by rw [hls.out]; exact Nat.le_trans (List.length_take_le _ _) hm
    obtain ⟨av, cv, rfl, _⟩ := ownsRow_words hown2
    by_cases hlt : y < bitW us.length
    · have hcl := closed_any ad cd ds y w1.heap.size (by omega) hT.fit (by omega) wr (hwv.below hB) hB.size
      rw [hlD] at hcl
      cases hc : closedB ds y with
      | false =>
        rw [hc] at hcl
        have Ha := hide (allTo_no hc)
        clear hc
        go_wp2_with (go_at_call 36; refine hcl.mono ?_; rintro e w2 ⟨rfl, hb2⟩)
        exact ⟨⟨y + 1, k, _, ls, by omega, by go_num, rfl, rfl, ownsRow_below hown2 hb2, hB.trans (hb2.mono hsz), by unfold Hid; rw [Ha.out]; exact hls, by unfold Hid; rw [Ha.out]; exact hk⟩, by simp [intOf]; omega⟩
      | true =>
        rw [hc] at hcl
        have Ha := hide (allTo_yes hc)
        clear hc
        by_cases hmm : k + 1 ≤ most
        · have ht1 : ls = allTo ds y := by rw [hls.out]; exact List.take_of_length_le (by have := hk.out; omega)
          have Ht2 : Hid (ls ++ [y] = (allTo ds (y + 1)).take most) := by
            unfold Hid
            rw [Ha.out, ht1]
            exact (List.take_of_length_le (by rw [List.length_append]; have := hk.out; simp; omega)).symm
          have Hk2 : Hid (k + 1 = (allTo ds (y + 1)).length) := by
            unfold Hid; rw [Ha.out, List.length_append, ← hk.out]; rfl
          clear ht1 hls hk Ha
          go_wp2_with (first
            | (go_at_call 36; refine hcl.mono ?_; rintro e w2 ⟨rfl, hb2⟩; have hs2 := hb2.size; have hown3 := ownsRow_below hown2 hb2)
            | (at_builtin; refine wpList_append_own _ rfl _ _ 22 rfl w1.heap.size 53 i0 (.int .u32 0) 1 4 Tryd.underlying22 hi hz0 hz1 hz2 rfl (by decide) _ _ _ rfl (hown3.alloc _) ⟨w2.heap.size, 0, none⟩ 1 1 [.int .u32 (y : Nat)] rfl rfl (cell_one_new _ _ _) (fun u hu => by simp at hu; subst hu; rfl) (by unfold maxLen; omega) (by omega) (by simp; omega) ?_; intro v' w3 hown' hgrow3 _; obtain ⟨g', cap', rfl⟩ := ownsRow_succ hown'))
          have hx2 : wvals ls ++ [.int .u32 (y : Nat)] = wvals (ls ++ [y]) := by simp [wvals]
          rw [hx2] at hown'
          have hl2 : (ls ++ [y]).length = ls.length + 1 := by simp
          have hB2 := hB.trans (hb2.mono hsz)
          refine ⟨⟨y + 1, k + 1, _, ls ++ [y], by omega, by go_num, by go_num, rfl, by rw [hl2]; exact hown', ?_, Ht2, Hk2⟩, by simp [intOf]; omega⟩
          refine (hB2.alloc (by omega) (.cells #[.int .u32 (y : Nat)] 53)).grown hgrow3 (by simp; omega) fun j ej => ?_
          apply Nat.le_of_not_lt; intro hjl
          exact ownBlock_ge hown3 (b := j) hjl ej.symm
        · have Ht2 : Hid (ls = (allTo ds (y + 1)).take most) := by
            unfold Hid
            rw [Ha.out, List.take_append_of_le_length (by have := hk.out; omega)]
            exact hls
          have Hk2 : Hid (k + 1 = (allTo ds (y + 1)).length) := by
            unfold Hid; rw [Ha.out, List.length_append, ← hk.out]; rfl
          clear hls hk Ha
          go_wp2_with (go_at_call 36; refine hcl.mono ?_; rintro e w2 ⟨rfl, hb2⟩)
          exact ⟨⟨y + 1, k + 1, _, ls, by omega, by go_num, by go_num, rfl, ownsRow_below hown2 hb2, hB.trans (hb2.mono hsz), Ht2, Hk2⟩, by simp [intOf]; omega⟩
    · obtain rfl : y = bitW us.length := by omega
      have hall : allTo ds (bitW us.length) = allD ds := by unfold allTo allD bitW; rw [hlD]
      rw [hall] at hls hk
      clear hall
      go_wp2
      go_ret2
      refine ⟨ds, .slice av ls.length cv, ?_, hT, HB.out.trans (hB.mono (by omega)), ?_⟩
      · rw [← hk.out]; rfl
      · rw [← hls.out]; exact ownsRow_base hown2 (by omega)
end Go.Proofs.YtdomcjfgmnpbmaaDoor
