/- The contracts of the closures that All and Count hand on: one tells into a list, one counts; and of choose. The contracts of the program's sets of elements: check, Down. -/
import Derived.Test.YtdomcjfgmnpbmaaDoorPart11
import Derived.Test.YtdomcjfgmnpbmaaDoorPart9
import Derived.Laws.EntriesVeiled
import Derived.Laws.AppendOwn
import Derived.Test.YtdomcjfgmnpbmaaDoorPart10
namespace Go.Proofs.YtdomcjfgmnpbmaaDoor
open Go.RowKit Go.Shelf

/-- so many were counted -/
def InvC (Bt : Nat) (w₀ : World) (p : List Nat) (W : World) : Prop := KeepX (· = Bt) w₀ W ∧ Boxed W Bt 3 (.int .i64 (p.length : Nat))
/-- these were told -/
def InvA (Bt : Nat) (w₀ : World) (p : List Nat) (W : World) : Prop := KeepX (· = Bt) w₀ W ∧ p.length ≤ 256 ∧ ∃ v, Boxed W Bt 22 v ∧ W.ownsRow w₀.heap.size 53 1 v p.length (wvals p)
theorem InvC.drew {Bt : Nat} {w₀ : World} {p : List Nat} {W : World} (h : InvC Bt w₀ p W) : InvC Bt w₀ p W.drew := ⟨h.1.trans (.of_below (Below.refl _ _).drew), h.2⟩
theorem InvA.drew {Bt : Nat} {w₀ : World} {p : List Nat} {W : World} (h : InvA Bt w₀ p W) : InvA Bt w₀ p W.drew := by
  obtain ⟨h1, h2, v, h3, h4⟩ := h
  exact ⟨h1.trans (.of_below (Below.refl _ _).drew), h2, v, h3, ownsRow_below h4 (Below.refl _ _).drew⟩

set_option maxRecDepth 100000 in
set_option maxHeartbeats 1000000 in
theorem tellC_any (Bt : Nat) (w₀ : World) (lim : Nat) (p : List Nat) (s : Nat) (W : World) (hp : p.length < 65536) (hI : InvC Bt w₀ p W) :
    Calls Tryd.prog 32 #[.int .u32 (s : Nat), .pointer (some ⟨Bt, 0, none⟩)] W (Told (InvC Bt w₀) lim (p ++ [s])) := by
  obtain ⟨hk, bN⟩ := hI
  have cN := bN.cell
  have fN := bN.frozen
  go_enter Tryd.func32, Tryd.ntmps32
  go_wp2
  go_ret
  refine .inl ⟨rfl, hk.set rfl _, ?_⟩
  have := bN.set (.int .i64 ((p ++ [s]).length : Nat))
  rw [List.length_append] at this ⊢
  exact this

set_option maxRecDepth 100000 in
set_option maxHeartbeats 1000000 in
theorem tellA_any (Bt : Nat) (w₀ : World) (hb : Bt < w₀.heap.size) (p : List Nat) (s : Nat) (W : World) (hI : InvA Bt w₀ p W) :
    Calls Tryd.prog 31 #[.int .u32 (s : Nat), .pointer (some ⟨Bt, 0, none⟩)] W (Told (InvA Bt w₀) 256 (p ++ [s])) := by
  have hI0 := hI
  obtain ⟨hk, hp, v, bN, hown⟩ := hI
  have hks := hk.size
  obtain ⟨av, cv, rfl, hwv⟩ := ownsRow_words hown
  have cN := bN.cell
  by_cases hlt : p.length < 256
  · have hne : (((p.length : Nat) : Int) == 256) = false := by rw [beq_eq_false_iff_ne]; omega
    obtain ⟨i0, hi, hz⟩ := Option.map_eq_some_iff.1 info_u32
    simp only [Prod.mk.injEq] at hz
    obtain ⟨hz0, hz1, hz2⟩ := hz
    have hneN := ownBlock_ge hown (b := Bt) (by omega)
    clear hI0 hwv
    go_enter Tryd.func31, Tryd.ntmps31
    go_wp2_with (at_builtin; refine wpList_append_own _ rfl _ _ 22 rfl w₀.heap.size 53 i0 (.int .u32 0) 1 4 Tryd.underlying22 hi hz0 hz1 hz2 rfl (by decide) _ _ _ rfl (hown.alloc _) ⟨W.heap.size, 0, none⟩ 1 1 [.int .u32 (s : Nat)] rfl rfl (cell_one_new _ _ _) (fun u hu => by simp at hu; subst hu; rfl) (by unfold maxLen; omega) (by omega) (by simp; omega) ?_; intro v' w3 hown' hgrow3 _; obtain ⟨g', cap', rfl⟩ := ownsRow_succ hown'; have b3 := (bN.alloc (.cells #[.int .u32 (s : Nat)] 53)).kept hgrow3 hneN; have c3 := b3.cell; have f3 := b3.frozen)
    go_ret
    have hx2 : wvals p ++ [.int .u32 (s : Nat)] = wvals (p ++ [s]) := by simp [wvals]
    have hl2 : (p ++ [s]).length = p.length + 1 := by simp
    rw [hx2] at hown'
    have k3 : KeepX (· = Bt) w₀ w3 := ⟨hgrow3.os.trans hk.os, hgrow3.tape.trans hk.tape, hgrow3.output.trans hk.output, by have := hgrow3.size; simp at this; omega, fun k hkl hx => by
      have hkW : k < (W.alloc (.cells #[.int .u32 (s : Nat)] 53)).heap.size := by simp; omega
      rw [hgrow3.block k hkW (ownBlock_ge hown (b := k) (by omega))]
      rw [((Below.refl W.heap.size W).alloc (Nat.le_refl _) (.cells #[.int .u32 (s : Nat)] 53)).block k (by omega)]
      exact hk.same k hkl hx⟩
    refine .inl ⟨rfl, k3.set rfl _, by omega, _, b3.set _, ?_⟩
    rw [hl2]
    exact ownsRow_setAt hown' (by omega) _ _
  · have hl : p.length = 256 := by omega
    rw [hl] at cN
    clear hown
    go_enter Tryd.func31, Tryd.ntmps31
    go_wp2
    go_ret
    exact .inr ⟨rfl, by simp; omega, p, hI0⟩
end Go.Proofs.YtdomcjfgmnpbmaaDoor

namespace Go.Proofs.YtdomcjfgmnpbmaaDoor
open Go.RowKit Go.Shelf

theorem shr_out {s n : Nat} (hs : s < 4294967296) : ((s : Int) / 2 ^ n != 0) = outsideB s n := by
  have e : ((s : Int) / 2 ^ n) = ((s / 2 ^ n : Nat) : Int) := by simp
  have hz := shr_zero (n := n) hs
  rw [e]
  cases ho : outsideB s n with
  | false => rw [hz.2 ho]; rfl
  | true =>
    rw [bne_iff_ne]
    intro h
    have : s / 2 ^ n = 0 := by omega
    rw [hz.1 this] at ho
    cases ho

set_option maxRecDepth 100000 in
set_option maxHeartbeats 1000000 in
theorem dcheck_any (n : Int) (a : Option Addr) (cap : Nat) (us : List Nat) (s : Nat) (hs : s < 4294967296) (n₀ : Nat) (hf : Fit us) (w : World) (hT : TabAt w) (hw : IsWords n₀ w a us) (hg : 0 < n₀) (hn₀ : n₀ ≤ w.heap.size) :
    Calls Tryd.prog 49 #[.agg #[.int .i64 n, .slice a us.length cap], .int .u32 s] w fun e w' => e = .returned (.int .i64 (codeS n us s)) ∧ Below w.heap.size w w' := by
  obtain ⟨r0, hb0, hs0⟩ := one_row w 24 (.int .i64 n) (.slice a us.length cap) rfl
  have hck := Check_any n a cap us n₀ hf _ (hT.below hb0 (by omega)) (hw.below (hb0.mono hn₀)) hg (by omega)
  have Hb := hide hb0
  clear hb0
  by_cases hc : codeOf n us = 0
  · obtain ⟨h0, h16, hlen, hin, hord⟩ := code_zero hc
    rw [hc] at hck
    subst hlen
    have hz := shr_out (n := us.length) hs
    have hl16 : us.length ≤ 16 := by omega
    cases ho : outsideB s us.length with
    | false =>
      have Hc := hide (codeS_ok hc ho)
      rw [ho] at hz
      clear hc ho hord hin
      go_enter Tryd.func49, Tryd.ntmps49
      go_wp2_with (go_at_call 38; refine hck.mono ?_; rintro e w1 ⟨rfl, hb1⟩; have q0 := row_below r0 hb1 r0.lt; have j0 := q0.cell (i := 0) rfl; have j1 := q0.cell (i := 1) rfl)
      go_ret
      exact ⟨ret_int Hc.out.symm, Hb.out.trans (hb1.mono (by omega))⟩
    | true =>
      have Hc := hide (codeS_out hc ho)
      rw [ho] at hz
      clear hc ho hord hin
      go_enter Tryd.func49, Tryd.ntmps49
      go_wp2_with (go_at_call 38; refine hck.mono ?_; rintro e w1 ⟨rfl, hb1⟩; have q0 := row_below r0 hb1 r0.lt; have j0 := q0.cell (i := 0) rfl; have j1 := q0.cell (i := 1) rfl)
      go_ret
      exact ⟨ret_int Hc.out.symm, Hb.out.trans (hb1.mono (by omega))⟩
  · have Hc := hide (codeS_bad (s := s) hc)
    generalize codeOf n us = c at *
    have hne : (c != 0) = true := by rw [bne_iff_ne]; exact hc
    clear hc
    go_enter Tryd.func49, Tryd.ntmps49
    go_wp2_with (go_at_call 38; refine hck.mono ?_; rintro e w1 ⟨rfl, hb1⟩)
    go_ret
    exact ⟨ret_int Hc.out.symm, Hb.out.trans (hb1.mono (by omega))⟩

/-- what a call that tells a set answers -/
def setAns (c : Int) (x : Nat) : Ending := .returned (.tuple #[.int .u32 (x : Nat), .int .i64 c])

set_option maxRecDepth 100000 in
set_option maxHeartbeats 1000000 in
theorem Down_bad (n : Int) (a : Option Addr) (cap : Nat) (us : List Nat) (s : Nat) (hs : s < 4294967296) (n₀ : Nat) (hf : Fit us) (w : World) (hT : TabAt w) (hw : IsWords n₀ w a us) (hg : 0 < n₀) (hn₀ : n₀ ≤ w.heap.size) (hc : codeS n us s ≠ 0) :
    Calls Tryd.prog 28 #[.agg #[.int .i64 n, .slice a us.length cap], .int .u32 s] w fun e w' => e = setAns (codeS n us s) 0 ∧ Below w.heap.size w w' := by
  obtain ⟨r0, hb0, hs0⟩ := one_row w 24 (.int .i64 n) (.slice a us.length cap) rfl
  have hck := dcheck_any n a cap us s hs n₀ hf _ (hT.below hb0 (by omega)) (hw.below (hb0.mono hn₀)) hg (by omega)
  have Hb := hide hb0
  generalize codeS n us s = c at *
  have hne : (c != 0) = true := by rw [bne_iff_ne]; exact hc
  clear hb0 hc
  go_enter Tryd.func28, Tryd.ntmps28
  go_wp2_with (go_at_call 49; refine hck.mono ?_; rintro e w1 ⟨rfl, hb1⟩)
  go_ret2
  exact ⟨rfl, Hb.out.trans (hb1.mono (by omega))⟩
set_option maxRecDepth 100000 in
set_option maxHeartbeats 1000000 in
theorem Down_ok (a : Option Addr) (cap : Nat) (us : List Nat) (s : Nat) (hs : s < 4294967296) (n₀ : Nat) (hf : Fit us) (w : World) (hT : TabAt w) (hw : IsWords n₀ w a us) (hg : 0 < n₀) (hn₀ : n₀ ≤ w.heap.size) (hc : codeS us.length us s = 0) :
    Calls Tryd.prog 28 #[.agg #[.int .i64 us.length, .slice a us.length cap], .int .u32 s] w fun e w' => e = setAns 0 (downW us s) ∧ Below w.heap.size w w' := by
  obtain ⟨r0, hb0, hs0⟩ := one_row w 24 (.int .i64 us.length) (.slice a us.length cap) rfl
  have hck := dcheck_any us.length a cap us s hs n₀ hf _ (hT.below hb0 (by omega)) (hw.below (hb0.mono hn₀)) hg (by omega)
  have hw1 := hw.below (hb0.mono hn₀)
  have hl16 : us.length ≤ 16 := by have := code_zero (codeS_zero hc).1; omega
  rw [hc] at hck
  have Hb := hide hb0
  clear hb0 hc
  go_enter Tryd.func28, Tryd.ntmps28
  go_wp2_with (go_at_call 49; refine hck.mono ?_; rintro e w1 ⟨rfl, hb1⟩; have q0 := row_below r0 hb1 r0.lt; have j0 := q0.cell (i := 0) rfl; have j1 := q0.cell (i := 1) rfl)
  have hw2 := hw1.below (hb1.mono (by omega))
  go_loop [7, 19] (fun x i => ∃ k : Nat, k ≤ us.length ∧ i = .int .i64 k ∧ x = .int .u32 (wordOf (meetsB us s) k : Nat)) (fun _ i => us.length - (intOf i).toNat)
  case atStart => exact ⟨0, Nat.zero_le _, rfl, rfl⟩
  case round =>
    obtain ⟨k, hk, rfl, rfl⟩ := hrel
    by_cases hlt : k < us.length
    · obtain ⟨b, off, rfl, hb, hcc⟩ := hw2.at hlt
      have hci := hcc k hlt
      have hbits := bits_and32 (wd us k) s (hf k) hs
      have hwl := wordOf_lt (meetsB us s) (k := k) (by omega)
      have hor := bits_or32 _ _ hwl (bitW_lt (i := k) (by omega))
      have hst : wordOf (meetsB us s) (k + 1) = if meetsB us s k then orW (wordOf (meetsB us s) k) (bitW k) else wordOf (meetsB us s) k := rfl
      have heq : (((andW (wd us k) s : Nat) : Int) != 0) = meetsB us s k := by
        unfold meetsB
        by_cases e : andW (wd us k) s = 0
        · rw [decide_eq_false (by simp [e]), e]; rfl
        · rw [decide_eq_true e, bne_iff_ne]; omega
      clear hcc
      cases hso : meetsB us s k with
      | true =>
        rw [hso] at heq
        rw [hso, if_pos rfl] at hst
        have Hst := hide hst
        clear hst hso
        go_wp2_with (go_at_call 37; refine (dbit_any _ (by omega) _).mono ?_; rintro e w' ⟨rfl, rfl⟩)
        go_round
        case rel => exact ⟨k + 1, by omega, by go_num, by rw [Hst.out]⟩
        case measure => simp [intOf]; omega
      | false =>
        rw [hso] at heq
        rw [hso, if_neg (by simp)] at hst
        have Hst := hide hst
        clear hst hso
        go_wp2
        go_round
        case rel => exact ⟨k + 1, by omega, by go_num, by rw [Hst.out]⟩
        case measure => simp [intOf]; omega
    · obtain rfl : k = us.length := by omega
      go_wp2
      go_ret2
      exact ⟨rfl, Hb.out.trans (hb1.mono (by omega))⟩
end Go.Proofs.YtdomcjfgmnpbmaaDoor
