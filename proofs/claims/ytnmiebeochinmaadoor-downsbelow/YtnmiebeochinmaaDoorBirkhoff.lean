/- The contracts of the program's Birkhoff and of the document's DownsBirkhoff: for each element the irreducible ones below it. -/
import Derived.Test.YtnmiebeochinmaaDoorIrreducible
import Derived.Test.YtnmiebeochinmaaDoorDownLow
import Derived.Test.YtnmiebeochinmaaDoorRefIrr
namespace Go.Proofs.YtnmiebeochinmaaDoor
open Go.RowKit Go.Shelf

/-- those of the first k of l that are below x -/
def belowOf (us l : List Nat) (x : Nat) : Nat → Nat
  | 0 => 0
  | k + 1 => if hasB (wd us (wd l k)) x then orW (belowOf us l x k) (bitW (wd l k)) else belowOf us l x k
theorem belowOf_lt (us l : List Nat) (hl : ∀ i, i < l.length → wd l i < 32) (x : Nat) : ∀ k, k ≤ l.length → belowOf us l x k < 4294967296
  | 0, _ => by unfold belowOf; decide
  | k + 1, hk => by
    unfold belowOf
    split
    · exact orW_lt (belowOf_lt us l hl x k (by omega)) (bitW_lt (hl k (by omega)))
    · exact belowOf_lt us l hl x k (by omega)
/-- the first m of them, as a list -/
def birkL (us l : List Nat) (m : Nat) : List Nat := (List.range m).map fun x => belowOf us l x l.length
theorem birkL_len (us l : List Nat) (m : Nat) : (birkL us l m).length = m := by simp [birkL]
theorem birkL_succ (us l : List Nat) (m : Nat) : birkL us l (m + 1) = birkL us l m ++ [belowOf us l m l.length] := by
  unfold birkL; rw [List.range_succ, List.map_append]; rfl
theorem wd_birkL (us l : List Nat) {m x : Nat} (h : x < m) : wd (birkL us l m) x = belowOf us l x l.length := by
  unfold birkL wd
  rw [List.getD_eq_getElem?_getD, List.getElem?_map, List.getElem?_range h]; rfl
theorem birkL_eq {us l ws : List Nat} {m : Nat} (hl : ws.length = m) (h : ∀ x, x < m → wd ws x = belowOf us l x l.length) : ws = birkL us l m := by
  apply List.ext_getElem
  · rw [hl, birkL_len]
  · intro i h1 h2
    have h3 := h i (by omega)
    rw [← wd_birkL us l (m := m) (by omega)] at h3
    unfold wd at h3
    simpa [List.getD_eq_getElem?_getD, List.getElem?_eq_getElem h1, List.getElem?_eq_getElem h2] using h3

set_option maxRecDepth 100000 in
set_option maxHeartbeats 1000000 in
theorem dhas_any (x i : Nat) (hx : x < 4294967296) (hi : i < 32) (w : World) :
    Calls Tryd.prog 27 #[.int .u32 x, .int .i64 i] w fun e w' => e = .returned (.bool (hasB x i)) ∧ w' = w := by
  go_enter Tryd.func27, Tryd.ntmps27
  go_wp2_with (go_at_call 20; refine (dbit_any _ (by omega) _).mono ?_; rintro e w' ⟨rfl, rfl⟩)
  go_ret
  exact ⟨ret_bool (by rw [bits_and32 _ _ hx (bitW_lt hi), and_bit_bne]), rfl⟩

def birkErr (c : Int) : Ending := .returned (.tuple #[.slice none 0 0, .int .i64 c])
set_option maxRecDepth 100000 in
set_option maxHeartbeats 1000000 in
theorem Birk_err (n : Int) (a : Option Addr) (len cap : Nat) (c : Int) (hc : c ≠ 0) (w : World) (ht : ∀ W, Below w.heap.size w W → Calls Tryd.prog 26 #[.agg #[.int .i64 n, .slice a len cap]] W fun e w' => e = irrErr c ∧ Below W.heap.size W w') :
    Calls Tryd.prog 15 #[.agg #[.int .i64 n, .slice a len cap]] w fun e w' => e = birkErr c ∧ Below w.heap.size w w' := by
  obtain ⟨r0, hb0, hs0⟩ := one_row w 24 (.int .i64 n) (.slice a len cap) rfl
  have h1 := ht _ hb0
  unfold irrErr at h1
  have hne : (c != 0) = true := by rw [bne_iff_ne]; exact hc
  have Hb := hide hb0
  clear hc ht hb0
  go_enter Tryd.func15, Tryd.ntmps15
  go_wp2_with (go_at_call 26; refine h1.mono ?_; rintro e w1 ⟨rfl, hb1⟩)
  go_ret2
  exact ⟨rfl, Hb.out.trans (hb1.mono (by omega))⟩

set_option maxRecDepth 100000 in
set_option maxHeartbeats 2000000 in
theorem Birk_ok (a : Option Addr) (cap : Nat) (us ds : List Nat) (n₀ : Nat) (hf : Fit us) (w : World) (hT : TabAt w) (hw : IsWords n₀ w a us) (hg : 0 < n₀) (hn₀ : n₀ ≤ w.heap.size) (hc : codeOf us.length us = 0) (hD : Tur us us.length [] ds) (hl : latB us ds = true) :
    Calls Tryd.prog 15 #[.agg #[.int .i64 us.length, .slice a us.length cap]] w fun e w' => ∃ g, e = .returned (.tuple #[.slice (some ⟨g, 0, none⟩) us.length us.length, .int .i64 0]) ∧ Below w.heap.size w w' ∧ w.heap.size ≤ g ∧ Row w' g 25 (wvals (birkL us (lowIrr us) us.length)) := by
  have hl16 : us.length ≤ 16 := by have := code_zero hc; omega
  obtain ⟨r0, hb0, hs0⟩ := one_row w 24 (.int .i64 us.length) (.slice a us.length cap) rfl
  have s1 := Irr_ok us.length a cap us ds n₀ hf _ (hT.below hb0 (by omega)) (hw.below (hb0.mono hn₀)) hg (by omega) hc hD hl
  have hmk := run_make_row' (P := Tryd.prog) 22 25 (.int .u32 0) 4 Tryd.underlying22 info_u32 rfl .i64 .i64 us.length (by omega) (by omega)
  have hll : (lowIrr us).length ≤ 16 := by
    unfold lowIrr
    have := List.length_filter_le (fun x => decide (lowCnt us x = 1)) (List.range us.length)
    simp at this
    omega
  have hlow : ∀ i, i < (lowIrr us).length → wd (lowIrr us) i < us.length := fun i hi => by
    have hm : wd (lowIrr us) i ∈ lowIrr us := by
      unfold wd
      rw [List.getD_eq_getElem?_getD, List.getElem?_eq_getElem hi]
      exact List.getElem_mem hi
    unfold lowIrr at hm
    rw [List.mem_filter, List.mem_range] at hm
    exact hm.1
  have hmx : Tryd.prog.follows .mixedOrders = true := by kernel_rfl
  have lt0 := r0.lt
  clear hc hl hD
  generalize lowIrr us = S at *
  go_enter Tryd.func15, Tryd.ntmps15
  go_wp2_with (go_at_call 26; refine s1.mono ?_; rintro e w1 ⟨a1, c1, a2, c2, rfl, hb1, i1, i2⟩; clear s1; have q0 := row_below r0 hb1 lt0; have lq0 := q0.lt; have j0 := q0.cell (i := 0) rfl; have j1 := q0.cell (i := 1) rfl)
  obtain ⟨V, hV⟩ : ∃ V, V = w1.alloc (.cells (madeCells #[Value.int .u32 0] us.length) 25) := ⟨_, rfl⟩
  rw [← hV]
  rw [wvals_replicate] at hV
  have rV : Row V w1.heap.size 25 (wvals (List.replicate us.length 0)) := by rw [hV]; exact Row.new _ _ _
  have hbV : Below w1.heap.size w1 V := by rw [hV]; exact (Below.refl _ _).alloc (Nat.le_refl _) _
  have hs1 := hb1.size
  have hB1 : Below w.heap.size w w1 := hb0.trans (hb1.mono (by omega))
  have hwV := hw.below (hB1.mono hn₀)
  clear hV hmk j0 j1 r0 hb0 i2
  go_loopw [25] (fun i wr => ∃ (k : Nat) (ws : List Nat), k ≤ S.length ∧ i = .int .i64 k ∧ Below w1.heap.size w1 wr ∧ Row wr w1.heap.size 25 (wvals ws) ∧ ws.length = us.length ∧ (∀ x, x < us.length → wd ws x = belowOf us S x k)) (fun i _ => S.length - (intOf i).toNat)
  case atStart => exact ⟨0, _, Nat.zero_le _, rfl, hbV, rV, by simp, fun x hx => by rw [wd_replicate]; rfl⟩
  case round =>
    obtain ⟨k, ws, hk, rfl, hbr, rw0, hlw, hws⟩ := hrel
    by_cases hlt : k < S.length
    · obtain ⟨b, off, rfl, hbb, hcc⟩ := (i1.below hbr).at hlt
      have hck := hcc k hlt
      have hjn := hlow k hlt
      have hstep : ∀ x, belowOf us S x (k + 1) = if hasB (wd us (wd S k)) x then orW (belowOf us S x k) (bitW (wd S k)) else belowOf us S x k := fun x => rfl
      have hlt4 : ∀ x, belowOf us S x k < 4294967296 := fun x => belowOf_lt us S (fun i hi => by have := hlow i hi; omega) x k hk
      generalize wd S k = j at *
      have hls := rw0.lt
      have hbs := hbr.size
      clear hcc
      go_wp2
      go_loopw [31] (fun i wr' => ∃ (x : Nat) (ws' : List Nat), x ≤ us.length ∧ i = .int .i64 x ∧ Below w1.heap.size w1 wr' ∧ Row wr' w1.heap.size 25 (wvals ws') ∧ ws'.length = us.length ∧ (∀ y, y < us.length → wd ws' y = if y < x then belowOf us S y (k + 1) else belowOf us S y k)) (fun i _ => us.length - (intOf i).toNat)
      case atStart => exact ⟨0, ws, Nat.zero_le _, rfl, hbr, rw0, hlw, fun y hy => by rw [if_neg (by omega)]; exact hws y hy⟩
      case round =>
        clear hbr rw0 hls hbs hlw hws hck
        obtain ⟨x, ws', hx, rfl, hbr, rw0, hlw, hws⟩ := hrel
        have hbs := hbr.size
        by_cases hlx : x < us.length
        · have q1 := row_below q0 hbr lq0
          have j0 := q1.cell (i := 0) rfl
          have j1 := q1.cell (i := 1) rfl
          obtain ⟨b2, off2, rfl, hbb2, hcc2⟩ := (hwV.below (hbr.mono (by omega))).at hjn
          have hcj := hcc2 j hjn
          clear hcc2
          cases hb : hasB (wd us j) x with
          | false =>
            have hhas := fun W : World => dhas_any (wd us j) x (hf j) (by omega) W
            rw [hb] at hhas
            have HB := hide hb
            have HW := hide hws
            clear hb hws
            go_wp2_with (go_at_call 27; refine (hhas _).mono ?_; rintro e w' ⟨rfl, rfl⟩)
            refine ⟨⟨x + 1, ws', by omega, by go_num, hbr, rw0, hlw, fun y hy => ?_⟩, by simp [intOf]; omega⟩
            rw [HW.out y hy]
            by_cases e : y = x
            · subst e; rw [if_neg (by omega), if_pos (by omega), hstep, HB.out]; rfl
            · by_cases e2 : y < x
              · rw [if_pos e2, if_pos (by omega)]
              · rw [if_neg e2, if_neg (by omega)]
          | true =>
            have hhas := fun W : World => dhas_any (wd us j) x (hf j) (by omega) W
            rw [hb] at hhas
            have HB := hide hb
            have hwx := hws x hlx
            rw [if_neg (by omega)] at hwx
            have hl4 := hlt4 x
            have HW := hide hws
            have cx := rw0.cell (wvals_at (show x < ws'.length by omega))
            rw [hwx] at cx
            have fx := rw0.frozen x
            have hor := bits_or32 (belowOf us S x k) (bitW j) hl4 (bitW_lt (by omega))
            have hls := rw0.lt
            clear hb hws hwx
            go_wp2_with (go_at_call 27; refine (hhas _).mono ?_; rintro e w' ⟨rfl, rfl⟩)
            first | go_region_with (go_at_call 20; refine (dbit_any _ (by omega) _).mono ?_; rintro e w' ⟨rfl, rfl⟩) | fail
            all_goals
              go_wp2
              refine ⟨⟨x + 1, ws'.set x (orW (belowOf us S x k) (bitW j)), by omega, by go_num, (hbr.setCell (p := ⟨w1.heap.size, x, none⟩) (Nat.le_refl _) _).drew, ?_, by simp [hlw], fun y hy => ?_⟩, by simp [intOf]; omega⟩
              · rw [← wvals_set]; exact rw0.set x _
              · rw [wd_set (by omega)]
                by_cases e : x = y
                · subst e; rw [if_pos rfl, if_pos (by omega), hstep, HB.out]; rfl
                · rw [if_neg e, HW.out y hy]
                  by_cases e2 : y < x
                  · rw [if_pos e2, if_pos (by omega)]
                  · rw [if_neg e2, if_neg (by omega)]
        · obtain rfl : x = us.length := by omega
          go_wp2
          exact ⟨⟨k + 1, ws', by omega, by go_num, hbr, rw0, hlw, fun y hy => by rw [hws y hy, if_pos hy]⟩, by simp [intOf]; omega⟩
    · obtain rfl : k = S.length := by omega
      obtain rfl := birkL_eq hlw hws
      go_wp2
      refine bodyPost_ret (v := .tuple #[.slice (some ⟨w1.heap.size, 0, none⟩) us.length us.length, .int .i64 0]) (by simp [results, Tryd.results15, go_sem]) rfl ⟨w1.heap.size, rfl, hB1.trans (hbr.mono hB1.size), hB1.size, rw0⟩
end Go.Proofs.YtnmiebeochinmaaDoor
