/- The contract of slices.SortFunc of concepts by their rows: they lie there rising; and concepts in memory. The contract of package polar's Concepts. -/
import Derived.Test.YtdeglbmoiofpoaaDoorPart9
import Derived.Test.YtdeglbmoiofpoaaDoorPart4
import Derived.Test.YtdeglbmoiofpoaaDoorPart7
import Derived.Laws.MakeOwn
namespace Go.Proofs.YtdeglbmoiofpoaaDoor
open Go.RowKit Go.Shelf Go.Sort

/-- the cells of a concept -/
def encC (x : Nat × Nat) : List Value := [.int .u32 (x.1 : Int), .int .u32 (x.2 : Int)]
/-- the concepts of P lie in block b -/
def Cons (W : World) (b : Nat) (P : List (Nat × Nat)) : Prop := ∀ i (h : i < P.length), W.cell? ⟨b, i * 2, none⟩ = some (.int .u32 ((P[i].1 : Nat) : Int)) ∧ W.cell? ⟨b, i * 2 + 1, none⟩ = some (.int .u32 ((P[i].2 : Nat) : Int))
theorem Cons.below {W W' : World} {b n : Nat} {P : List (Nat × Nat)} (h : Cons W b P) (hb : Below n W W') (hlt : b < n) : Cons W' b P := fun i hi =>
  ⟨(hb.cell (p := ⟨b, i * 2, none⟩) hlt).trans (h i hi).1, (hb.cell (p := ⟨b, i * 2 + 1, none⟩) hlt).trans (h i hi).2⟩
/-- their cells, one behind the other -/
def cvals : List (Nat × Nat) → List Value
  | [] => []
  | x :: l => .int .u32 (x.1 : Int) :: .int .u32 (x.2 : Int) :: cvals l
theorem cvals_len : ∀ l, (cvals l).length = l.length * 2
  | [] => rfl
  | x :: l => by simp only [cvals, List.length_cons, cvals_len l]; omega
theorem cvals_at : ∀ (l : List (Nat × Nat)) (i : Nat) (h : i < l.length), (cvals l)[i * 2]? = some (.int .u32 ((l[i].1 : Nat) : Int)) ∧ (cvals l)[i * 2 + 1]? = some (.int .u32 ((l[i].2 : Nat) : Int))
  | x :: l, 0, _ => ⟨rfl, rfl⟩
  | x :: l, i + 1, h => by
    have ih := cvals_at l i (by simpa using h)
    have e1 : (i + 1) * 2 = i * 2 + 1 + 1 := by omega
    rw [e1]
    simpa [cvals] using ih
theorem cvals_set : ∀ (l : List (Nat × Nat)) (i : Nat) (x y : Nat), ((cvals l).set (i * 2) (.int .u32 (x : Int))).set (i * 2 + 1) (.int .u32 (y : Int)) = cvals (l.set i (x, y))
  | [], _, _, _ => rfl
  | a :: l, 0, x, y => rfl
  | a :: l, i + 1, x, y => by
    have ih := cvals_set l i x y
    have e1 : (i + 1) * 2 = i * 2 + 1 + 1 := by omega
    rw [e1]
    simp only [cvals, List.set_cons_succ, ih]
theorem cvals_zero : ∀ n, List.replicate (n * 2) (Value.int .u32 0) = cvals (List.replicate n (0, 0))
  | 0 => rfl
  | n + 1 => by
    have e1 : (n + 1) * 2 = n * 2 + 1 + 1 := by omega
    rw [e1, List.replicate_succ, List.replicate_succ, List.replicate_succ, cvals, cvals_zero n]
    rfl
theorem Row.cons {W : World} {b : Nat} {t : TypeId} {P : List (Nat × Nat)} (h : Row W b t (cvals P)) : Cons W b P := fun i hi =>
  ⟨h.cell (cvals_at P i hi).1, h.cell (cvals_at P i hi).2⟩

def cmpN (x y : Nat) : Int := if x < y then -1 else if y < x then 1 else 0
theorem nan_any (x : Nat) (w : World) : Calls Tryd.prog 87 #[.int .u32 (x : Int)] w fun e w' => e = .returned (.bool false) ∧ w' = w := by
  go_enter Tryd.func87, Tryd.ntmps87
  go_wp2
  go_ret
  exact ⟨ret_bool (by simp), rfl⟩
theorem compare_any (x y : Nat) (w : World) : Calls Tryd.prog 65 #[.int .u32 (x : Int), .int .u32 (y : Int)] w fun e w' => e = .returned (.int .i64 (cmpN x y)) ∧ w' = w := by
  unfold cmpN
  by_cases h1 : x < y
  · rw [if_pos h1]
    go_enter Tryd.func65, Tryd.ntmps65
    go_wp2_with (go_at_call 87; refine (nan_any _ _).mono ?_; rintro e w' ⟨rfl, hww⟩; rw [hww]; clear hww w')
    go_ret
    exact ⟨rfl, rfl⟩
  · rw [if_neg h1]
    by_cases h2 : y < x
    · rw [if_pos h2]
      go_enter Tryd.func65, Tryd.ntmps65
      go_wp2_with (go_at_call 87; refine (nan_any _ _).mono ?_; rintro e w' ⟨rfl, hww⟩; rw [hww]; clear hww w')
      go_ret
      exact ⟨rfl, rfl⟩
    · rw [if_neg h2]
      go_enter Tryd.func65, Tryd.ntmps65
      go_wp2_with (go_at_call 87; refine (nan_any _ _).mono ?_; rintro e w' ⟨rfl, hww⟩; rw [hww]; clear hww w')
      go_ret
      exact ⟨rfl, rfl⟩

set_option maxHeartbeats 1000000 in
theorem byRows_any (x y : Nat × Nat) (W : World) : Calls Tryd.prog 64 #[.agg #[.int .u32 (x.1 : Int), .int .u32 (x.2 : Int)], .agg #[.int .u32 (y.1 : Int), .int .u32 (y.2 : Int)]] W fun e w' => e = .returned (.int .i64 (cmpN x.1 y.1)) ∧ ∃ q os', w' = grow (W.drewN q) os' := by
  have hcon := compare_any x.1 y.1
  generalize cmpN x.1 y.1 = r at hcon ⊢
  go_enter Tryd.func64, Tryd.ntmps64
  go_wp2_with (go_at_call 65; refine (hcon _).mono ?_; rintro e w' ⟨rfl, hww⟩; rw [hww]; clear hww w')
  go_ret
  exact ⟨rfl, 0, _, by rw [alloc_eq_grow, alloc_eq_grow, grow_grow]; rfl⟩
theorem lt_cmp (x y : Nat × Nat) : ltOf (fun x y : Nat × Nat => cmpN x.1 y.1) x y = decide (x.1 < y.1) := by
  unfold ltOf cmpN
  by_cases h1 : x.1 < y.1
  · simp [h1]
  · by_cases h2 : y.1 < x.1 <;> simp [h1, h2]
theorem swo_cmp : SWO (ltOf fun x y : Nat × Nat => cmpN x.1 y.1) := ⟨fun x => by rw [lt_cmp]; simp, fun x y z h1 h2 => by rw [lt_cmp] at *; simp at *; omega, fun x y z h1 h2 => by rw [lt_cmp] at *; simp at *; omega⟩
theorem below_sort (W : World) (b n : Nat) (d : Array (Nat × Nat)) (os : Array Obj) (hb : b < W.heap.size) : Go.RowKit.Below b W (sortWorldK encC 2 W b 0 n d os) := by
  refine ⟨rfl, rfl, rfl, size_sortWorldK_c encC 2 W b 0 n d os, fun k hk => ?_⟩
  unfold sortWorldK putRowK putRow mapBlock
  show ((W.heap.modify b _) ++ os)[k]? = W.heap[k]?
  rw [Array.getElem?_append_left (by rw [Array.size_modify]; omega), Array.getElem?_modify, if_neg (by omega)]

theorem flat_at (d : Array (Nat × Nat)) (i : Nat) (h : i < d.size) : (flatK encC 2 d)[i * 2]! = .int .u32 ((d[i].1 : Nat) : Int) ∧ (flatK encC 2 d)[i * 2 + 1]! = .int .u32 ((d[i].2 : Nat) : Int) := by
  rw [get_flatK encC 2 d _ (by omega), get_flatK encC 2 d _ (by omega)]
  have e1 : i * 2 / 2 = i := by omega
  have e2 : i * 2 % 2 = 0 := by omega
  have e3 : (i * 2 + 1) / 2 = i := by omega
  have e4 : (i * 2 + 1) % 2 = 1 := by omega
  rw [e1, e2, e3, e4, getElem!_pos d i h]
  exact ⟨rfl, rfl⟩
theorem holds_cons {W : World} {b : Nat} {t : TypeId} {P : List (Nat × Nat)} (h : Row W b t (cvals P)) : HoldsK encC 2 W b 0 P.toArray := by
  intro j hj
  rw [size_flatK] at hj
  have hj2 : j < P.length * 2 := by simpa using hj
  obtain ⟨i, r, hr, rfl⟩ : ∃ i r, r < 2 ∧ j = i * 2 + r := ⟨j / 2, j % 2, by omega, by omega⟩
  have hi : i < P.length := by omega
  have hf := flat_at P.toArray i (by simpa using hi)
  refine ⟨?_, h.frozen _⟩
  rw [Nat.zero_add]
  match r, hr with
  | 0, _ => rw [Nat.add_zero, hf.1]; exact h.cell (cvals_at P i hi).1
  | 1, _ => rw [hf.2]; exact h.cell (cvals_at P i hi).2

theorem agg_con (w : World) : (isAgg 67).run Tryd.prog w = .ok true w := by kernel_rfl
theorem size_con (w : World) : (Go.sizeOf 67).run Tryd.prog w = .ok 2 w := by kernel_rfl
/-- **concepts are sorted by their rows** -/
theorem SortFunc_any (b cap : Nat) (t : TypeId) (P : List (Nat × Nat)) (w : World) (h : Row w b t (cvals P)) (hl : P.length ≤ 256) (hnd : (P.map (·.1)).Nodup) :
    Calls Tryd.prog 63 #[.slice (some ⟨b, 0, none⟩) P.length cap, .func (.func 64) #[] #[]] w fun e w' => e = .returned (.tuple #[]) ∧ Go.RowKit.Below b w w' ∧ b < w'.heap.size ∧
      ∃ P', Cons w' b P' ∧ P'.Perm P ∧ (P'.map (·.1)).Pairwise (· < ·) := by
  have eg : ∀ args w, (callFunc 64 args).run Tryd.prog w = .ok (.enter 64 args) w := enters_of Tryd.func64 (by kernel_rfl) rfl
  have hH := holds_cons h
  have hcon := AnyQ.slices_SortFunc Tryd.sortCon 2 agg_con size_con encC (fun _ => rfl) (fun x v hv => by simp [encC] at hv; rcases hv with rfl | rfl <;> rfl) (fun x y => cmpN x.1 y.1) swo_cmp 64 #[] b 0 cap P.toArray w eg (fun _ _ _ _ x y => byRows_any x y _) hH h.lt (by simp; omega)
  change Calls Tryd.prog 63 _ _ _ at hcon
  have e0 : P.toArray.size = P.length := by simp
  rw [e0] at hcon
  refine hcon.mono ?_
  rintro e w' ⟨rfl, d', n, os, hp, hs, rfl⟩
  have hsz : d'.size = P.length := by rw [hp.1]; simp
  have hH' := holdsK_sortWorldK_c encC 2 w b 0 P.toArray d' n os hH h.lt (by rw [hsz]; simp)
  have hperm : d'.toList.Perm P := by
    have := hp.2.2
    have e1 : (d'.extract 0 P.length).toList = d'.toList := by rw [← hsz]; simp
    rw [e1] at this
    simpa using this
  refine ⟨rfl, below_sort w b n d' os h.lt, Nat.lt_of_lt_of_le h.lt (size_sortWorldK_c encC 2 w b 0 n d' os), d'.toList, fun i hi => ?_, hperm, ?_⟩
  · have hi' : i < d'.size := by simpa using hi
    have h1 := (hH' (i * 2) (by rw [size_flatK]; omega)).1
    have h2 := (hH' (i * 2 + 1) (by rw [size_flatK]; omega)).1
    rw [Nat.zero_add] at h1 h2
    rw [(flat_at d' i hi').1] at h1
    rw [(flat_at d' i hi').2] at h2
    exact ⟨by simpa using h1, by simpa using h2⟩
  · rw [List.pairwise_iff_getElem]
    intro i j hi hj hij
    have hi' : i < d'.size := by simpa using hi
    have hj' : j < d'.size := by simpa using hj
    have := hs i j (Nat.zero_le _) hij (by omega)
    rw [lt_cmp, getElem!_pos d' i hi', getElem!_pos d' j hj'] at this
    have hle := of_decide_eq_false this
    have hnd' : (d'.toList.map (·.1)).Nodup := (hperm.map _).nodup_iff.2 hnd
    have hne : (d'.toList.map (·.1))[i] ≠ (d'.toList.map (·.1))[j] := fun e => by
      have := (List.getElem_inj hnd').1 e
      omega
    simp only [List.getElem_map, Array.getElem_toList] at hne ⊢
    omega
end Go.Proofs.YtdeglbmoiofpoaaDoor

namespace Go.Proofs.YtdeglbmoiofpoaaDoor
open Go.RowKit Go.Shelf

/-- all concepts, their rows rising -/
def conP (n : Nat) (us : List Nat) : List (Nat × Nat) := (conL n us).map fun x => (x, upW n us x)
theorem conP_len (n : Nat) (us : List Nat) : (conP n us).length = (conL n us).length := by unfold conP; simp
/-- what is sorted by its rows is all concepts -/
theorem conP_of {n : Nat} (hn : n ≤ 16) {us L : List Nat} (h : ∀ x, x ∈ L ↔ Ext us n x) {P' : List (Nat × Nat)} (hp : P'.Perm (L.map fun x => (x, upW n us x))) (hs : (P'.map (·.1)).Pairwise (· < ·)) : P' = conP n us := by
  have h1 : P'.map (·.1) = conL n us := by
    refine rising_ext hs (rising_conL n us) fun x => ?_
    rw [mem_conL hn, ← h x, (hp.map (·.1)).mem_iff]
    simp
  have h2 : ∀ p ∈ P', p = (p.1, upW n us p.1) := fun p hm => by
    have := hp.mem_iff.1 hm
    rw [List.mem_map] at this
    obtain ⟨x, _, rfl⟩ := this
    rfl
  unfold conP
  rw [← h1, List.map_map]
  conv => lhs; rw [← List.map_id P']
  exact List.map_congr_left fun p hm => h2 p hm
theorem made_pairs (m : Nat) : madeCells (Value.agg #[Value.int .u32 0, Value.int .u32 0]).cells (m * 2) = (cvals (List.replicate m (0, 0))).toArray := by
  rw [← cvals_zero]
  unfold madeCells
  apply Array.ext
  · simp
  · intro i h1 h2
    have hm : i % 2 = 0 ∨ i % 2 = 1 := by omega
    rcases hm with hm | hm <;> simp [Value.cells, hm]
theorem info_con : (Tryd.prog.info? 67).map (fun i => (i.zero, i.size, i.bytes)) = some (some (.agg #[.int .u32 0, .int .u32 0]), 2, 8) := by kernel_rfl
theorem make_con (m : Nat) (hm : m ≤ 256) (W : World) : (Instr.makeSlice 58 (.int .i64 (m : Int)) (.int .i64 (m : Int))).run Tryd.prog W = .ok (.slice (some ⟨W.heap.size, 0, none⟩) m m) (W.alloc (.cells (cvals (List.replicate m (0, 0))).toArray 67)) := by
  obtain ⟨i0, hi, hz0, hz1, hz2⟩ := info_parts info_con
  rw [run_make W _ _ i0 _ Tryd.underlying58 hi hz0 .i64 .i64 (m : Int) (m : Int) (by omega) (by omega) (by rw [hz2]; omega) (by omega)]
  rw [hz1, Int.toNat_natCast, made_pairs]
theorem own_words {W : World} {base : Nat} {av : Option Addr} {cv k : Nat} {l : List Nat} (h : W.ownsRow base 65 1 (.slice av k cv) k (wvals l)) : IsWords W.heap.size W av l := by
  have hlen : l.length = k := by have := h.1; simpa [wvals] using this
  rcases h.2 with ⟨h1, h2⟩ | ⟨g, cap, cur, h1, h2, h3, h4, h5, h6, h7⟩
  · exact .inl (List.length_eq_zero_iff.1 (by omega))
  · cases h1
    refine .inr ⟨g, 0, rfl, (Array.getElem?_eq_some_iff.1 h3).1, fun i hi => ?_⟩
    have hx : (cur.toList.take (k * 1))[i]? = (wvals l)[i]? := by rw [h7]
    rw [wvals_at hi, List.getElem?_take, if_pos (by omega)] at hx
    simp [World.cell?, h3, ← Array.getElem?_toList, hx]
def pd (P : List (Nat × Nat)) (i : Nat) : Nat × Nat := P.getD i (0, 0)
theorem pd_set {P : List (Nat × Nat)} {i j : Nat} {x : Nat × Nat} (h : i < P.length) : pd (P.set i x) j = if i = j then x else pd P j := by
  unfold pd; rw [List.getD_eq_getElem?_getD, List.getD_eq_getElem?_getD, List.getElem?_set]
  by_cases e : i = j
  · subst e; simp [h]
  · simp [e]
theorem pd_map {L : List Nat} {P : List (Nat × Nat)} {f : Nat → Nat × Nat} (hl : P.length = L.length) (h : ∀ i, i < L.length → pd P i = f (wd L i)) : P = L.map f := by
  apply List.ext_getElem (by simpa using hl)
  intro i h1 h2
  have := h i (by omega)
  unfold pd wd at this
  rw [List.getD_eq_getElem?_getD, List.getElem?_eq_getElem h1, List.getD_eq_getElem?_getD, List.getElem?_eq_getElem (by omega)] at this
  simpa using this

/-- what Concepts answers -/
def ConPost (n : Int) (us : List Nat) (e : Ending) (W : World) : Prop :=
  (codeC n us ≠ 0 ∧ e = .returned (.tuple #[.slice none 0 0, .int .i64 (codeC n us)])) ∨
  (codeC n us = 0 ∧ 256 < (conL n.toNat us).length ∧ e = .returned (.tuple #[.slice none 0 0, .int .i64 1])) ∨
  (codeC n us = 0 ∧ ∃ P B cap, P = conP n.toNat us ∧ P.length ≤ 256 ∧ e = .returned (.tuple #[.slice (some ⟨B, 0, none⟩) P.length cap, .int .i64 0]) ∧ Cons W B P ∧ B < W.heap.size)

set_option maxRecDepth 100000 in
set_option maxHeartbeats 2000000 in
theorem Concepts_any (n : Int) (a : Option Addr) (cap : Nat) (us : List Nat) (n₀ : Nat) (w : World) (hR : Rdy a us n₀ w) :
    Calls Tryd.prog 32 #[.agg #[.slice a us.length cap, .int .i64 n]] w fun e w' => ConPost n us e w' ∧ Below w.heap.size w w' := by
  obtain ⟨r0, hb0, hs0⟩ := one_row w 62 (.slice a us.length cap) (.int .i64 n) rfl
  obtain ⟨W0, hW0⟩ : ∃ V, w.alloc (.cells #[.slice a us.length cap, .int .i64 n] 62) = V := ⟨_, rfl⟩
  rw [hW0] at r0 hb0 hs0
  have R0 := hR.step hb0
  have s1 := pcheck_any n a cap us n₀ W0 R0
  have c0 := r0.cell (i := 0) rfl
  have c1 := r0.cell (i := 1) rfl
  have lt0 := r0.lt
  have HB := hide hb0
  clear hb0 hs0
  unfold ConPost
  by_cases hc : codeC n us = 0
  · obtain ⟨hl, m, rfl, hm, hout⟩ := codeC_zero hc
    have HC := hide hc
    rw [hc] at s1
    clear hc hout
    have htn : (m : Int).toNat = m := Int.toNat_natCast m
    rw [htn]
    go_enter Tryd.func32, Tryd.ntmps32
    go_wp2_with fail
    refine s1.mono ?_
    rintro e w1 ⟨rfl, hb1⟩
    have R1 := R0.step hb1
    have r1 := row_below r0 hb1 lt0
    have lt1 := r1.lt
    have hB1 := HB.out.trans (hb1.mono HB.out.size)
    clear c0 c1 s1
    have c0 := r1.cell (i := 0) rfl
    have c1 := r1.cell (i := 1) rfl
    have s2 := closed_any m hm a cap us hl n₀ w1 R1
    go_wp2_with fail
    refine s2.mono ?_
    rintro e w2 ⟨hb2, ⟨L, a', c', rfl, hown, hnd, hmem, h256⟩ | ⟨hbig, rfl⟩⟩
    · have hB2 := hB1.trans (hb2.mono hB1.size)
      have r2 := row_below r1 hb2 lt1
      have lt2 := r2.lt
      have hLW := own_words hown
      have hmk := make_con L.length h256 w2
      have rB := Row.new w2 67 (cvals (List.replicate L.length (0, 0)))
      have hal : Below w2.heap.size w2 (w2.alloc (.cells (cvals (List.replicate L.length (0, 0))).toArray 67)) := (Below.refl _ _).alloc (Nat.le_refl _) _
      have Hext := hide (show ∀ i, i < L.length → wd L i < 4294967296 from fun i hi => Ext.lt hl ((hmem _).1 (wd_memL hi)))
      clear c0 c1 s2 hown
      have c0 := r2.cell (i := 0) rfl
      have c1 := r2.cell (i := 1) rfl
      go_wp2_with fail
      go_loopw [27] (fun i wr => ∃ (k : Nat) (P : List (Nat × Nat)), k ≤ L.length ∧ i = .int .i64 k ∧ Hid (P.length = L.length) ∧ Hid (∀ i, i < k → pd P i = (wd L i, upW m us (wd L i))) ∧ Row wr w2.heap.size 67 (cvals P) ∧ Below w2.heap.size w2 wr) (fun i _ => L.length - (intOf i).toNat)
      case atStart => exact ⟨0, _, Nat.zero_le _, rfl, hide (by simp), hide fun i hi => by omega, rB, hal⟩
      case round =>
        obtain ⟨k, P, hk, rfl, HL, HP, rP, hbr⟩ := hrel
        clear rB hal hmk c0 c1
        have hBr := hB2.trans (hbr.mono hB2.size)
        have r3 := row_below r2 hbr lt2
        have lt3 := r3.lt
        have c0 := r3.cell (i := 0) rfl
        have c1 := r3.cell (i := 1) rfl
        by_cases hlt : k < L.length
        · obtain ⟨bl, ol, rfl, hbl, hcl⟩ := (hLW.below hbr).at hlt
          have hck := hcl k hlt
          have hx := Hext.out k hlt
          have Rr := hR.step hBr
          have s3 := pcols_any m hm a cap us hl (wd L k) hx n₀ wr Rr
          have HU := hide (show ∀ i, i = k → upW m us (wd L i) = upW m us (wd L k) ∧ wd L i = wd L k from fun i e => by rw [e]; exact ⟨rfl, rfl⟩)
          generalize upW m us (wd L k) = u at *
          generalize wd L k = x at *
          clear hcl
          go_wp2_with fail
          refine s3.mono ?_
          rintro e w4 ⟨rfl, hb4⟩
          have ltP := rP.lt
          have rQ := row_below rP hb4 ltP
          have hbr4 := hbr.trans (hb4.mono hbr.size)
          have hPl : k < P.length := by rw [HL.out]; exact hlt
          have k0 := rQ.cell (i := k * 2) (cvals_at P k hPl).1
          have k1 := rQ.cell (i := k * 2 + 1) (cvals_at P k hPl).2
          have f0 := rQ.frozen (k * 2)
          have f1 := rQ.frozen (k * 2 + 1)
          clear s3 c0 c1
          go_wp2
          refine ⟨⟨k + 1, P.set k (x, u), by omega, by go_num, hide (by rw [List.length_set]; exact HL.out), hide fun i hi => ?_, by rw [← cvals_set]; exact (rQ.set (k * 2) _).set (k * 2 + 1) _, (hbr4.setCell (p := ⟨w2.heap.size, k * 2, none⟩) (Nat.le_refl _) _).setCell (p := ⟨w2.heap.size, k * 2 + 1, none⟩) (Nat.le_refl _) _⟩, by simp [intOf]; omega⟩
          rw [pd_set hPl]
          by_cases e : k = i
          · rw [if_pos e, (HU.out i e.symm).1, (HU.out i e.symm).2]
          · rw [if_neg e]; exact HP.out i (by omega)
        · have hk2 : k = L.length := by omega
          have hPm : P = L.map fun x => (x, upW m us x) := pd_map HL.out fun i hi => HP.out i (by omega)
          have s3 := SortFunc_any w2.heap.size L.length 67 P wr rP (by rw [HL.out]; exact h256) (by rw [hPm, List.map_map]; simpa [Function.comp_def] using hnd)
          rw [HL.out] at s3
          have HPm := hide hPm
          have Hmem := hide hmem
          have HL2 := hide (show L.length = (conL m us).length from just_all hm hnd hmem)
          clear hPm hmem hnd c0 c1 hk2
          go_wp2_with fail
          refine s3.mono ?_
          rintro e w5 ⟨rfl, hb5, hlt5, P', hcon, hperm, hs⟩
          have hPP := conP_of hm Hmem.out (by rw [HPm.out] at hperm; exact hperm) hs
          have HPP := hide hPP
          clear hPP s3
          go_wp2
          go_ret2
          refine ⟨.inr (.inr ⟨HC.out, P', w2.heap.size, L.length, HPP.out, ?_, ?_, hcon, hlt5⟩), hBr.trans (hb5.mono hB2.size)⟩
          · rw [HPP.out, conP_len, ← HL2.out]; exact h256
          · rw [show P'.length = L.length by rw [HPP.out, conP_len]; exact HL2.out.symm]; rfl
    · have hB2 := hB1.trans (hb2.mono hB1.size)
      clear s2
      go_wp2
      go_ret2
      exact ⟨.inr (.inl ⟨HC.out, hbig, rfl⟩), hB2⟩
  · have e1 : (codeC n us != 0) = true := by rw [bne_iff_ne]; exact hc
    have HN := hide hc
    clear hc
    generalize hcc : codeC n us = c at *
    have HCC := hide hcc
    clear hcc
    go_enter Tryd.func32, Tryd.ntmps32
    go_wp2_with fail
    refine s1.mono ?_
    rintro e w1 ⟨rfl, hb1⟩
    go_wp2
    go_ret2
    exact ⟨.inl ⟨HN.out, rfl⟩, HB.out.trans (hb1.mono HB.out.size)⟩
end Go.Proofs.YtdeglbmoiofpoaaDoor
