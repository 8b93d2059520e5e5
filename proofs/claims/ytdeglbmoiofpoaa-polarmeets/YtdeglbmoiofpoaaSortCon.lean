/- The contract of slices.SortFunc of concepts by their rows: they lie there rising; and concepts in memory. -/
import Derived.Test.YtdeglbmoiofpoaaShelfCon
import Derived.Test.YtdeglbmoiofpoaaOwns
import Derived.Test.YtdeglbmoiofpoaaConPlain
namespace Go.Proofs.Ytdeglbmoiofpoaa
open Go.RowKit Go.Shelf Go.Sort

/-- the cells of a concept -/
def encC (x : Nat × Nat) : List Value := [.int .u32 (x.1 : Int), .int .u32 (x.2 : Int)]
/-- the concepts of P lie in block b -/
def Cons (W : World) (b : Nat) (P : List (Nat × Nat)) : Prop := ∀ i (h : i < P.length), W.cell? ⟨b, i * 2, none⟩ = some (.int .u32 ((P[i].1 : Nat) : Int)) ∧ W.cell? ⟨b, i * 2 + 1, none⟩ = some (.int .u32 ((P[i].2 : Nat) : Int))
theorem Cons.below {W W' : World} {b n : Nat} {P : List (Nat × Nat)} (h : Cons W b P) (hb : Below n W W') (hlt : b < n) : Cons W' b P := fun i hi =>
  ⟨(hb.cell (p := ⟨b, i * 2, none⟩) hlt).trans (h i hi).1, (hb.cell (p := ⟨b, i * 2 + 1, none⟩) hlt).trans (h i hi).2⟩
/-- their cells, one behind the other -/
def cvals : List (Nat × Nat) → List Value
  | [] => []
  | x :: l => .int .u32 (x.1 : Int) :: .int .u32 (x.2 : Int) :: cvals l
theorem cvals_len : ∀ l, (cvals l).length = l.length * 2
  | [] => rfl
  | x :: l => by simp only [cvals, List.length_cons, cvals_len l]; omega
theorem cvals_at : ∀ (l : List (Nat × Nat)) (i : Nat) (h : i < l.length), (cvals l)[i * 2]? = some (.int .u32 ((l[i].1 : Nat) : Int)) ∧ (cvals l)[i * 2 + 1]? = some (.int .u32 ((l[i].2 : Nat) : Int))
  | x :: l, 0, _ => ⟨rfl, rfl⟩
  | x :: l, i + 1, h => by
    have ih := cvals_at l i (by simpa using h)
    have e1 : (i + 1) * 2 = i * 2 + 1 + 1 := by omega
    rw [e1]
    simpa [cvals] using ih
theorem cvals_set : ∀ (l : List (Nat × Nat)) (i : Nat) (x y : Nat), ((cvals l).set (i * 2) (.int .u32 (x : Int))).set (i * 2 + 1) (.int .u32 (y : Int)) = cvals (l.set i (x, y))
  | [], _, _, _ => rfl
  | a :: l, 0, x, y => rfl
  | a :: l, i + 1, x, y => by
    have ih := cvals_set l i x y
    have e1 : (i + 1) * 2 = i * 2 + 1 + 1 := by omega
    rw [e1]
    simp only [cvals, List.set_cons_succ, ih]
theorem cvals_zero : ∀ n, List.replicate (n * 2) (Value.int .u32 0) = cvals (List.replicate n (0, 0))
  | 0 => rfl
  | n + 1 => by
    have e1 : (n + 1) * 2 = n * 2 + 1 + 1 := by omega
    rw [e1, List.replicate_succ, List.replicate_succ, List.replicate_succ, cvals, cvals_zero n]
    rfl
theorem Row.cons {W : World} {b : Nat} {t : TypeId} {P : List (Nat × Nat)} (h : Row W b t (cvals P)) : Cons W b P := fun i hi =>
  ⟨h.cell (cvals_at P i hi).1, h.cell (cvals_at P i hi).2⟩

def cmpN (x y : Nat) : Int := if x < y then -1 else if y < x then 1 else 0
theorem nan_any (x : Nat) (w : World) : Calls Try.prog 24 #[.int .u32 (x : Int)] w fun e w' => e = .returned (.bool false) ∧ w' = w := by
  go_enter Try.func24, Try.ntmps24
  go_wp2
  go_ret
  exact ⟨ret_bool (by simp), rfl⟩
theorem compare_any (x y : Nat) (w : World) : Calls Try.prog 14 #[.int .u32 (x : Int), .int .u32 (y : Int)] w fun e w' => e = .returned (.int .i64 (cmpN x y)) ∧ w' = w := by
  unfold cmpN
  by_cases h1 : x < y
  · rw [if_pos h1]
    go_enter Try.func14, Try.ntmps14
    go_wp2_with (go_at_call 24; refine (nan_any _ _).mono ?_; rintro e w' ⟨rfl, hww⟩; rw [hww]; clear hww w')
    go_ret
    exact ⟨rfl, rfl⟩
  · rw [if_neg h1]
    by_cases h2 : y < x
    · rw [if_pos h2]
      go_enter Try.func14, Try.ntmps14
      go_wp2_with (go_at_call 24; refine (nan_any _ _).mono ?_; rintro e w' ⟨rfl, hww⟩; rw [hww]; clear hww w')
      go_ret
      exact ⟨rfl, rfl⟩
    · rw [if_neg h2]
      go_enter Try.func14, Try.ntmps14
      go_wp2_with (go_at_call 24; refine (nan_any _ _).mono ?_; rintro e w' ⟨rfl, hww⟩; rw [hww]; clear hww w')
      go_ret
      exact ⟨rfl, rfl⟩

set_option maxHeartbeats 1000000 in
theorem byRows_any (x y : Nat × Nat) (W : World) : Calls Try.prog 13 #[.agg #[.int .u32 (x.1 : Int), .int .u32 (x.2 : Int)], .agg #[.int .u32 (y.1 : Int), .int .u32 (y.2 : Int)]] W fun e w' => e = .returned (.int .i64 (cmpN x.1 y.1)) ∧ ∃ q os', w' = grow (W.drewN q) os' := by
  have hcon := compare_any x.1 y.1
  generalize cmpN x.1 y.1 = r at hcon ⊢
  go_enter Try.func13, Try.ntmps13
  go_wp2_with (go_at_call 14; refine (hcon _).mono ?_; rintro e w' ⟨rfl, hww⟩; rw [hww]; clear hww w')
  go_ret
  exact ⟨rfl, 0, _, by rw [alloc_eq_grow, alloc_eq_grow, grow_grow]; rfl⟩
theorem lt_cmp (x y : Nat × Nat) : ltOf (fun x y : Nat × Nat => cmpN x.1 y.1) x y = decide (x.1 < y.1) := by
  unfold ltOf cmpN
  by_cases h1 : x.1 < y.1
  · simp [h1]
  · by_cases h2 : y.1 < x.1 <;> simp [h1, h2]
theorem swo_cmp : SWO (ltOf fun x y : Nat × Nat => cmpN x.1 y.1) := ⟨fun x => by rw [lt_cmp]; simp, fun x y z h1 h2 => by rw [lt_cmp] at *; simp at *; omega, fun x y z h1 h2 => by rw [lt_cmp] at *; simp at *; omega⟩
theorem below_sort (W : World) (b n : Nat) (d : Array (Nat × Nat)) (os : Array Obj) (hb : b < W.heap.size) : Go.RowKit.Below b W (sortWorldK encC 2 W b 0 n d os) := by
  refine ⟨rfl, rfl, rfl, size_sortWorldK_c encC 2 W b 0 n d os, fun k hk => ?_⟩
  unfold sortWorldK putRowK putRow mapBlock
  show ((W.heap.modify b _) ++ os)[k]? = W.heap[k]?
  rw [Array.getElem?_append_left (by rw [Array.size_modify]; omega), Array.getElem?_modify, if_neg (by omega)]

theorem flat_at (d : Array (Nat × Nat)) (i : Nat) (h : i < d.size) : (flatK encC 2 d)[i * 2]! = .int .u32 ((d[i].1 : Nat) : Int) ∧ (flatK encC 2 d)[i * 2 + 1]! = .int .u32 ((d[i].2 : Nat) : Int) := by
  rw [get_flatK encC 2 d _ (by omega), get_flatK encC 2 d _ (by omega)]
  have e1 : i * 2 / 2 = i := by omega
  have e2 : i * 2 % 2 = 0 := by omega
  have e3 : (i * 2 + 1) / 2 = i := by omega
  have e4 : (i * 2 + 1) % 2 = 1 := by omega
  rw [e1, e2, e3, e4, getElem!_pos d i h]
  exact ⟨rfl, rfl⟩
theorem holds_cons {W : World} {b : Nat} {t : TypeId} {P : List (Nat × Nat)} (h : Row W b t (cvals P)) : HoldsK encC 2 W b 0 P.toArray := by
  intro j hj
  rw [size_flatK] at hj
  have hj2 : j < P.length * 2 := by simpa using hj
  obtain ⟨i, r, hr, rfl⟩ : ∃ i r, r < 2 ∧ j = i * 2 + r := ⟨j / 2, j % 2, by omega, by omega⟩
  have hi : i < P.length := by omega
  have hf := flat_at P.toArray i (by simpa using hi)
  refine ⟨?_, h.frozen _⟩
  rw [Nat.zero_add]
  match r, hr with
  | 0, _ => rw [Nat.add_zero, hf.1]; exact h.cell (cvals_at P i hi).1
  | 1, _ => rw [hf.2]; exact h.cell (cvals_at P i hi).2

theorem agg_con (w : World) : (isAgg 33).run Try.prog w = .ok true w := by kernel_rfl
theorem size_con (w : World) : (Go.sizeOf 33).run Try.prog w = .ok 2 w := by kernel_rfl
/-- **concepts are sorted by their rows** -/
theorem SortFunc_any (b cap : Nat) (t : TypeId) (P : List (Nat × Nat)) (w : World) (h : Row w b t (cvals P)) (hl : P.length ≤ 256) (hnd : (P.map (·.1)).Nodup) :
    Calls Try.prog 12 #[.slice (some ⟨b, 0, none⟩) P.length cap, .func (.func 13) #[] #[]] w fun e w' => e = .returned (.tuple #[]) ∧ Go.RowKit.Below b w w' ∧ b < w'.heap.size ∧
      ∃ P', Cons w' b P' ∧ P'.Perm P ∧ (P'.map (·.1)).Pairwise (· < ·) := by
  have eg : ∀ args w, (callFunc 13 args).run Try.prog w = .ok (.enter 13 args) w := enters_of Try.func13 (by kernel_rfl) rfl
  have hH := holds_cons h
  have hcon := AnyQ.slices_SortFunc Try.sortCon 2 agg_con size_con encC (fun _ => rfl) (fun x v hv => by simp [encC] at hv; rcases hv with rfl | rfl <;> rfl) (fun x y => cmpN x.1 y.1) swo_cmp 13 #[] b 0 cap P.toArray w eg (fun _ _ _ _ x y => byRows_any x y _) hH h.lt (by simp; omega)
  change Calls Try.prog 12 _ _ _ at hcon
  have e0 : P.toArray.size = P.length := by simp
  rw [e0] at hcon
  refine hcon.mono ?_
  rintro e w' ⟨rfl, d', n, os, hp, hs, rfl⟩
  have hsz : d'.size = P.length := by rw [hp.1]; simp
  have hH' := holdsK_sortWorldK_c encC 2 w b 0 P.toArray d' n os hH h.lt (by rw [hsz]; simp)
  have hperm : d'.toList.Perm P := by
    have := hp.2.2
    have e1 : (d'.extract 0 P.length).toList = d'.toList := by rw [← hsz]; simp
    rw [e1] at this
    simpa using this
  refine ⟨rfl, below_sort w b n d' os h.lt, Nat.lt_of_lt_of_le h.lt (size_sortWorldK_c encC 2 w b 0 n d' os), d'.toList, fun i hi => ?_, hperm, ?_⟩
  · have hi' : i < d'.size := by simpa using hi
    have h1 := (hH' (i * 2) (by rw [size_flatK]; omega)).1
    have h2 := (hH' (i * 2 + 1) (by rw [size_flatK]; omega)).1
    rw [Nat.zero_add] at h1 h2
    rw [(flat_at d' i hi').1] at h1
    rw [(flat_at d' i hi').2] at h2
    exact ⟨by simpa using h1, by simpa using h2⟩
  · rw [List.pairwise_iff_getElem]
    intro i j hi hj hij
    have hi' : i < d'.size := by simpa using hi
    have hj' : j < d'.size := by simpa using hj
    have := hs i j (Nat.zero_le _) hij (by omega)
    rw [lt_cmp, getElem!_pos d' i hi', getElem!_pos d' j hj'] at this
    have hle := of_decide_eq_false this
    have hnd' : (d'.toList.map (·.1)).Nodup := (hperm.map _).nodup_iff.2 hnd
    have hne : (d'.toList.map (·.1))[i] ≠ (d'.toList.map (·.1))[j] := fun e => by
      have := (List.getElem_inj hnd').1 e
      omega
    simp only [List.getElem_map, Array.getElem_toList] at hne ⊢
    omega
end Go.Proofs.Ytdeglbmoiofpoaa
