/- Lists of numbers that go round at 64 bits, in memory. -/
import Derived.Test.YtekpielpfegclabDoorZRow
import Derived.Test.YtekpielpfegclabDoorMobPlain
namespace Go.Proofs.YtekpielpfegclabDoor
open Go.RowKit Go.Shelf

/-- the numbers as they are read -/
def tiL (l : List B64) : List Int := l.map BitVec.toInt
def bd (l : List B64) (i : Nat) : B64 := l.getD i 0
theorem tiL_len (l : List B64) : (tiL l).length = l.length := by unfold tiL; simp
theorem zd_tiL (l : List B64) (i : Nat) : zd (tiL l) i = (bd l i).toInt := by
  unfold zd tiL bd
  rw [List.getD_eq_getElem?_getD, List.getElem?_map, List.getD_eq_getElem?_getD]
  cases l[i]? <;> simp
theorem tiL_inj {a b : List B64} : tiL a = tiL b ↔ a = b := by
  constructor
  · intro h
    have hl : a.length = b.length := by rw [← tiL_len a, ← tiL_len b, h]
    apply List.ext_getElem hl
    intro i h1 h2
    have := congrArg (fun l => zd l i) h
    simp only [zd_tiL] at this
    have := BitVec.eq_of_toInt_eq this
    unfold bd at this
    simpa [List.getD_eq_getElem?_getD, List.getElem?_eq_getElem h1, List.getElem?_eq_getElem h2] using this
  · intro h; rw [h]
theorem tiL_set (l : List B64) (i : Nat) (x : B64) : (tiL l).set i x.toInt = tiL (l.set i x) := by unfold tiL; rw [List.map_set]
theorem tiL_snoc (l : List B64) (x : B64) : tiL (l ++ [x]) = tiL l ++ [x.toInt] := by unfold tiL; simp
theorem tiL_ofInt {zs : List Int} (h : ∀ z ∈ zs, -9223372036854775808 ≤ z ∧ z ≤ 9223372036854775807) : tiL (zs.map (BitVec.ofInt 64)) = zs := by
  unfold tiL
  rw [List.map_map]
  conv => rhs; rw [← List.map_id zs]
  apply List.map_congr_left
  intro z hz
  have := h z hz
  simp only [Function.comp, BitVec.toInt_ofInt, id_eq]
  rw [Int.bmod_eq_of_le] <;> omega
theorem bd_set {l : List B64} {i j : Nat} {x : B64} (h : i < l.length) : bd (l.set i x) j = if i = j then x else bd l j := by
  unfold bd; rw [List.getD_eq_getElem?_getD, List.getD_eq_getElem?_getD, List.getElem?_set]
  by_cases e : i = j
  · subst e; simp [h]
  · simp [e]
theorem bd_ext {a b : List B64} (hl : a.length = b.length) (h : ∀ i, i < a.length → bd a i = bd b i) : a = b := by
  apply List.ext_getElem hl
  intro i h1 h2
  have := h i h1
  unfold bd at this
  simpa [List.getD_eq_getElem?_getD, List.getElem?_eq_getElem h1, List.getElem?_eq_getElem h2] using this
theorem bd_snoc_lt {a : List B64} {x : B64} {i : Nat} (h : i < a.length) : bd (a ++ [x]) i = bd a i := by
  unfold bd; rw [List.getD_eq_getElem?_getD, List.getD_eq_getElem?_getD, List.getElem?_append_left h]
theorem bd_snoc_eq {a : List B64} {x : B64} : bd (a ++ [x]) a.length = x := by
  unfold bd; rw [List.getD_eq_getElem?_getD, List.getElem?_append_right (Nat.le_refl _)]; simp
theorem bd_range {n : Nat} (f : Nat → B64) {i : Nat} (h : i < n) : bd ((List.range n).map f) i = f i := by
  unfold bd; rw [List.getD_eq_getElem?_getD, List.getElem?_map, List.getElem?_range h]; rfl
theorem bd_replicate (n i : Nat) : bd (List.replicate n 0) i = 0 := by
  unfold bd; rw [List.getD_eq_getElem?_getD, List.getElem?_replicate]; split <;> rfl
theorem bd_out {l : List B64} {i : Nat} (h : l.length ≤ i) : bd l i = 0 := by
  unfold bd; rw [List.getD_eq_getElem?_getD, List.getElem?_eq_none h]; rfl
/-- what lies in memory for them -/
def bvals (l : List B64) : List Value := zvals (tiL l)
theorem bvals_len (l : List B64) : (bvals l).length = l.length := by unfold bvals; rw [zvals_len, tiL_len]
theorem bvals_at {l : List B64} {i : Nat} (h : i < l.length) : (bvals l)[i]? = some (.int .i64 (bd l i).toInt) := by
  unfold bvals; rw [zvals_at (by rw [tiL_len]; exact h), zd_tiL]
theorem bvals_set (l : List B64) (i : Nat) (x : B64) : (bvals l).set i (.int .i64 x.toInt) = bvals (l.set i x) := by
  unfold bvals; rw [zvals_set, tiL_set]
theorem bvals_snoc (l : List B64) (x : B64) : bvals (l ++ [x]) = bvals l ++ [.int .i64 x.toInt] := by
  unfold bvals; rw [tiL_snoc, zvals_snoc]
theorem bvals_replicate (n : Nat) : (madeCells #[Value.int .i64 0] n) = (bvals (List.replicate n 0)).toArray := by
  rw [zvals_replicate]; unfold bvals tiL; simp
theorem Row.b {W : World} {B n₀ : Nat} {t : TypeId} {l : List B64} (h : Row W B t (bvals l)) (hB : B < n₀) : ZInts n₀ W (some ⟨B, 0, none⟩) (tiL l) := Row.z h hB
/-- cells of a slice of such numbers: from off on, m of them -/
def CellsB (W : World) (q off : Nat) (m : Nat) (r : Nat → B64) : Prop := ∀ i, i < m → W.cell? ⟨q, off + i, none⟩ = some (.int .i64 (r i).toInt)
theorem Row.cellsB {W : World} {q : Nat} {t : TypeId} {l : List B64} (h : Row W q t (bvals l)) (off m : Nat) (hm : off + m ≤ l.length) : CellsB W q off m (fun i => bd l (off + i)) := fun i hi => h.cell (bvals_at (by omega))
theorem ZInts.cellsB {n₀ : Nat} {W : World} {a : Option Addr} {l : List B64} (h : ZInts n₀ W a (tiL l)) {i : Nat} (hi : i < l.length) :
    ∃ b off, a = some ⟨b, off, none⟩ ∧ b < n₀ ∧ CellsB W b off l.length (bd l) := by
  obtain ⟨b, off, h1, h2, h3⟩ := h.at (i := i) (by rw [tiL_len]; exact hi)
  exact ⟨b, off, h1, h2, fun i hi => by rw [← zd_tiL]; exact h3 i (by rw [tiL_len]; exact hi)⟩
theorem wrap_bmod (x : Int) : wrap64 x = x.bmod (2 ^ 64) := by
  unfold wrap64
  rw [Int.bmod]
  simp
  omega
theorem wrap_add (x y : B64) : wrap64 (x.toInt + y.toInt) = (x + y).toInt := by rw [wrap_bmod, BitVec.toInt_add]
theorem wrap_mul (x y : B64) : wrap64 (x.toInt * y.toInt) = (x * y).toInt := by rw [wrap_bmod, BitVec.toInt_mul]
theorem wrap_neg (x : B64) : wrap64 (-x.toInt) = (-x).toInt := by rw [wrap_bmod, BitVec.toInt_neg]
theorem wrap_sub (x y : B64) : wrap64 (x.toInt - y.toInt) = (x - y).toInt := by rw [wrap_bmod, BitVec.toInt_sub]
theorem toInt_one : (1 : B64).toInt = 1 := by decide
theorem toInt_zero : (0 : B64).toInt = 0 := by decide
theorem toInt_none : (-1 : B64).toInt = -1 := by decide
theorem toInt_eq {x y : B64} : x.toInt = y.toInt ↔ x = y := BitVec.toInt_inj
/-- a table of n * n numbers -/
def mat (n : Nat) (l : List B64) : Mat := fun a b => bd l (a * n + b)
theorem plc_lt {n a b : Nat} (ha : a < n) (hb : b < n) : a * n + b < n * n := by
  have : (a + 1) * n ≤ n * n := Nat.mul_le_mul_right _ ha
  rw [Nat.succ_mul] at this; omega
theorem plc_inj {n a b c d : Nat} (hb : b < n) (hd : d < n) (h : a * n + b = c * n + d) : a = c ∧ b = d := by
  have h1 : (a * n + b) / n = (c * n + d) / n := by rw [h]
  have h2 : (a * n + b) % n = (c * n + d) % n := by rw [h]
  rw [Nat.mul_comm a, Nat.mul_comm c, Nat.mul_add_div (by omega), Nat.mul_add_div (by omega), Nat.div_eq_of_lt hb, Nat.div_eq_of_lt hd] at h1
  rw [Nat.mul_comm a, Nat.mul_comm c, Nat.mul_add_mod, Nat.mul_add_mod, Nat.mod_eq_of_lt hb, Nat.mod_eq_of_lt hd] at h2
  omega
theorem mat_ext {n : Nat} {k l : List B64} (h1 : k.length = n * n) (h2 : l.length = n * n) (h : EqN n (mat n k) (mat n l)) : k = l := by
  refine bd_ext (h1.trans h2.symm) fun i hi => ?_
  have hn : 0 < n := by
    cases n with
    | zero => rw [h1] at hi; simp at hi
    | succ _ => omega
  have e : i / n * n + i % n = i := Nat.div_add_mod' i n
  have hi' : i < n * n := by rw [← h1]; exact hi
  have := h (i / n) ((Nat.div_lt_iff_lt_mul hn).2 hi') (i % n) (Nat.mod_lt _ hn)
  unfold mat at this
  rwa [e] at this
/-- the list of a table -/
def tabL (n : Nat) (f : Mat) : List B64 := (List.range (n * n)).map fun i => f (i / n) (i % n)
theorem tabL_len (n : Nat) (f : Mat) : (tabL n f).length = n * n := by unfold tabL; simp
theorem mat_tabL {n : Nat} (f : Mat) : EqN n (mat n (tabL n f)) f := fun a ha b hb => by
  unfold mat tabL
  rw [bd_range _ (plc_lt ha hb)]
  have h1 : (a * n + b) / n = a := by rw [Nat.mul_comm, Nat.mul_add_div (by omega), Nat.div_eq_of_lt hb]; omega
  have h2 : (a * n + b) % n = b := by rw [Nat.mul_comm, Nat.mul_add_mod, Nat.mod_eq_of_lt hb]
  rw [h1, h2]
theorem tabL_mat {n : Nat} {l : List B64} (h : l.length = n * n) : tabL n (mat n l) = l := mat_ext (tabL_len _ _) h (mat_tabL _)
theorem tabL_congr {n : Nat} {f g : Mat} (h : EqN n f g) : tabL n f = tabL n g := mat_ext (tabL_len _ _) (tabL_len _ _) ((mat_tabL f).trans (h.trans (mat_tabL g).symm))
end Go.Proofs.YtekpielpfegclabDoor
