/- Package mobius: a row of a square, what add writes, a square of zeros. copy into a block of numbers: the block is spliced, and nothing else is turned. -/
import Derived.Test.YtilffmalkegioaaDoorPart9
import Derived.Test.YtilffmalkegioaaDoorPart10
import Derived.Laws.CopyOwn
namespace Go.Proofs.YtilffmalkegioaaDoor
open Go.RowKit Go.Shelf

/-- a square of n * n numbers that lie in block p -/
def sqV (n p : Nat) : Value := .agg #[.int .i64 n, .slice (some ⟨p, 0, none⟩) (n * n) (n * n)]

set_option maxRecDepth 100000 in
set_option maxHeartbeats 1000000 in
theorem row_any (n p a : Nat) (hn : n ≤ 16) (ha : a < n) (w : World) :
    Calls Tryd.prog 48 #[sqV n p, .int .i64 a] w fun e w' => e = .returned (.slice (some ⟨p, a * n, none⟩) n (n * n - a * n)) ∧ Below w.heap.size w w' := by
  have h1 : (a + 1) * n ≤ n * n := Nat.mul_le_mul_right _ ha
  have h2 : n * n ≤ 256 := Nat.mul_le_mul hn hn
  rw [Nat.succ_mul] at h1
  have hz : ((a : Int) + 1) * (n : Int) = ((a * n + n : Nat) : Int) := by push_cast; grind
  unfold sqV
  go_enter Tryd.func48, Tryd.ntmps48
  go_wp2
  go_ret
  refine ⟨?_, (Below.refl _ _).alloc (Nat.le_refl _) _⟩
  show Ending.returned (.slice (some ⟨p, a * n, none⟩) (a * n + n - a * n) (n * n - a * n)) = _
  rw [show a * n + n - a * n = n by omega]

set_option maxRecDepth 100000 in
set_option maxHeartbeats 1000000 in
/-- **add** writes k times the row into its part of the block p, and nothing else -/
theorem add_any (p off m ct q off2 cr : Nat) (T : List B64) (r : Nat → B64) (k : B64) (h16 : m ≤ 256) (hoff : off ≤ 65536) (hm : off + m ≤ T.length) (w : World) (hp : Row w p 2 (bvals T))
    (hR : ∀ W' T', w.grownBy W' (some p) → Row W' p 2 (bvals T') → T'.length = T.length → (∀ j, (j < off ∨ off + m ≤ j) → bd T' j = bd T j) → CellsB W' q off2 m r) :
    Calls Tryd.prog 60 #[.slice (some ⟨p, off, none⟩) m ct, .int .i64 k.toInt, .slice (some ⟨q, off2, none⟩) m cr] w fun e w' => e = .returned (.tuple #[]) ∧ w.grownBy w' (some p) ∧ ∃ T', Row w' p 2 (bvals T') ∧ T'.length = T.length ∧ (∀ j, (j < off ∨ off + m ≤ j) → bd T' j = bd T j) ∧ ∀ i, i < m → bd T' (off + i) = bd T (off + i) + k * r i := by
  go_enter Tryd.func60, Tryd.ntmps60
  go_wp2
  go_loopw [10] (fun i wr => ∃ (j : Nat) (S : List B64), j ≤ m ∧ i = .int .i64 j ∧ w.grownBy wr (some p) ∧ Row wr p 2 (bvals S) ∧ S.length = T.length ∧ (∀ x, (x < off ∨ off + j ≤ x) → bd S x = bd T x) ∧ (∀ x, x < j → bd S (off + x) = bd T (off + x) + k * r x)) (fun i _ => m - (intOf i).toNat)
  case atStart => exact ⟨0, T, Nat.zero_le _, rfl, ⟨rfl, rfl, rfl, Nat.le_refl _, fun _ _ _ => rfl⟩, hp, rfl, fun _ _ => rfl, fun x hx => absurd hx (Nat.not_lt_zero _)⟩
  case round =>
    obtain ⟨j, S, hj, rfl, hg, hS, hlS, hout, hin⟩ := hrel
    by_cases hlt : j < m
    · have hc := hR wr S hg hS hlS (fun x hx => hout x (by omega)) j hlt
      have hs := hS.cell (bvals_at (i := off + j) (by omega))
      have hf := hS.frozen (off + j)
      have hset := hS.set (off + j) (.int .i64 (bd T (off + j) + k * r j).toInt)
      rw [bvals_set] at hset
      have hv := hout (off + j) (by omega)
      rw [hv] at hs
      have hw1 := wrap_mul k (r j)
      have hw2 := wrap_add (bd T (off + j)) (k * r j)
      have HO := hide hout
      have HI := hide hin
      have hbd : off + j < S.length := by omega
      clear hout hin hR
      generalize hy : k * r j = y at *
      generalize hz : bd T (off + j) + y = z at *
      generalize (bd T (off + j)).toInt = s0 at *
      generalize (r j).toInt = x at *
      go_wp2
      refine ⟨⟨j + 1, S.set (off + j) z, by omega, by go_num, hg.trans (grownBy_setCellAt _ _ _ _), hset, by rw [List.length_set, hlS], fun i hi => ?_, fun i hi => ?_⟩, by simp [intOf]; omega⟩
      · rw [bd_set (by omega), if_neg (by omega), HO.out i (by omega)]
      · rw [bd_set (by omega)]
        by_cases e : off + j = off + i
        · obtain rfl : j = i := by omega
          rw [if_pos rfl, ← hz, ← hy]
        · rw [if_neg e, HI.out i (by omega)]
    · obtain rfl : j = m := by omega
      go_wp2
      go_end0
      exact ⟨rfl, hg, S, hS, hlS, hout, hin⟩
end Go.Proofs.YtilffmalkegioaaDoor

namespace Go.Proofs.YtilffmalkegioaaDoor
open Go.RowKit Go.Shelf

theorem grownBy_setRow (w : World) (g : Nat) (cs : Array Value) : w.grownBy (w.setRow g cs) (some g) :=
  ⟨rfl, rfl, rfl, by simp [World.setRow], fun k _ hk => setRow_other w g k cs (fun e => hk (by rw [e]))⟩
theorem grownBy_refl (w : World) (r : Option Nat) : w.grownBy w r := ⟨rfl, rfl, rfl, Nat.le_refl _, fun _ _ _ => rfl⟩
/-- R laid into T from off on -/
def spl (T : List B64) (off : Nat) (R : List B64) : List B64 := T.take off ++ (R ++ T.drop (off + R.length))
theorem bvals_map (l : List B64) : bvals l = l.map fun x => Value.int .i64 x.toInt := by unfold bvals zvals tiL; rw [List.map_map]; rfl
theorem bvals_spl (T : List B64) (off : Nat) (R : List B64) : (bvals T).take off ++ (bvals R ++ (bvals T).drop (off + R.length)) = bvals (spl T off R) := by
  simp only [bvals_map, spl, List.map_append, List.map_take, List.map_drop]
theorem spl_len {T : List B64} {off : Nat} {R : List B64} (h : off + R.length ≤ T.length) : (spl T off R).length = T.length := by
  unfold spl; simp; omega
theorem bd_spl {T : List B64} {off : Nat} {R : List B64} (h : off + R.length ≤ T.length) (j : Nat) : bd (spl T off R) j = if off ≤ j ∧ j < off + R.length then bd R (j - off) else bd T j := by
  unfold spl bd
  have ht : (T.take off).length = off := by simp; omega
  rw [List.getD_eq_getElem?_getD, List.getElem?_append]
  by_cases h1 : j < off
  · rw [if_pos (by omega), if_neg (by omega), List.getElem?_take, if_pos h1, List.getD_eq_getElem?_getD]
  · rw [if_neg (by omega), ht, List.getElem?_append]
    by_cases h2 : j - off < R.length
    · rw [if_pos h2, if_pos (by omega), List.getD_eq_getElem?_getD]
    · rw [if_neg h2, if_neg (by omega), List.getElem?_drop, List.getD_eq_getElem?_getD]
      congr 2; omega
theorem wpList_copy_b {P : Program} {w : World} {ops : Array Oper} {rest : List Oper} {o : Oper} {a : Act} {Q : Exit → Act → World → Prop} (hgd : o.guard = none) (d s : Operand) (dT sT : TypeId)
    (ho : o.op = .call { callee := .builtin .copy, args := #[d, s], argTypes := #[dT, sT] }) (elem : TypeId) (hu : P.underlying dT = some (.slice elem)) (hsz : (P.info? elem).map (·.size) = some 1)
    (dp sp : Option Addr) (m dCap sCap : Nat) (hd : a.eval d = .slice dp m dCap) (hs : a.eval s = .slice sp m sCap)
    (g off : Nat) (T : List B64) (t : TypeId) (hg : Row w g t (bvals T)) (R : List B64) (hn : R.length = m)
    (hpos : 0 < m → dp = some ⟨g, off, none⟩ ∧ ∃ b of2, sp = some ⟨b, of2, none⟩ ∧ CellsB w b of2 m (bd R)) (hfit : off + m ≤ T.length)
    (h : ∀ w', Row w' g t (bvals (spl T off R)) → w.grownBy w' (some g) → wpList P ops Q rest (a.put o.dst (goInt m)) w') :
    wpList P ops Q (o :: rest) a w := by
  by_cases h0 : m = 0
  · subst h0
    obtain rfl : R = [] := List.eq_nil_of_length_eq_zero hn
    refine wpList_copy_nothing hgd d s dT sT ho elem hu hsz dp sp 0 dCap 0 sCap hd hs rfl ?_
    refine h w ?_ (grownBy_refl _ _)
    have : spl T off [] = T := by unfold spl; simp
    rw [this]; exact hg
  · obtain ⟨rfl, b, of2, rfl, hc⟩ := hpos (by omega)
    have hlen : (bvals R).length = m := by rw [bvals_len, hn]
    have h1 := wpList_copy_own (P := P) (w := w) (ops := ops) (rest := rest) (o := o) (a := a) (Q := Q) hgd d s dT sT ho elem hu hsz g off m dCap ⟨b, of2, none⟩ m sCap hd hs (bvals T).toArray t hg (bvals R) (by rw [hlen]; simp)
      (fun j v hj => by
        have hjl : j < R.length := by have := (List.getElem?_eq_some_iff.1 hj).1; rw [bvals_len] at this; exact this
        rw [bvals_at hjl] at hj
        cases hj
        rw [Addr.add_lit]
        exact hc j (by omega))
      (by rw [hlen]; simp [bvals_len]; exact hfit) (fun v hv => by rw [bvals_map] at hv; obtain ⟨x, _, rfl⟩ := List.mem_map.1 hv; rfl)
    rw [hlen] at h1
    refine h1 (h _ ?_ (grownBy_setRow _ _ _))
    have h2 := setRow_heap w g (bvals T).toArray ((bvals T).take off ++ (bvals R ++ (bvals T).drop (off + m))).toArray t (0, 0) hg
    rw [← hn, bvals_spl] at h2
    rw [show Row _ g t (bvals (spl T off R)) = (_ = _) from rfl, ← h2, ← hn, List.toList_toArray, bvals_spl]
end Go.Proofs.YtilffmalkegioaaDoor
