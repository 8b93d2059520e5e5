/- The contract of the document's Pairs: are two lists of pairs the same? -/
import Derived.Test.YthhjhfjildmbhaaDoorRefCovers
import Derived.Laws.StructEq
namespace Go.Proofs.YthhjhfjildmbhaaDoor
open Go.RowKit Go.Shelf

/-- a slice over pairs -/
def IsPairs (n₀ : Nat) (W : World) (a : Option Addr) (l : List (Nat × Nat)) : Prop :=
  l = [] ∨ ∃ b, a = some ⟨b, 0, none⟩ ∧ b < n₀ ∧ ∀ i (h : i < l.length), W.cell? ⟨b, i * 2, none⟩ = some (.int .i64 ((l[i].1 : Nat) : Int)) ∧ W.cell? ⟨b, i * 2 + 1, none⟩ = some (.int .i64 ((l[i].2 : Nat) : Int))
theorem pvals_len (l : List (Nat × Nat)) : (pvals l).length = 2 * l.length := by
  induction l with
  | nil => rfl
  | cons p l ih => unfold pvals at *; rw [List.flatMap_cons, List.length_append, ih]; simp; omega
theorem pvals_at : ∀ (l : List (Nat × Nat)) (i : Nat) (h : i < l.length), (pvals l)[2 * i]? = some (.int .i64 ((l[i].1 : Nat) : Int)) ∧ (pvals l)[2 * i + 1]? = some (.int .i64 ((l[i].2 : Nat) : Int))
  | [], i, h => by simp at h
  | p :: l, 0, _ => by unfold pvals; simp
  | p :: l, i + 1, h => by
    have ih := pvals_at l i (by simpa using h)
    have e : pvals (p :: l) = [.int .i64 ((p.1 : Nat) : Int), .int .i64 ((p.2 : Nat) : Int)] ++ pvals l := by unfold pvals; simp
    have h1 : 2 * (i + 1) = 2 * i + 2 := by omega
    have h2 : 2 * (i + 1) + 1 = (2 * i + 1) + 2 := by omega
    rw [e, h1]
    constructor
    · rw [List.getElem?_append_right (by simp)]; simpa using ih.1
    · rw [List.getElem?_append_right (by simp)]; simpa using ih.2
theorem ownsRow_pairs {W : World} {base : Nat} {av : Option Addr} {k cv : Nat} {l : List (Nat × Nat)} (h : W.ownsRow base 45 2 (.slice av k cv) k (pvals l)) : IsPairs W.heap.size W av l := by
  have hlen : l.length = k := by have := h.1; rw [pvals_len] at this; omega
  rcases h.2 with ⟨h1, h2⟩ | ⟨g, cap, cur, h1, h2, h3, h4, h5, h6, h7⟩
  · exact .inl (List.length_eq_zero_iff.1 (by omega))
  · cases h1
    refine .inr ⟨g, rfl, (Array.getElem?_eq_some_iff.1 h3).1, fun i hi => ?_⟩
    have hp := pvals_at l i hi
    rw [← h7, List.getElem?_take, List.getElem?_take, if_pos (by omega), if_pos (by omega)] at hp
    rw [Nat.mul_comm 2 i] at hp
    simp only [World.cell?, h3]
    simp [← Array.getElem?_toList, hp]

theorem pair_fields : (Tryd.prog.fieldsOf 45).toList = [⟨"A", 3, 0, false, "", "", 0⟩, ⟨"B", 3, 1, false, "", "", 8⟩] := by kernel_rfl
theorem pair_guard (op : BinOp) (x y : Operand) (xs ys : Array Value) (w : World) : (eqGuard op 45 x y (.agg xs) (.agg ys)).run Tryd.prog w = .ok () w := run_eqGuard_agg w op _ x y xs ys (by kernel_rfl)
theorem pair_neq (a b c d : Int) (w : World) : (binOp .neq 45 (.agg #[.int .i64 a, .int .i64 b]) (.agg #[.int .i64 c, .int .i64 d])).run Tryd.prog w = .ok (.bool (!(a == c && b == d))) w := by
  rw [run_neq_struct, run_equalIn_struct w 9999 _ _ _ (by kernel_rfl) (by kernel_rfl), pair_fields]
  simp [Op.eqFields, go_sem, Tryd.underlying3]
  by_cases h1 : a = c <;> by_cases h2 : b = d <;> simp [h1, h2]
def samePB (l m : List (Nat × Nat)) : Bool := decide (l = m)
set_option maxHeartbeats 400000 in
theorem Pairs_loop (a b : Option Addr) (ca cb : Nat) (l m : List (Nat × Nat)) (n₀ : Nat) (hl : m.length = l.length) (h40 : l.length ≤ 1024) (w : World) (hu : IsPairs n₀ w a l) (hv : IsPairs n₀ w b m) :
    Calls Tryd.prog 17 #[.slice a l.length ca, .slice b m.length cb] w fun e w' => e = .returned (.bool (samePB l m)) ∧ ∃ k, w' = w.drewN k := by
  have HL := hide hl
  rw [hl]
  clear hl
  go_enter Tryd.func17, Tryd.ntmps17
  go_wp2
  go_loopw [5] (fun i wr => ∃ (k q : Nat), k ≤ l.length ∧ i = .int .i64 k ∧ (∀ j (h : j < k) (h1 : j < l.length) (h2 : j < m.length), l[j] = m[j]) ∧ wr = w.drewN q) (fun i _ => l.length - (intOf i).toNat)
  case atStart => exact ⟨0, 0, Nat.zero_le _, rfl, fun j h1 => by omega, rfl⟩
  case round =>
    obtain ⟨k, q, hk, rfl, hall, rfl⟩ := hrel
    by_cases hlt : k < l.length
    · have hlm : k < m.length := by rw [HL.out]; exact hlt
      rcases hu with hu | ⟨b1, rfl, hb1, hc1⟩
      · subst hu; simp at hlt
      rcases hv with hv | ⟨b2, rfl, hb2, hc2⟩
      · subst hv; simp at hlm
      obtain ⟨c1, c2⟩ := hc1 k hlt
      obtain ⟨d1, d2⟩ := hc2 k hlm
      clear hc1 hc2
      generalize hp : l[k] = p at *
      generalize hq : m[k] = r at *
      obtain ⟨p1, p2⟩ := p
      obtain ⟨r1, r2⟩ := r
      have Hp := hide hp
      have Hq := hide hq
      clear hp hq
      have hgd := fun W : World => pair_guard .neq (.tmp 20) (.tmp 24) #[.int .i64 (p1 : Nat), .int .i64 (p2 : Nat)] #[.int .i64 (r1 : Nat), .int .i64 (r2 : Nat)] W
      have hneq := fun W : World => pair_neq (p1 : Nat) (p2 : Nat) (r1 : Nat) (r2 : Nat) W
      by_cases he : p1 = r1 ∧ p2 = r2
      · have hd : (!(((p1 : Nat) : Int) == ((r1 : Nat) : Int) && ((p2 : Nat) : Int) == ((r2 : Nat) : Int))) = false := by simp [he.1, he.2]
        rw [hd] at hneq
        have He := hide he; clear he hd
        go_wp2
        go_quiet (fail)
        go_wp2
        refine ⟨⟨k + 1, q + nq, by omega, by go_num, fun j h1 h2 h3 => ?_, by simp [World.drewN]⟩, by simp [intOf]; omega⟩
        by_cases e : j = k
        · subst e; rw [Hp.out, Hq.out, He.out.1, He.out.2]
        · exact hall j (by omega) h2 h3
      · have hd : (!(((p1 : Nat) : Int) == ((r1 : Nat) : Int) && ((p2 : Nat) : Int) == ((r2 : Nat) : Int))) = true := by
          rw [Bool.not_eq_true', Bool.and_eq_false_iff]
          by_cases e1 : p1 = r1
          · right; rw [beq_eq_false_iff_ne]; intro e2; exact he ⟨e1, by omega⟩
          · left; rw [beq_eq_false_iff_ne]; omega
        rw [hd] at hneq
        have He := hide he; clear he hd
        go_wp2
        go_quiet (fail)
        go_wp2
        go_ret
        refine ⟨ret_bool ?_, q + nq, by simp [World.drewN, Nat.add_assoc]⟩
        unfold samePB
        symm
        rw [decide_eq_false_iff_not]
        intro e
        have h1 := Hp.out
        have h2 := Hq.out
        simp only [e] at h1
        rw [h1] at h2
        simp at h2
        exact He.out h2
    · go_wp2
      go_ret
      refine ⟨ret_bool ?_, q, rfl⟩
      unfold samePB
      symm
      rw [decide_eq_true_iff]
      exact List.ext_getElem HL.out.symm fun i h1 h2 => hall i (by omega) h1 h2
theorem Pairs_any (a b : Option Addr) (ca cb : Nat) (l m : List (Nat × Nat)) (n₀ : Nat) (hl : m.length = l.length) (h40 : l.length ≤ 1024) (w : World) (hu : IsPairs n₀ w a l) (hv : IsPairs n₀ w b m) :
    Calls Tryd.prog 17 #[.slice a l.length ca, .slice b m.length cb] w fun e w' => e = .returned (.bool (samePB l m)) ∧ Below w.heap.size w w' := by
  refine (Pairs_loop a b ca cb l m n₀ hl h40 w hu hv).mono ?_
  rintro e w' ⟨rfl, k, rfl⟩
  exact ⟨rfl, below_drewN (Below.refl _ _) k⟩
end Go.Proofs.YthhjhfjildmbhaaDoor
