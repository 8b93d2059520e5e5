/- Slices of ints in memory; the contracts of the document's Has and TimesSame. -/
import Derived.Test.YthhjhfjildmbhaaDoorRefDual
namespace Go.Proofs.YthhjhfjildmbhaaDoor
open Go.RowKit Go.Shelf

/-- numbers as values -/
def ivals (l : List Nat) : List Value := l.map fun x => Value.int .i64 ((x : Nat) : Int)
theorem ivals_snoc (l : List Nat) (x : Nat) : ivals (l ++ [x]) = ivals l ++ [.int .i64 ((x : Nat) : Int)] := by unfold ivals; simp
theorem ivals_at {l : List Nat} {i : Nat} (h : i < l.length) : (ivals l)[i]? = some (.int .i64 ((wd l i : Nat) : Int)) := by
  unfold ivals wd; simp [List.getElem?_map, List.getElem?_eq_getElem h, List.getD_eq_getElem?_getD]
/-- a slice over numbers -/
def IsInts (n₀ : Nat) (W : World) (a : Option Addr) (l : List Nat) : Prop :=
  l = [] ∨ ∃ b off, a = some ⟨b, off, none⟩ ∧ b < n₀ ∧ ∀ i, i < l.length → W.cell? ⟨b, off + i, none⟩ = some (.int .i64 ((wd l i : Nat) : Int))
theorem IsInts.below {n₀ : Nat} {A B : World} {a : Option Addr} {l : List Nat} (h : IsInts n₀ A a l) (hb : Below n₀ A B) : IsInts n₀ B a l := by
  rcases h with h | ⟨b, off, h1, h2, h3⟩
  · exact .inl h
  · exact .inr ⟨b, off, h1, h2, fun i hi => (hb.cell (p := ⟨b, off + i, none⟩) h2).trans (h3 i hi)⟩
theorem IsInts.at {n₀ : Nat} {A : World} {a : Option Addr} {l : List Nat} (h : IsInts n₀ A a l) {i : Nat} (hi : i < l.length) :
    ∃ b off, a = some ⟨b, off, none⟩ ∧ b < n₀ ∧ ∀ i, i < l.length → A.cell? ⟨b, off + i, none⟩ = some (.int .i64 ((wd l i : Nat) : Int)) := by
  rcases h with h | h
  · subst h; simp at hi
  · exact h
theorem ownsRow_ints {W : World} {base : Nat} {av : Option Addr} {cv k : Nat} {l : List Nat} (h : W.ownsRow base 3 1 (.slice av k cv) k (ivals l)) : IsInts W.heap.size W av l := by
  have hlen : l.length = k := by have := h.1; simpa [ivals] using this
  rcases h.2 with ⟨h1, h2⟩ | ⟨g, cap, cur, h1, h2, h3, h4, h5, h6, h7⟩
  · exact .inl (List.length_eq_zero_iff.1 (by omega))
  · cases h1
    refine .inr ⟨g, 0, rfl, (Array.getElem?_eq_some_iff.1 h3).1, fun i hi => ?_⟩
    have hx : (cur.toList.take (k * 1))[i]? = (ivals l)[i]? := by rw [h7]
    rw [ivals_at hi, List.getElem?_take, if_pos (by omega)] at hx
    simp [World.cell?, h3, ← Array.getElem?_toList, hx]
theorem info_int : (Tryd.prog.info? 3).map (fun i => (i.zero, i.size, i.bytes)) = some (some (.int .i64 0), 1, 8) := by kernel_rfl

/-- is x in the list? -/
def memB (l : List Nat) (x : Nat) : Bool := decide (x ∈ l)
theorem memB_true {l : List Nat} {x : Nat} : memB l x = true ↔ x ∈ l := by unfold memB; exact decide_eq_true_iff
theorem memB_false {l : List Nat} {x : Nat} : memB l x = false ↔ x ∉ l := by unfold memB; exact decide_eq_false_iff_not
theorem wd_mem {l : List Nat} {i : Nat} (h : i < l.length) : wd l i ∈ l := by
  unfold wd; rw [List.getD_eq_getElem?_getD, List.getElem?_eq_getElem h]; exact List.getElem_mem h
theorem mem_wd {l : List Nat} {x : Nat} (h : x ∈ l) : ∃ i, i < l.length ∧ wd l i = x := by
  obtain ⟨i, hi, e⟩ := List.getElem_of_mem h
  exact ⟨i, hi, by unfold wd; rw [List.getD_eq_getElem?_getD, List.getElem?_eq_getElem hi]; exact e⟩

set_option maxHeartbeats 400000 in
theorem Has_any (a : Option Addr) (cap : Nat) (l : List Nat) (x n₀ : Nat) (h40 : l.length ≤ 1099511627776) (w : World) (hw : IsInts n₀ w a l) :
    Calls Tryd.prog 40 #[.slice a l.length cap, .int .i64 x] w fun e w' => e = .returned (.bool (memB l x)) ∧ w' = w := by
  go_enter Tryd.func40, Tryd.ntmps40
  go_wp2
  go_loop [9] (fun i => ∃ k : Nat, k ≤ l.length ∧ i = .int .i64 k ∧ ∀ j, j < k → wd l j ≠ x) (fun i => l.length - (intOf i).toNat)
  case atStart => exact ⟨0, Nat.zero_le _, rfl, fun j h1 => by omega⟩
  case round =>
    obtain ⟨k, hk, rfl, hall⟩ := hrel
    by_cases hlt : k < l.length
    · obtain ⟨b, off, rfl, hb, hc⟩ := hw.at hlt
      have hck := hc k hlt
      clear hc
      by_cases he : wd l k = x
      · have hd : ((x : Int) == ((wd l k : Nat) : Int)) = true := by rw [beq_iff_eq]; omega
        have Hm := hide (memB_true.2 (he ▸ wd_mem hlt))
        clear he
        go_wp2
        go_ret
        exact ⟨ret_bool Hm.out.symm, rfl⟩
      · have hd : ((x : Int) == ((wd l k : Nat) : Int)) = false := by rw [beq_eq_false_iff_ne]; omega
        have He := hide he
        clear he
        go_wp2
        go_round
        case rel => exact ⟨k + 1, by omega, by go_num, fun j h1 => by
          by_cases e : j = k
          · rw [e]; exact He.out
          · exact hall j (by omega)⟩
        case measure => simp [intOf]; omega
    · go_wp2
      go_ret
      refine ⟨ret_bool (memB_false.2 fun hm => ?_).symm, rfl⟩
      obtain ⟨i, hi, e⟩ := mem_wd hm
      exact hall i (by omega) e

def sameIB (l m : List Nat) : Bool := decide (l = m)
set_option maxHeartbeats 400000 in
theorem TimesSame_any (a b : Option Addr) (ca cb : Nat) (l m : List Nat) (n₀ : Nat) (hl : m.length = l.length) (h40 : l.length ≤ 1099511627776) (w : World) (hu : IsInts n₀ w a l) (hv : IsInts n₀ w b m) :
    Calls Tryd.prog 20 #[.slice a l.length ca, .slice b m.length cb] w fun e w' => e = .returned (.bool (sameIB l m)) ∧ Below w.heap.size w w' := by
  have HL := hide hl
  rw [hl]
  clear hl
  go_enter Tryd.func20, Tryd.ntmps20
  go_wp2
  go_loopw [5] (fun i wr => ∃ (k q : Nat), k ≤ l.length ∧ i = .int .i64 k ∧ (∀ j, j < k → wd l j = wd m j) ∧ wr = w.drewN q) (fun i _ => l.length - (intOf i).toNat)
  case atStart => exact ⟨0, 0, Nat.zero_le _, rfl, fun j h1 => by omega, rfl⟩
  case round =>
    obtain ⟨k, q, hk, rfl, hall, rfl⟩ := hrel
    by_cases hlt : k < l.length
    · obtain ⟨b1, o1, rfl, hb1, hc1⟩ := hu.at hlt
      obtain ⟨b2, o2, rfl, hb2, hc2⟩ := hv.at (show k < m.length by rw [HL.out]; exact hlt)
      have c1 := hc1 k hlt
      have c2 := hc2 k (show k < m.length by rw [HL.out]; exact hlt)
      clear hc1 hc2
      by_cases he : wd l k = wd m k
      · have hd : (((wd l k : Nat) : Int) != ((wd m k : Nat) : Int)) = false := by rw [bne_eq_false_iff_eq]; omega
        have He := hide he; clear he
        go_wp2
        go_quiet (fail)
        go_wp2
        refine ⟨⟨k + 1, q + nq, by omega, by go_num, fun j h1 => ?_, by simp [World.drewN]⟩, by simp [intOf]; omega⟩
        by_cases e : j = k
        · rw [e]; exact He.out
        · exact hall j (by omega)
      · have hd : (((wd l k : Nat) : Int) != ((wd m k : Nat) : Int)) = true := by rw [bne_iff_ne]; omega
        have He := hide he; clear he
        go_wp2
        go_quiet (fail)
        go_wp2
        go_ret
        refine ⟨ret_bool ?_, below_drewN (below_drewN (Below.refl _ _) _) _⟩
        unfold sameIB
        symm
        rw [decide_eq_false_iff_not]
        exact fun e => He.out (by rw [e])
    · go_wp2
      go_ret
      refine ⟨ret_bool ?_, below_drewN (Below.refl _ _) _⟩
      unfold sameIB
      symm
      rw [decide_eq_true_iff]
      apply List.ext_getElem HL.out.symm
      intro i h1 h2
      have := hall i (by omega)
      unfold wd at this
      simpa [List.getD_eq_getElem?_getD, List.getElem?_eq_getElem h1, List.getElem?_eq_getElem h2] using this
end Go.Proofs.YthhjhfjildmbhaaDoor
