/- The contract of the program's Split. -/
import Derived.Test.YtnlkjklcikolaaaDoorSplitFin
import Derived.Test.YtnlkjklcikolaaaDoorOthers
import Derived.Test.YtnlkjklcikolaaaDoorCheck
namespace Go.Proofs.YtnlkjklcikolaaaDoor
open Go.RowKit Go.Shelf

theorem rows_two' (w : World) (t s : TypeId) (p0 p1 q0 q1 : Value) {W : World} (h : (w.alloc (.cells #[p0, p1] t)).alloc (.cells #[q0, q1] s) = W) :
    Row W w.heap.size t [p0, p1] ∧ Row W (w.heap.size + 1) s [q0, q1] ∧ Below w.heap.size w W ∧ W.heap.size = w.heap.size + 1 + 1 := by
  subst h
  have r0 : Row (w.alloc (.cells #[p0, p1] t)) w.heap.size t [p0, p1] := Row.new w t [p0, p1]
  have r1 : Row ((w.alloc (.cells #[p0, p1] t)).alloc (.cells #[q0, q1] s)) (w.alloc (.cells #[p0, p1] t)).heap.size s [q0, q1] := Row.new _ s [q0, q1]
  simp only [World.size_alloc] at r1
  exact ⟨r0.alloc _, r1, ((Below.refl _ _).alloc (Nat.le_refl _) _).alloc (by simp) _, by simp⟩

theorem Inn.setAt {W : World} {base : Nat} {xs : List Value} {cs : List (List Nat)} (h : Inn W base xs cs) {b : Nat} (hb : b < base) (i : Nat) (u : Value) : Inn (W.setCell ⟨b, i, none⟩ u) base xs cs :=
  ⟨h.1, fun j hj => by obtain ⟨v, h1, h2⟩ := h.2 j hj; exact ⟨v, h1, ownsRow_setAt h2 hb _ _⟩⟩
theorem Inn.base {W : World} {base base' : Nat} {xs : List Value} {cs : List (List Nat)} (h : Inn W base xs cs) (hb : base' ≤ base) : Inn W base' xs cs :=
  ⟨h.1, fun j hj => by obtain ⟨v, h1, h2⟩ := h.2 j hj; exact ⟨v, h1, ownsRow_base h2 hb⟩⟩

/-- what Split answers, where the order may be -/
def SplitAns (us : List Nat) (w : World) (e : Ending) (w' : World) : Prop :=
  ∃ vA vC A xs cs, e = .returned (.tuple #[.agg #[vA, vC], .int .i64 0]) ∧ Below w.heap.size w w' ∧ w'.ownsRow w.heap.size 3 1 vA (List.length A) (ivals A) ∧ w'.ownsRow w.heap.size 27 1 vC (List.length cs) xs ∧ Inn w' w.heap.size xs cs ∧ SplitP us A cs

set_option maxRecDepth 100000 in
set_option maxHeartbeats 2000000 in
theorem Split_ok (a : Option Addr) (cap : Nat) (us : List Nat) (n₀ : Nat) (hf : Fit us) (w : World) (hT : TabAt w) (hw : IsWords n₀ w a us) (hg : 0 < n₀) (hn₀ : n₀ ≤ w.heap.size) (hc : codeOf us.length us = 0) :
    Calls Tryd.prog 6 #[.agg #[.int .i64 us.length, .slice a us.length cap]] w (SplitAns us w) := by
  obtain ⟨_, h16, _, hin, hord⟩ := code_zero hc
  have hl16 : us.length ≤ 16 := by omega
  obtain ⟨r0, r1, hb0, hs0⟩ := rows_two' w 24 30 (.int .i64 us.length) (.slice a us.length cap) (.slice none 0 0) (.slice none 0 0) rfl
  have hck := Check_any us.length a cap us n₀ hf _ (hT.below hb0 (by omega)) (hw.below (hb0.mono hn₀)) hg (by omega)
  rw [hc] at hck
  have Hb := hide hb0
  have hol := othL_len us
  have hof := othL_fit hf
  have hoi := oth_inside hf hin
  have HP := hide (fun nx pv lo hi cs h1 h2 h3 => split_p (nx := nx) (pv := pv) (lo := lo) (hi := hi) (cs := cs) hf hin hord h1 h2 h3)
  have HR := hide (rise_oth hf hin hord)
  have d2 := fun W (h1 : IsWords n₀ W a us) (h2 : n₀ ≤ W.heap.size) => others_any a cap us n₀ hf hl16 W h1 h2
  clear hb0 hc hin hord
  generalize othL us = es at *
  go_enter Tryd.func6, Tryd.ntmps6
  go_wp2_with fail
  refine hck.mono ?_
  rintro e w1 ⟨rfl, hb1⟩
  have hs1 := hb1.size
  have q0 := row_below r0 hb1 r0.lt
  have q1 := row_below r1 hb1 r1.lt
  have hB1 : Below w.heap.size w w1 := Hb.out.trans (hb1.mono (by omega))
  have j1 := q0.cell (i := 1) rfl
  have x2 := d2 w1 (hw.below (hB1.mono hn₀)) (by omega)
  clear hck d2
  dsimp only
  go_wp2_with fail
  refine x2.mono ?_
  rintro e w2 ⟨rfl, hb2, rE⟩
  have hs2 := hb2.size
  have hB2 : Below w.heap.size w w2 := hB1.trans (hb2.mono (by omega))
  have ltE := rE.lt
  have x3 := linked_any (some ⟨w1.heap.size, 0, none⟩) us.length es w2.heap.size hof hoi (by omega) (by omega) w2 (Nat.le_refl _) (hT.below hB2 (by omega)) (rE.words (by omega))
  rw [hol] at x3
  clear x2 j1
  dsimp only
  go_wp2_with fail
  refine x3.mono ?_
  rintro e w3 ⟨gN, gP, nz, pz, rfl, hb3, hgN, hgP, hgne, lN, lP, rN, rP, hTr⟩
  have hs3 := hb3.size
  have hB3 : Below w.heap.size w w3 := hB2.trans (hb3.mono (by omega))
  have q2 := row_below (row_below q1 hb2 q1.lt) hb3 (row_below q1 hb2 q1.lt).lt
  have rE3 := row_below rE hb3 ltE
  clear x3
  obtain ⟨V, hV⟩ : ∃ V, w3.alloc (.cells #[.slice (some ⟨gN, 0, none⟩) us.length us.length, .slice (some ⟨gP, 0, none⟩) us.length us.length] 43) = V := ⟨_, rfl⟩
  have rl : Row V w3.heap.size 43 [.slice (some ⟨gN, 0, none⟩) us.length us.length, .slice (some ⟨gP, 0, none⟩) us.length us.length] := by rw [← hV]; exact Row.new w3 _ _
  have hb4 : Below w3.heap.size w3 V := by rw [← hV]; exact (Below.refl _ _).alloc (Nat.le_refl _) _
  have hs4 := hb4.size
  have ltN := rN.lt
  have ltP := rP.lt
  have rNV := row_below rN hb4 ltN
  have rPV := row_below rP hb4 ltP
  have rEV := row_below rE3 hb4 rE3.lt
  have q3 := row_below q2 hb4 q2.lt
  have lt3 := q3.lt
  have ltl := rl.lt
  have hB4 : Below w.heap.size w V := hB3.trans (hb4.mono (by omega))
  have hTV : TabAt V := hT.below hB4 (by omega)
  have lN' : LinkZ es.length nz := by rw [hol]; exact lN
  have lP' : LinkZ es.length pz := by rw [hol]; exact lP
  have x5 := anti_any gN gP (some ⟨w1.heap.size, 0, none⟩) us.length es nz pz V.heap.size hof hoi (by omega) (by omega) V.drew (Nat.le_refl _) (show TabAt V.drew from hTV) (show IsWords V.heap.size V.drew _ es from rEV.words rEV.lt) lN' lP' rNV rPV
  have x6 := fun U (h : Below V.heap.size V U) => chains_any gN gP us.length nz pz (upE es) (rkO us) hTr.1 HR.out hl16 lN lP U (row_below rNV h rNV.lt) (row_below rPV h rPV.lt)
  rw [hol] at x5
  have HTr := hide hTr
  clear hTr HR
  have c0 := rl.cell (i := 0) rfl
  have c1 := rl.cell (i := 1) rfl
  have hmx : Tryd.prog.follows .mixedOrders = true := by kernel_rfl
  have hfl := fun (U : World) (h : Below V.heap.size V U) => row_below rl h ltl
  have hfq := fun (U : World) (h : Below V.heap.size V U) => row_below q3 h lt3
  dsimp only
  go_wp2_with fail
  first | go_region_with (first
      | (go_at_call 16; refine x5.mono ?_; rintro e w5 ⟨vA, lo, hi, rfl, hLo, hb5, hownA⟩; have HLo := hide hLo; clear hLo x5; obtain ⟨aA, cA, rfl⟩ := own_slice hownA; have hs5 : V.heap.size ≤ w5.heap.size := hb5.size; have hVb5 : Below V.heap.size V w5 := ((Below.refl V.heap.size V).drew).trans hb5; have rl5 := hfl w5 hVb5; have m0 := rl5.cell (i := 0) rfl; have m1 := rl5.cell (i := 1) rfl; have x7 := x6 w5 hVb5; clear x6)
      | (go_at_call 17; refine x7.mono ?_; rintro e w6 ⟨vC, xs, cs, rfl, hb6, hownC, hInn, hChs⟩; have HInn := hide hInn; have HChs := hide hChs; clear hInn hChs x7; obtain ⟨aC, cC, rfl⟩ := own_slice' hownC; have hs6 : w5.heap.size ≤ w6.heap.size := hb6.size; have hVb6 : Below V.heap.size V w6 := hVb5.trans (hb6.mono hs5); have q6 := hfq w6 hVb6; have n0 := q6.cell (i := 0) rfl; have n1 := q6.cell (i := 1) rfl; have fr0 := q6.frozen 0; have fr1 := q6.frozen 1)) | fail
  all_goals
    go_wp2_with fail
    have q7 := (q6.set 0 (.slice aA (elems (andN lo hi)).length cA)).set 1 (.slice aC cs.length cC)
    have e0 := q7.cell (i := 0) (v := .slice aA (elems (andN lo hi)).length cA) rfl
    have e1 := q7.cell (i := 1) (v := .slice aC cs.length cC) rfl
    have hB6 : Below w.heap.size w w6 := hB4.trans (hVb6.mono (by omega))
    have oA := ownsRow_below hownA hb6
    refine bodyPost_ret (v := .tuple #[.agg #[.slice aA (elems (andN lo hi)).length cA, .slice aC cs.length cC], .int .i64 0]) (by simp [results, Tryd.results6, go_sem, e0, e1]) rfl ⟨_, _, elems (andN lo hi), xs, cs, rfl, ?_, ?_, ?_, ?_, HP.out _ _ _ _ _ HTr.out HLo.out HChs.out⟩
    · exact (hB6.setCell (p := ⟨w.heap.size + 1, 0, none⟩) (by simp) _).setCell (p := ⟨w.heap.size + 1, 1, none⟩) (by simp) _
    · exact ownsRow_base (ownsRow_setAt (ownsRow_setAt oA (show w.heap.size + 1 < V.heap.size by omega) _ _) (show w.heap.size + 1 < V.heap.size by omega) _ _) (show w.heap.size ≤ V.heap.size by omega)
    · exact ownsRow_base (ownsRow_setAt (ownsRow_setAt hownC (by omega) _ _) (by omega) _ _) (by omega)
    · exact ((HInn.out.setAt (by omega) _ _).setAt (by omega) _ _).base (by omega)
end Go.Proofs.YtnlkjklcikolaaaDoor
