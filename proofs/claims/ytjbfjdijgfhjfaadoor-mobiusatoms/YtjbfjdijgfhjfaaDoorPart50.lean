/- Package mobius: strict. Package mobius: Zeta, Times, Sums. Package mobius: inverse. The contract of the program's sorted: the line of all elements, each behind what must come ahead of it. The contract of the program's others: each word without its own element. The contract of the program's Sorted: what is wrong, or all elements, each behind what is strictly below it. Package mobius: Mu, Inverse, Sums, Undo. The document's Longs, MobiusZeta, MobiusTimes, MobiusSums; the law package's ones and added. The document's MobiusZeta and MobiusSums. The law package's added. Plain: between two elements of an order, one below the other, there are covers. The sets of atoms, told by how many of each size have which join, and what covers the least element. Lists of pairs in memory, two cells each. The contract of the program's Covers: what is wrong, or the pairs of which one covers the other. The walk of the law MobiusAtoms: it answers true, and writes nothing that was there. -/
import Derived.Test.YtjbfjdijgfhjfaaDoorMobZeta
import Derived.Test.YtjbfjdijgfhjfaaDoorMobIsTab
import Derived.Test.YtjbfjdijgfhjfaaDoorCheck
import Derived.Lib.QuietBelow
import Derived.Test.YtjbfjdijgfhjfaaDoorIntVals
import Derived.Test.YtjbfjdijgfhjfaaDoorSortPlain
import Derived.Test.YtjbfjdijgfhjfaaDoorQuietRound
import Derived.WalkMore
import Derived.Test.YtjbfjdijgfhjfaaDoorOthPlain
import Derived.Test.YtjbfjdijgfhjfaaDoorTurned
import Derived.Test.YtjbfjdijgfhjfaaDoorOwns
import Derived.Test.YtjbfjdijgfhjfaaDoorRefLow
import Derived.Deep.RegionHeld3
import Derived.Test.YtjbfjdijgfhjfaaDoorCoversPlain
import Derived.Test.YtjbfjdijgfhjfaaDoorLatTab
import Derived.Test.YtjbfjdijgfhjfaaDoorMobMore
import Derived.Test.YtjbfjdijgfhjfaaDoorKeepReO
namespace Go.Proofs.YtjbfjdijgfhjfaaDoor
open Go.RowKit Go.Shelf

theorem zetaN (n : Nat) (a : Option Addr) (cap : Nat) (us : List Nat) (n₀ : Nat) (hn : n = us.length) (hf : Fit us) (hl : n ≤ 16) (w : World) (hw : IsWords n₀ w a us) (hn₀ : n₀ ≤ w.heap.size) :
    Calls Tryd.prog 20 #[.agg #[.int .i64 n, .slice a n cap]] w fun e w' => ∃ p, e = .returned (sqV n p) ∧ w.heap.size ≤ p ∧ Below w.heap.size w w' ∧ Row w' p 2 (bvals (tabL n (zet us))) := by
  subst hn; exact zeta_any a cap us n₀ hf hl w hw hn₀

end Go.Proofs.YtjbfjdijgfhjfaaDoor

namespace Go.Proofs.YtjbfjdijgfhjfaaDoor
open Go.RowKit Go.Shelf

theorem run_field_at (n : Int) (a : Option Addr) (len cap : Nat) (w : World) : Sem.run Tryd.prog (Instr.field 58 (.agg #[.int .i64 n, .slice a len cap]) 1) w = .ok (.slice a len cap) w := by
  first | kernel_rfl | rfl
/-- the answer where there is none -/
def mobErr (c : Int) : Ending := .returned (.tuple #[.slice none 0 0, .int .i64 c])

end Go.Proofs.YtjbfjdijgfhjfaaDoor

namespace Go.Proofs.YtjbfjdijgfhjfaaDoor
open Go.RowKit Go.Shelf

/-- what the rounds of inverse hold, but for the square that they write -/
structure InvSt (w : World) (n p g B : Nat) (S : List B64) (V : World) : Prop where
  s : Row V p 2 (bvals S)
  bel : Below w.heap.size w V
  rB : Row V B 58 [.int .i64 n, .slice (some ⟨g, 0, none⟩) (n * n) (n * n)]
  r3 : Row V w.heap.size 58 [.int .i64 n, .slice (some ⟨p, 0, none⟩) (n * n) (n * n)]
  r4 : Row V (w.heap.size + 1) 58 [.int .i64 0, .slice none 0 0]
theorem InvSt.drew {w : World} {n p g B : Nat} {S : List B64} {V : World} (h : InvSt w n p g B S V) : InvSt w n p g B S V.drew := ⟨h.s, h.bel.drew, h.rB, h.r3, h.r4⟩
theorem InvSt.keep {w : World} {n p g B : Nat} {S : List B64} {A V : World} (hb : Below A.heap.size A V) (h : InvSt w n p g B S A) : InvSt w n p g B S V :=
  ⟨h.s.keep hb, h.bel.trans (hb.mono h.bel.size), h.rB.keep hb, h.r3.keep hb, h.r4.keep hb⟩
theorem InvSt.grown {w : World} {n p g B : Nat} {S : List B64} {A V : World} (hp : p < w.heap.size) (hg1 : w.heap.size + 1 < g) (hB : B ≠ g) (hg : A.grownBy V (some g)) (h : InvSt w n p g B S A) : InvSt w n p g B S V :=
  ⟨h.s.kept hg (by simp; omega), h.bel.trans (grown_below hg (by omega) h.bel.size), h.rB.kept hg (by simp; omega), h.r3.kept hg (by simp; omega), h.r4.kept hg (by simp; omega)⟩
theorem InvSt.all {w : World} {n p g B i : Nat} {S : List B64} {V : World} {x : Int} (hi : i < S.length) (hx : (bd S i).toInt = x) (h : InvSt w n p g B S V) :
    V.cell? ⟨B, 0, none⟩ = some (.int .i64 n) ∧ V.cell? ⟨B, 1, none⟩ = some (.slice (some ⟨g, 0, none⟩) (n * n) (n * n)) ∧ V.cell? ⟨w.heap.size, 0, none⟩ = some (.int .i64 n) ∧ V.cell? ⟨w.heap.size, 1, none⟩ = some (.slice (some ⟨p, 0, none⟩) (n * n) (n * n)) ∧ V.cell? ⟨p, i, none⟩ = some (.int .i64 x) ∧ InvSt w n p g B S V :=
  ⟨h.rB.cell (i := 0) rfl, h.rB.cell (i := 1) rfl, h.r3.cell (i := 0) rfl, h.r3.cell (i := 1) rfl, by rw [← hx]; exact h.s.cell (bvals_at hi), h⟩
theorem Row.drew {W : World} {b : Nat} {t : TypeId} {vs : List Value} (h : Row W b t vs) : Row W.drew b t vs := h
theorem wrap_kind (x : Int) : IntKind.i64.wrap x = wrap64 x := by rw [IntKind.wrap_i64]; unfold wrap64; rfl
theorem drop_wd {l : List Nat} {i : Nat} (h : i < l.length) : l.drop i = wd l i :: l.drop (i + 1) := by
  rw [List.drop_eq_getElem_cons h]; congr 1; unfold wd; simp [List.getD_eq_getElem?_getD, List.getElem?_eq_getElem h]
theorem take_wd {l : List Nat} {i : Nat} (h : i < l.length) : l.take (i + 1) = l.take i ++ [wd l i] := by
  rw [List.take_succ_eq_append_getElem h]; congr 2; unfold wd; simp [List.getD_eq_getElem?_getD, List.getElem?_eq_getElem h]
theorem wd_drop {l : List Nat} {i j : Nat} : wd (l.drop i) j = wd l (i + j) := by
  unfold wd; rw [List.getD_eq_getElem?_getD, List.getD_eq_getElem?_getD, List.getElem?_drop]
/-- one row under way -/
def accM (s : Mat) (a : Nat) (l : List Nat) (j : Nat) : Mat := fun r b => if r = a then one a b + sl (l.take j) (fun x => -(s a x) * invG s l x b) else invG s l r b
theorem accM_succ {s : Mat} {a : Nat} {l : List Nat} {m : Nat} (hm : m < l.length) (hxa : wd l m ≠ a) (r b : Nat) : accM s a l (m + 1) r b = accM s a l m r b + if r = a then -(s a (wd l m)) * accM s a l m (wd l m) b else 0 := by
  unfold accM
  by_cases e : r = a
  · rw [if_pos e, if_pos e, if_pos e, if_neg hxa, take_wd hm, sl_snoc]; grind
  · rw [if_neg e, if_neg e, if_neg e]; simp
/-- the row's places below j are turned -/
def mulM (s : Mat) (a : Nat) (l : List Nat) (j : Nat) : Mat := fun r b => if r = a then (if b < j then (one a b + sl l (fun x => -(s a x) * invG s l x b)) * s a a else one a b + sl l (fun x => -(s a x) * invG s l x b)) else invG s l r b

set_option maxRecDepth 100000 in
set_option maxHeartbeats 8000000 in
theorem inverse_any (n p : Nat) (hn : n ≤ 16) (S : List B64) (hlS : S.length = n * n) (al : Option Addr) (cl : Nat) (L : List Nat) (hlL : L.length = n) (hcap : n ≤ cl) (hLn : ∀ x ∈ L, x < n) (hnd : L.Nodup) (n₀ : Nat) (w : World) (hs : Row w p 2 (bvals S)) (hL : IsInts n₀ w al L) (hn₀ : n₀ ≤ w.heap.size) :
    Calls Tryd.prog 19 #[.slice al n cl, sqV n p] w fun e w' => ∃ g, e = .returned (sqV n g) ∧ w.heap.size ≤ g ∧ Below w.heap.size w w' ∧ Row w' g 2 (bvals (tabL n (invG (mat n S) L))) := by
  have h2 : n * n ≤ 256 := Nat.mul_le_mul hn hn
  have hrow := row_any n
  have hone := ones_any n hn
  have ltp := hs.lt
  unfold sqV at hrow hone
  unfold sqV
  go_enter Tryd.func19, Tryd.ntmps19
  go_wp2_with fail
  obtain ⟨W0, hW0⟩ : ∃ W0, (w.alloc (.cells #[.int .i64 n, .slice (some ⟨p, 0, none⟩) (n * n) (n * n)] 58)).alloc (.cells #[.int .i64 0, .slice none 0 0] 58) = W0 := ⟨_, rfl⟩
  obtain ⟨r3, r4, hB0, hs0⟩ : Row W0 w.heap.size 58 [.int .i64 n, .slice (some ⟨p, 0, none⟩) (n * n) (n * n)] ∧ Row W0 (w.heap.size + 1) 58 [.int .i64 0, .slice none 0 0] ∧ Below w.heap.size w W0 ∧ W0.heap.size = w.heap.size + 1 + 1 := by
    subst hW0
    have r1 := Row.new (w.alloc (.cells #[.int .i64 n, .slice (some ⟨p, 0, none⟩) (n * n) (n * n)] 58)) 58 [.int .i64 0, .slice none 0 0]
    rw [World.size_alloc] at r1
    exact ⟨(Row.new w 58 [.int .i64 n, .slice (some ⟨p, 0, none⟩) (n * n) (n * n)]).alloc _, r1, ((Below.refl _ _).alloc (Nat.le_refl _) _).alloc (by simp) _, by simp⟩
  rw [hW0]
  refine (hone _).mono ?_
  rintro e w1 ⟨g, rfl, hg0, hb1, hr1⟩
  have hs1 := hb1.size
  have lt1 := hr1.lt
  rw [hs0] at hs1 hg0
  obtain ⟨W1, hW1⟩ : ∃ W1, w1.alloc (.cells #[.int .i64 n, .slice (some ⟨g, 0, none⟩) (n * n) (n * n)] 58) = W1 := ⟨_, rfl⟩
  obtain ⟨r5, hB1, hs2⟩ := sq_cells w1 _ _ hW1
  have q3 := row_below (row_below r3 hb1 r3.lt) hB1 (by omega)
  have q4 := row_below (row_below r4 hb1 r4.lt) hB1 (by omega)
  have p1 := row_below hr1 hB1 hr1.lt
  have hBW : Below w.heap.size w W1 := (hB0.trans (hb1.mono (by omega))).trans (hB1.mono (by omega))
  go_wp2_with fail
  have hst : InvSt w n p g w1.heap.size S W1 := ⟨row_below hs hBW ltp, hBW, r5, q3, q4⟩
  have hg1 : w.heap.size + 1 < g := by omega
  have hBg : w1.heap.size ≠ g := by omega
  clear hone hB0 hr1 hb1 hB1 r3 r4 r5 q3 q4 hBW
  generalize w1.heap.size = B at *
  clear hW1 hW0
  go_loopw [6] (fun i wr => ∃ (k : Nat) (P : List B64), k ≤ n ∧ i = .int .i64 ((k : Int) - 1) ∧ InvSt w n p g B S wr ∧ Row wr g 2 (bvals P) ∧ P.length = n * n ∧ EqN n (mat n P) (invG (mat n S) (L.drop k))) (fun i _ => (intOf i + 1).toNat)
  case atStart => exact ⟨n, _, Nat.le_refl _, rfl, hst, p1, tabL_len _ _, by rw [List.drop_of_length_le (by omega)]; exact mat_tabL _⟩
  case round =>
    obtain ⟨k, P, hk, rfl, hst, rG, hlP, hP⟩ := hrel
    clear p1
    by_cases hlt : 0 < k
    · obtain ⟨i, rfl⟩ : ∃ i, k = i + 1 := ⟨k - 1, by omega⟩
      have hi : i < L.length := by omega
      obtain ⟨lb, lo, rfl, hlb, hlc⟩ := (hL.below (hst.bel.mono hn₀)).at hi
      have hca := hlc i hi
      have ei : ((i + 1 : Nat) : Int) - 1 = (i : Nat) := by omega
      rw [ei]
      have ha := hLn _ (wd_mem hi)
      have HLC := hide hlc
      clear hlc ei
      generalize wa : wd L i = a at *
      obtain ⟨rest, hrest⟩ : ∃ rest, rest = L.drop (i + 1) := ⟨_, rfl⟩
      have hlr : rest.length = n - (i + 1) := by rw [hrest, List.length_drop, hlL]
      have hdrop : L.drop i = a :: rest := by rw [hrest, ← wa]; exact drop_wd hi
      have hnr : a ∉ rest := by
        have h1 : (L.drop i).Nodup := hnd.sublist (List.drop_sublist _ _)
        rw [hdrop, List.nodup_cons] at h1; exact h1.1
      have hrn : ∀ x ∈ rest, x < n := fun x hx => hLn x (by rw [hrest] at hx; exact List.mem_of_mem_drop hx)
      have hrc : ∀ j, j < n - (i + 1) → ∀ V, InvSt w n p g B S V → V.cell? ⟨lb, lo + (i + 1) + j, none⟩ = some (.int .i64 (wd rest j : Nat)) := fun j hj V hV => by
        rw [hrest, wd_drop]
        obtain ⟨b2, o2, e2, _, h2⟩ := (hL.below (hV.bel.mono hn₀)).at (i := i + 1 + j) (by omega)
        cases e2
        rw [show lo + (i + 1) + j = lo + (i + 1 + j) by omega]
        exact h2 _ (by omega)
      have hPr : EqN n (mat n P) (accM (mat n S) a rest 0) := hP.trans fun r hr b hb => by
        unfold accM
        rw [← hrest]
        by_cases e : r = a
        · subst e; rw [if_pos rfl, List.take_zero, invG_out hnr]; simp [sl]
        · rw [if_neg e]
      clear hP HLC hL
      by_cases hcl : cl = i + 1
      · subst hcl
        go_wp2_with fail
        go_loopw [30] (fun j wr => ∃ (m : Nat) (P : List B64), m ≤ n - (i + 1) ∧ j = .int .i64 m ∧ InvSt w n p g B S wr ∧ Row wr g 2 (bvals P) ∧ P.length = n * n ∧ EqN n (mat n P) (accM (mat n S) a rest m)) (fun j _ => n - (i + 1) - (intOf j).toNat)
        case atStart => exact ⟨0, P, Nat.zero_le _, rfl, hst, rG, hlP, hPr⟩
        case round =>
          clear hPr hlP rG hst
          obtain ⟨m, P, hm, rfl, hst, rG, hlP, hP⟩ := hrel
          have hmt : ¬ m < n - (i + 1) := by omega
          obtain rfl : m = n - (i + 1) := by omega
          have hPm : EqN n (mat n P) (mulM (mat n S) a rest 0) := hP.trans fun r _ b _ => by
            unfold accM mulM
            rw [List.take_of_length_le (by omega)]
            simp
          have c0 := hst.rB.cell (i := 0) rfl
          have c1 := hst.rB.cell (i := 1) rfl
          clear hP
          go_wp2_with fail
          refine (hrow _ _ hn ha _).mono ?_
          rintro e w2 ⟨rfl, hb2⟩
          have hst2 := hst.keep hb2
          have rG2 := Row.keep rG hb2
          clear c0 c1 hst rG hb2
          go_wp2_with fail
          go_loopw [53] (fun j wr => ∃ (m : Nat) (P : List B64), m ≤ n ∧ j = .int .i64 m ∧ InvSt w n p g B S wr ∧ Row wr g 2 (bvals P) ∧ P.length = n * n ∧ EqN n (mat n P) (mulM (mat n S) a rest m)) (fun j _ => n - (intOf j).toNat)
          case atStart => exact ⟨0, P, Nat.zero_le _, rfl, hst2, rG2, hlP, hPm⟩
          case round =>
            clear hst2 rG2 hlP hPm
            obtain ⟨m, P, hm, rfl, hst, rG, hlP, hP⟩ := hrel
            by_cases hmt : m < n
            · have hax : a * n + a < S.length := by rw [hlS]; exact plc_lt ha ha
              have ham := plc_lt ha hmt
              obtain ⟨sv, hsv⟩ : ∃ sv, (bd S (a * n + a)).toInt = sv := ⟨_, rfl⟩
              obtain ⟨y, hy⟩ : ∃ y, bd P (a * n + m) * bd S (a * n + a) = y := ⟨_, rfl⟩
              have hPn : EqN n (mulM (mat n S) a rest (m + 1)) (fun r b => if r = a ∧ b = m then mulM (mat n S) a rest m a m * mat n S a a else mulM (mat n S) a rest m r b) := fun r _ b _ => by
                show _ = if r = a ∧ b = m then mulM (mat n S) a rest m a m * mat n S a a else mulM (mat n S) a rest m r b
                unfold mulM
                by_cases e : r = a
                · subst e
                  by_cases e2 : b = m
                  · subst e2; simp
                  · by_cases e3 : b < m
                    · have e4 : b < m + 1 := by omega
                      simp [e2, e3, e4]
                    · have e4 : ¬ b < m + 1 := by omega
                      simp [e2, e3, e4]
                · simp [e]
              have gc := rG.cell (bvals_at (i := a * n + m) (by omega))
              have gf := rG.frozen (a * n + m)
              have hmul : wrap64 ((bd P (a * n + m)).toInt * sv) = y.toInt := by rw [← hsv, ← hy]; exact wrap_mul _ _
              obtain ⟨gv, hgv⟩ : ∃ gv, (bd P (a * n + m)).toInt = gv := ⟨_, rfl⟩
              rw [hgv] at gc hmul
              have hw1 : IntKind.i64.wrap (gv * sv) = y.toInt := (wrap_kind _).trans hmul
              have hrest := hide hrest
              have hdrop := hide hdrop
              clear hrn hlr hnr hLn hnd
              have HP := hide hP
              have HPN := hide hPn
              clear hP hPn
              go_wp2_with fail
              have rG := Row.drew rG
              have st := hst.drew
              obtain ⟨d0, d1, d2, d3, d4, _⟩ := InvSt.all hax hsv hst
              go_region_with (first
                  | (go_at_call 35; with_reducible refine (hrow _ a hn ha _).mono ?_; rintro e w' ⟨rfl, hb⟩; have st := InvSt.keep hb st; obtain ⟨d0, d1, d2, d3, d4, _⟩ := InvSt.all hax hsv st; have rG := Row.keep rG hb; have gc := rG.cell (bvals_at (i := a * n + m) (by omega)); have gf := rG.frozen (a * n + m); rw [hgv] at gc))
              all_goals
                have hT := InvSt.grown ltp hg1 hBg (grownBy_setCellAt _ g (a * n + m) (.int .i64 y.toInt)) st
                have hset := rG.set (a * n + m) (.int .i64 y.toInt)
                rw [bvals_set] at hset
                try rw [hw1] at hT
                try rw [hw1]
                clear hb rG gc gf hmul hw1 hrow hst
                go_wp2
                refine ⟨⟨m + 1, P.set (a * n + m) y, by omega, by go_num, hT, hset, by rw [List.length_set, hlP], fun r hr b hb => ?_⟩, by simp [intOf]; omega⟩
                have e0 : mulM (mat n S) a rest (m + 1) r b = if r = a ∧ b = m then mulM (mat n S) a rest m a m * mat n S a a else mulM (mat n S) a rest m r b := HPN.out r hr b hb
                rw [e0]
                have e1 := HP.out r hr b hb
                have e2 := HP.out a ha m hmt
                unfold mat at e1 e2 ⊢
                show bd (P.set (a * n + m) y) (r * n + b) = _
                rw [bd_set (by omega)]
                by_cases e : a * n + m = r * n + b
                · obtain ⟨e3, e4⟩ := plc_inj hmt hb e
                  subst e3; subst e4
                  rw [if_pos rfl, if_pos ⟨rfl, rfl⟩, ← hy, e2]
                · rw [if_neg e, if_neg (fun h => e (by rw [h.1, h.2])), e1]
            · obtain rfl : m = n := by omega
              have hPf : EqN m (mat m P) (invG (mat m S) (L.drop i)) := hP.trans fun r _ b hb => by
                rw [hdrop]
                unfold mulM
                show _ = if r = a then (one a b + sl rest (fun x => -(mat m S a x) * invG (mat m S) rest x b)) * mat m S a a else invG (mat m S) rest r b
                rw [if_pos hb]
              clear hP
              go_wp2_with fail
              exact ⟨⟨i, P, by omega, by go_num, hst, rG, hlP, hPf⟩, by simp [intOf] <;> omega⟩
      · go_wp2_with fail
        go_loopw [30] (fun j wr => ∃ (m : Nat) (P : List B64), m ≤ n - (i + 1) ∧ j = .int .i64 m ∧ InvSt w n p g B S wr ∧ Row wr g 2 (bvals P) ∧ P.length = n * n ∧ EqN n (mat n P) (accM (mat n S) a rest m)) (fun j _ => n - (i + 1) - (intOf j).toNat)
        case atStart => exact ⟨0, P, Nat.zero_le _, rfl, hst, rG, hlP, hPr⟩
        case round =>
          clear hPr hlP rG hst
          obtain ⟨m, P, hm, rfl, hst, rG, hlP, hP⟩ := hrel
          by_cases hmt : m < n - (i + 1)
          · have hcx := hrc m hmt _ hst
            have hxr : wd rest m ∈ rest := wd_mem (by omega)
            have hx := hrn _ hxr
            have hxa : wd rest m ≠ a := fun e => hnr (e ▸ hxr)
            have hPn : EqN n (accM (mat n S) a rest (m + 1)) (fun r b => accM (mat n S) a rest m r b + if r = a then -(mat n S a (wd rest m)) * accM (mat n S) a rest m (wd rest m) b else 0) := fun r _ b _ => accM_succ (by omega) hxa r b
            generalize wd rest m = x at *
            have hax : a * n + x < S.length := by rw [hlS]; exact plc_lt ha hx
            have hrows : ∀ y, y < n → y * n + n ≤ n * n := fun y hy => by
              have := Nat.mul_le_mul_right n (show y + 1 ≤ n from hy)
              rwa [Nat.succ_mul] at this
            have hapart : x * n + n ≤ a * n ∨ a * n + n ≤ x * n := by
              rcases Nat.lt_or_ge x a with h | h
              · have := Nat.mul_le_mul_right n (show x + 1 ≤ a from h)
                rw [Nat.succ_mul] at this; exact .inl this
              · have := Nat.mul_le_mul_right n (show a + 1 ≤ x by omega)
                rw [Nat.succ_mul] at this; exact .inr this
            have hra := hrows a ha
            have hrx := hrows x hx
            obtain ⟨sv, hsv⟩ : ∃ sv, (bd S (a * n + x)).toInt = sv := ⟨_, rfl⟩
            obtain ⟨y, hy⟩ : ∃ y, -(bd S (a * n + x)) = y := ⟨_, rfl⟩
            have hneg : wrap64 (-sv) = y.toInt := by rw [← hsv, ← hy]; exact wrap_neg _
            have hneg2 : IntKind.i64.wrap (-sv) = y.toInt := (wrap_kind _).trans hneg
            have HP := hide hP
            have HPN := hide hPn
            have hadd := fun V (hV : Row V g 2 (bvals P)) => add_any g (a * n) n (n * n - a * n) g (x * n) (n * n - x * n) P (fun i => bd P (x * n + i)) y (by omega) (by omega) (by rw [hlP]; exact hra) V hV (fun W' T' _ hT' hlT' hT => by
              intro i hi
              have := hT'.cell (bvals_at (i := x * n + i) (by omega))
              rw [hT (x * n + i) (by omega)] at this
              exact this)
            clear hrc hP hPn hxr
            have hrest := hide hrest
            have hdrop := hide hdrop
            clear hrn hlr hnr hLn hnd hrows
            go_wp2_with fail
            have rG := Row.drew rG
            go_region_held3 (fun V => V.cell? ⟨B, 0, none⟩ = some (.int .i64 n) ∧ V.cell? ⟨B, 1, none⟩ = some (.slice (some ⟨g, 0, none⟩) (n * n) (n * n)) ∧ V.cell? ⟨w.heap.size, 0, none⟩ = some (.int .i64 n) ∧ V.cell? ⟨w.heap.size, 1, none⟩ = some (.slice (some ⟨p, 0, none⟩) (n * n) (n * n)) ∧ V.cell? ⟨p, a * n + x, none⟩ = some (.int .i64 sv) ∧ InvSt w n p g B S V) ((go_split_ands; first | exact InvSt.all hax hsv hst | exact InvSt.all hax hsv hst.drew | exact InvSt.all hax hsv (by assumption) | exact InvSt.all hax hsv (InvSt.keep hb (by assumption)) | exact InvSt.all hax hsv (InvSt.grown ltp hg1 hBg hg (by assumption)) | fail))
              (first
                | (go_at_call 35; with_reducible refine (hrow _ a hn ha _).mono ?_; rintro e w' ⟨rfl, hb⟩; have rG := Row.keep rG hb)
                | (go_at_call 35; with_reducible refine (hrow _ x hn hx _).mono ?_; rintro e w' ⟨rfl, hb⟩; have rG := Row.keep rG hb)
                | (go_at_call 34; with_reducible refine (hadd _ rG).mono ?_; rintro e w' ⟨rfl, hg, T', hT', hlT', hout, hin⟩))
            go_split_ands
            have hT := ‹InvSt w n p g B S w'›
            clear hg hb hadd rG hrow hneg hst hcx
            go_wp2
            refine ⟨⟨m + 1, T', by omega, by go_num, hT, hT', by rw [hlT', hlP], fun r hr b hb => ?_⟩, by simp [intOf]; omega⟩
            have e0 : accM (mat n S) a rest (m + 1) r b = accM (mat n S) a rest m r b + if r = a then -(mat n S a x) * accM (mat n S) a rest m x b else 0 := HPN.out r hr b hb
            rw [e0]
            have e1 := HP.out r hr b hb
            have e2 := HP.out x hx b hb
            unfold mat at e1 e2 ⊢
            show bd T' (r * n + b) = _
            by_cases e : r = a
            · subst e
              rw [hin b hb, if_pos rfl, e1, e2, hy]
            · rw [if_neg e, hout (r * n + b) (by
                rcases Nat.lt_or_ge r a with h | h
                · have := Nat.mul_le_mul_right n (show r + 1 ≤ a from h)
                  rw [Nat.succ_mul] at this; exact .inl (by omega)
                · have := Nat.mul_le_mul_right n (show a + 1 ≤ r by omega)
                  rw [Nat.succ_mul] at this; exact .inr (by omega)), e1]; simp
          · obtain rfl : m = n - (i + 1) := by omega
            have hPm : EqN n (mat n P) (mulM (mat n S) a rest 0) := hP.trans fun r _ b _ => by
              unfold accM mulM
              rw [List.take_of_length_le (by omega)]
              simp
            have c0 := hst.rB.cell (i := 0) rfl
            have c1 := hst.rB.cell (i := 1) rfl
            clear hP
            go_wp2_with fail
            refine (hrow _ _ hn ha _).mono ?_
            rintro e w2 ⟨rfl, hb2⟩
            have hst2 := hst.keep hb2
            have rG2 := Row.keep rG hb2
            clear c0 c1 hst rG hb2
            go_wp2_with fail
            go_loopw [53] (fun j wr => ∃ (m : Nat) (P : List B64), m ≤ n ∧ j = .int .i64 m ∧ InvSt w n p g B S wr ∧ Row wr g 2 (bvals P) ∧ P.length = n * n ∧ EqN n (mat n P) (mulM (mat n S) a rest m)) (fun j _ => n - (intOf j).toNat)
            case atStart => exact ⟨0, P, Nat.zero_le _, rfl, hst2, rG2, hlP, hPm⟩
            case round =>
              clear hst2 rG2 hlP hPm
              obtain ⟨m, P, hm, rfl, hst, rG, hlP, hP⟩ := hrel
              by_cases hmt : m < n
              · have hax : a * n + a < S.length := by rw [hlS]; exact plc_lt ha ha
                have ham := plc_lt ha hmt
                obtain ⟨sv, hsv⟩ : ∃ sv, (bd S (a * n + a)).toInt = sv := ⟨_, rfl⟩
                obtain ⟨y, hy⟩ : ∃ y, bd P (a * n + m) * bd S (a * n + a) = y := ⟨_, rfl⟩
                have hPn : EqN n (mulM (mat n S) a rest (m + 1)) (fun r b => if r = a ∧ b = m then mulM (mat n S) a rest m a m * mat n S a a else mulM (mat n S) a rest m r b) := fun r _ b _ => by
                  show _ = if r = a ∧ b = m then mulM (mat n S) a rest m a m * mat n S a a else mulM (mat n S) a rest m r b
                  unfold mulM
                  by_cases e : r = a
                  · subst e
                    by_cases e2 : b = m
                    · subst e2; simp
                    · by_cases e3 : b < m
                      · have e4 : b < m + 1 := by omega
                        simp [e2, e3, e4]
                      · have e4 : ¬ b < m + 1 := by omega
                        simp [e2, e3, e4]
                  · simp [e]
                have gc := rG.cell (bvals_at (i := a * n + m) (by omega))
                have gf := rG.frozen (a * n + m)
                have hmul : wrap64 ((bd P (a * n + m)).toInt * sv) = y.toInt := by rw [← hsv, ← hy]; exact wrap_mul _ _
                obtain ⟨gv, hgv⟩ : ∃ gv, (bd P (a * n + m)).toInt = gv := ⟨_, rfl⟩
                rw [hgv] at gc hmul
                have hw1 : IntKind.i64.wrap (gv * sv) = y.toInt := (wrap_kind _).trans hmul
                have hrest := hide hrest
                have hdrop := hide hdrop
                clear hrn hlr hnr hLn hnd
                have HP := hide hP
                have HPN := hide hPn
                clear hP hPn
                go_wp2_with fail
                have rG := Row.drew rG
                have st := hst.drew
                obtain ⟨d0, d1, d2, d3, d4, _⟩ := InvSt.all hax hsv hst
                go_region_with (first
                    | (go_at_call 35; with_reducible refine (hrow _ a hn ha _).mono ?_; rintro e w' ⟨rfl, hb⟩; have st := InvSt.keep hb st; obtain ⟨d0, d1, d2, d3, d4, _⟩ := InvSt.all hax hsv st; have rG := Row.keep rG hb; have gc := rG.cell (bvals_at (i := a * n + m) (by omega)); have gf := rG.frozen (a * n + m); rw [hgv] at gc))
                all_goals
                  have hT := InvSt.grown ltp hg1 hBg (grownBy_setCellAt _ g (a * n + m) (.int .i64 y.toInt)) st
                  have hset := rG.set (a * n + m) (.int .i64 y.toInt)
                  rw [bvals_set] at hset
                  try rw [hw1] at hT
                  try rw [hw1]
                  clear hb rG gc gf hmul hw1 hrow hst
                  go_wp2
                  refine ⟨⟨m + 1, P.set (a * n + m) y, by omega, by go_num, hT, hset, by rw [List.length_set, hlP], fun r hr b hb => ?_⟩, by simp [intOf]; omega⟩
                  have e0 : mulM (mat n S) a rest (m + 1) r b = if r = a ∧ b = m then mulM (mat n S) a rest m a m * mat n S a a else mulM (mat n S) a rest m r b := HPN.out r hr b hb
                  rw [e0]
                  have e1 := HP.out r hr b hb
                  have e2 := HP.out a ha m hmt
                  unfold mat at e1 e2 ⊢
                  show bd (P.set (a * n + m) y) (r * n + b) = _
                  rw [bd_set (by omega)]
                  by_cases e : a * n + m = r * n + b
                  · obtain ⟨e3, e4⟩ := plc_inj hmt hb e
                    subst e3; subst e4
                    rw [if_pos rfl, if_pos ⟨rfl, rfl⟩, ← hy, e2]
                  · rw [if_neg e, if_neg (fun h => e (by rw [h.1, h.2])), e1]
              · obtain rfl : m = n := by omega
                have hPf : EqN m (mat m P) (invG (mat m S) (L.drop i)) := hP.trans fun r _ b hb => by
                  rw [hdrop]
                  unfold mulM
                  show _ = if r = a then (one a b + sl rest (fun x => -(mat m S a x) * invG (mat m S) rest x b)) * mat m S a a else invG (mat m S) rest r b
                  rw [if_pos hb]
                clear hP
                go_wp2_with fail
                exact ⟨⟨i, P, by omega, by go_num, hst, rG, hlP, hPf⟩, by simp [intOf] <;> omega⟩
    · obtain rfl : k = 0 := by omega
      have f0 := hst.r4.frozen 0
      have f1 := hst.r4.frozen 1
      have d0 := hst.r4.cell (i := 0) rfl
      have d1 := hst.r4.cell (i := 1) rfl
      have c0 := hst.rB.cell (i := 0) rfl
      have c1 := hst.rB.cell (i := 1) rfl
      have ltB := hst.rB.lt
      have lt4 := hst.r4.lt
      have ltP := rG.lt
      have e : P = tabL n (invG (mat n S) L) := mat_ext hlP (tabL_len _ _) (hP.trans (by rw [List.drop_zero]; exact (mat_tabL _).symm))
      subst e
      clear hP hlP hrow
      go_wp2
      have kk := (hst.r4.set 0 (.int .i64 n)).set 1 (.slice (some ⟨g, 0, none⟩) (n * n) (n * n))
      have e0 := kk.cell (i := 0) rfl
      have e1 := kk.cell (i := 1) rfl
      refine bodyPost_ret (v := .agg #[.int .i64 n, .slice (some ⟨g, 0, none⟩) (n * n) (n * n)]) (by simp [results, Tryd.results19, go_sem, e0, e1]) rfl ⟨_, rfl, by omega, ?_, ?_⟩
      · exact (hst.bel.setCell (p := ⟨w.heap.size + 1, 0, none⟩) (by simp) _).setCell (p := ⟨w.heap.size + 1, 1, none⟩) (by simp) _
      · exact (rG.other (by omega) _ _).other (by omega) _ _
end Go.Proofs.YtjbfjdijgfhjfaaDoor

namespace Go.Proofs.YtjbfjdijgfhjfaaDoor
open Go.RowKit Go.Shelf
attribute [local go_sem] Oper.semAt_some

theorem scope_wide {n : Nat} {P : Program} {c : Code} {Q : Exit → Act → World → Prop} {a : Act} {w : World} (h : c.wpIn Fence.wide n P (Exit.noGoto Q) a w) : (Code.scope c).wpIn Fence.wide n P Q a w :=
  wpIn_wide.2 (wp_scope_straight (wpIn_wide.1 h))
/-- x must come ahead of i -/
def aheadB (es : List Nat) (x i : Nat) : Bool := hasB (wd es i) x
/-- the word has just what is left -/
def LeftIs (n : Nat) (done : List Nat) (x : Nat) : Prop := x < 4294967296 ∧ ∀ i, hasB x i = (decide (i < n) && !memB done i)
theorem left_start {n : Nat} (h : n ≤ 16) : LeftIs n [] (allW n) := ⟨allW_lt (by omega), fun i => by rw [hasB_all]; simp [memB]⟩
theorem left_step {n : Nat} {done : List Nat} {x y : Nat} (h : LeftIs n done x) : LeftIs n (done ++ [y]) (andN x (bitW y)) := by
  refine ⟨andN_lt h.1, fun i => ?_⟩
  rw [hasB_andN h.1, hasB_bitW, h.2]
  by_cases e : y = i
  · subst e; simp [memB]
  · have e' : ¬ i = y := fun h => e h.symm
    simp [memB, e, e']
theorem left_ready {es : List Nat} {done : List Nat} {x y : Nat} (h : LeftIs es.length done x) (hy : hasB x y = true) : andW (wd es y) x = 0 ↔ readyB (aheadB es) es.length done y = true := by
  have hyd := h.2 y
  rw [hy, eq_comm, Bool.and_eq_true, Bool.not_eq_true'] at hyd
  have hyn : y ∉ done := memB_false.1 hyd.2
  rw [word_zero, readyB_true]
  constructor
  · intro g
    refine ⟨hyn, fun z hz hR => ?_⟩
    have := g z
    rw [hasB_and, h.2] at this
    unfold aheadB at hR
    rw [hR] at this
    exact memB_true.1 (by simpa [hz] using this)
  · rintro ⟨_, g⟩ z
    rw [hasB_and, h.2]
    cases hR : hasB (wd es y) z with
    | false => rfl
    | true =>
      by_cases hz : z < es.length
      · simp [memB_true.2 (g z hz hR)]
      · simp [hz]
/-- the one that was found is the next one -/
theorem left_next {es : List Nat} {done : List Nat} {x : Nat} (h : LeftIs es.length done x) (h64 : x < 18446744073709551616) {pre : List (El x)} {y : El x} (hp : pre ++ [y] <+: elemsS x h64)
    (hno : ∀ z ∈ pre, readyB (aheadB es) es.length done z.1 = false) (hr : readyB (aheadB es) es.length done y.1 = true) : nextF (aheadB es) es.length done = y.1 := by
  have hyn : y.1 < es.length := by have := h.2 y.1; rw [y.2] at this; simp at this; exact this.1
  refine next_of hyn hr fun j hj => ?_
  by_cases hjl : hasB x j = true
  · -- j is ahead of y in the list of elements
    obtain ⟨t, ht⟩ := hp
    have hs := sorted_elems h64
    rw [← elemsS_val x h64, ← ht] at hs
    have hjm : (⟨j, hjl⟩ : El x) ∈ elemsS x h64 := mem_elemsS h64 _
    rw [← ht] at hjm
    rcases List.mem_append.1 hjm with hm | hm
    · rcases List.mem_append.1 hm with hm | hm
      · exact hno _ hm
      · simp at hm
        have : j = y.1 := by rw [← hm]
        omega
    · rw [List.map_append, List.pairwise_append] at hs
      have := hs.2.2 y.1 (by simp) j (List.mem_map.2 ⟨_, hm, rfl⟩)
      omega
  · apply readyB_false
    rintro ⟨hnd, _⟩
    apply hjl
    rw [h.2]
    simp [memB_false.2 hnd]; omega

set_option maxRecDepth 100000 in
set_option maxHeartbeats 1000000 in
theorem sorted_any (a : Option Addr) (cap : Nat) (es : List Nat) (n₀ : Nat) (hf : Fit es) (hl : es.length ≤ 16) (hA : Acy (aheadB es) es.length) (w : World) (hT : TabAt w) (hw : IsWords n₀ w a es) (hg : 0 < n₀) (hn₀ : n₀ ≤ w.heap.size) :
    Calls Tryd.prog 32 #[.slice a es.length cap] w fun e w' => ∃ av cv, e = .returned (.slice av es.length cv) ∧ Below w.heap.size w w' ∧ w'.ownsRow w.heap.size 3 1 (.slice av es.length cv) es.length (ivals (sortF (aheadB es) es.length es.length)) := by
  have hfn := wide_fn
  have hdep := wide_depth
  obtain ⟨i0, hi, hz0, hz1, hz2⟩ := info_parts info_int
  refine (callsIn_wide (n := 6)).1 ?_
  refine callsIn_of_wp_marks Tryd.func32 rfl trivial ?_ rfl
  simp only [Tryd.ntmps32, List.size_toArray, List.length_cons, List.length_nil, Nat.reduceAdd, Nat.reduceSub, Array.replicate_succ, Array.replicate_zero, List.push_toArray, List.append_toArray, List.nil_append, List.cons_append]
  gi_wp2
  refine scope_wide ?_
  gi_wp2_with (first
    | (gi_at_make; refine wpListIn_make_own _ rfl _ _ 25 rfl (w.heap.size + 1) 3 i0 (.int .i64 0) 1 Tryd.underlying25 hi hz0 hz1 .i64 .i64 _ es.length rfl rfl rfl (by rw [hz2]; omega) (by unfold maxLen; omega) (by simp) ?_; intro w1 hown1 hgrow1; have bU1 := (Boxed.new w 22 (.slice a es.length cap)).kept hgrow1 (by simp); have cU1 := bU1.cell; have lU1 := bU1.lt)
    | (gi_at_call 53; refine (callsIn_wide.2 (all_any es.length (by omega) _)).mono ?_; rintro e w' ⟨rfl, rfl⟩)
    | refine wpIn_label ?_)
  refine wpIn_loop (fun ac W => ∃ (k : Nat) (ms : List Deferred) (L : List Nat) (av : Option Addr) (cv x : Nat) (u5 u15 u16 u17 u18 u19 u20 u21 u22 u23 u24 u25 u26 u27 u28 u29 u30 u31 u32 u33 u34 : Value), ac = { tmps := #[.slice a es.length cap, .pointer (some ⟨w.heap.size, 0, none⟩), .slice none 0 0, .pointer (some ⟨w1.heap.size, 0, none⟩), .pointer (some ⟨w1.heap.size + 1, 0, none⟩), u5, .slice a es.length cap, .int .i64 es.length, .slice (some ⟨w.heap.size + 1, 0, none⟩) 0 es.length, .slice a es.length cap, .int .i64 es.length, .int .u32 (allW es.length : Nat), .slice a es.length cap, .int .i64 es.length, .int .i64 (k : Nat), u15, u16, u17, u18, u19, u20, u21, u22, u23, u24, u25, u26, u27, u28, u29, u30, u31, u32, u33, u34, undef], defers := ms } ∧ k ≤ es.length ∧ L = sortF (aheadB es) es.length k ∧ LeftIs es.length L x ∧ (Boxed W w.heap.size 22 (.slice a es.length cap) ∧ Boxed W w1.heap.size 25 (.slice av L.length cv) ∧ Boxed W (w1.heap.size + 1) 50 (.int .u32 (x : Nat))) ∧ W.ownsRow (w.heap.size + 1) 3 1 (.slice av L.length cv) L.length (ivals L) ∧ Below w.heap.size w W ∧ Marks w.heap.size W W.heap.size ms) (fun ac _ => es.length - (intOf (ac.tmps.getD 14 undef)).toNat) ?start ?round
  case start =>
    have hB1 : Below w.heap.size w w1 := ((Below.refl _ _).alloc (Nat.le_refl _) _).grown hgrow1 (by simp) (fun j e => by cases e)
    have hs1 := hB1.size
    have b2 := Boxed.new (w1.alloc (.cells #[.slice (some ⟨w.heap.size + 1, 0, none⟩) 0 es.length] 25)) 50 (.int .u32 (allW es.length : Nat))
    rw [World.size_alloc] at b2 hown1
    exact ⟨0, [], [], some ⟨w.heap.size + 1, 0, none⟩, es.length, _, _, _, _, _, _, _, _, _, _, _, _, _, _, _, _, _, _, _, _, _, _, rfl, Nat.zero_le _, rfl, left_start hl, ⟨(bU1.alloc _).alloc _, (Boxed.new w1 _ _).alloc _, b2⟩, (hown1.alloc _).alloc _, (hB1.alloc hs1 _).alloc (by simp; omega) _, trivial⟩
  case round =>
    have hB1 : Below w.heap.size w w1 := ((Below.refl _ _).alloc (Nat.le_refl _) _).grown hgrow1 (by simp) (fun j e => by cases e)
    have hs1 : w.heap.size + 1 ≤ w1.heap.size := by have := hgrow1.size; simpa using this
    clear bU1 cU1 lU1 hown1 hgrow1 hB1
    rintro _ W ⟨k, ms, L, av, cv, x, u5, u15, u16, u17, u18, u19, u20, u21, u22, u23, u24, u25, u26, u27, u28, u29, u30, u31, u32, u33, u34, rfl, hk, hL, hLeft, ⟨bU, bL, bX⟩, hown, hB, hM⟩
    have HL := hide hL
    clear hL
    have hsz := hB.size
    have cX := bX.cell
    have cL := bL.cell
    have ltX := bX.lt
    have ltL := bL.lt
    by_cases hlt : k < es.length
    · gi_wp2_with (gi_at_call 24; refine (callsIn_wide.2 (bitsOf_any x _)).mono ?_; rintro e w' ⟨rfl, rfl⟩)
      have bY := Boxed.new W 50 (.int .u32 (x : Nat))
      have hB2 := hB.alloc hsz (.cells #[.int .u32 (x : Nat)] 50)
      have hT2 : TabAt (W.alloc (.cells #[.int .u32 (x : Nat)] 50)) := hT.below hB2 (by omega)
      refine wpIn_rangeFunc_ownF rfl (by omega) (gf := 41) (lb := #[.pointer (some ⟨W.heap.size, 0, none⟩)]) rfl trivial (enters_of Tryd.func41 (by kernel_rfl) rfl)
        (bitsOf_stops 5 W.heap.size w.heap.size _ hLeft.1 _ (by simp) (by simp; omega) bY.cell hT2 (by omega)) belowK_t (belowK_b (by simp; omega)) (Below.refl _ _) (fun _ => rfl)
        (fun pre W' => ((Boxed W' w.heap.size 22 (.slice a es.length cap) ∧ (Boxed W' w1.heap.size 25 (.slice av L.length cv) ∧ Boxed W' (w1.heap.size + 1) 50 (.int .u32 (x : Nat)))) ∧ W'.ownsRow (w.heap.size + 1) 3 1 (.slice av L.length cv) L.length (ivals L)) ∧ ((Below w.heap.size w W' ∧ Marks w.heap.size W' W.heap.size ms) ∧ ∀ z ∈ pre, readyB (aheadB es) es.length L z.1 = false))
        (fun c pre W' => ∃ (y : El x) (av' : Option Addr) (cv' : Nat), ((Boxed W' w.heap.size 22 (.slice a es.length cap) ∧ (Boxed W' w1.heap.size 25 (.slice av' (L ++ [y.1]).length cv') ∧ Boxed W' (w1.heap.size + 1) 50 (.int .u32 (andN x (bitW y.1) : Nat)))) ∧ W'.ownsRow (w.heap.size + 1) 3 1 (.slice av' (L ++ [y.1]).length cv') (L ++ [y.1]).length (ivals (L ++ [y.1]))) ∧ ((Below w.heap.size w W' ∧ Marks w.heap.size W' W.heap.size ms) ∧ (c = .exit 1 ∧ readyB (aheadB es) es.length L y.1 = true ∧ ∃ pre', pre = pre' ++ [y] ∧ ∀ z ∈ pre', readyB (aheadB es) es.length L z.1 = false)))
        (OwnFrom.and (OwnFrom.and (OwnFrom.and (Own.from (boxed_own _ _ _) _) (OwnFrom.and (Own.from (boxed_own _ _ _) _) (Own.from (boxed_own _ _ _) _))) (Own.from (ownsRow_own _ _ _ _ _ _) _)) (OwnFrom.and (OwnFrom.and (ownFrom_below (Nat.le_refl _) (by simp; omega)) (marks_own (by simp) ms)) (ownFrom_pure _ _)))
        (fun c => ownFrom_ex fun y => ownFrom_ex fun av' => ownFrom_ex fun cv' => OwnFrom.and (OwnFrom.and (OwnFrom.and (Own.from (boxed_own _ _ _) _) (OwnFrom.and (Own.from (boxed_own _ _ _) _) (Own.from (boxed_own _ _ _) _))) (Own.from (ownsRow_own _ _ _ _ _ _) _)) (OwnFrom.and (OwnFrom.and (ownFrom_below (Nat.le_refl _) (by simp; omega)) (marks_own (by simp) ms)) (ownFrom_pure _ _)))
        ⟨⟨⟨bU.alloc _, bL.alloc _, bX.alloc _⟩, hown.alloc _⟩, ⟨hB2, hM.others (KeepsOthers.alloc _ _)⟩, by simp⟩
        (fun y => { tmps := #[.slice a es.length cap, .pointer (some ⟨w.heap.size, 0, none⟩), .slice none 0 0, .pointer (some ⟨w1.heap.size, 0, none⟩), .pointer (some ⟨w1.heap.size + 1, 0, none⟩), .int .i64 (y.1 : Nat), .slice a es.length cap, .int .i64 es.length, .slice (some ⟨w.heap.size + 1, 0, none⟩) 0 es.length, .slice a es.length cap, .int .i64 es.length, .int .u32 (allW es.length : Nat), .slice a es.length cap, .int .i64 es.length, .int .i64 (k : Nat), .bool true, .int .u32 (x : Nat), .func (.func 41) #[] #[.pointer (some ⟨W.heap.size, 0, none⟩)], .int .i64 (y.1 : Nat), u19, u20, u21, u22, u23, u24, u25, u26, u27, u28, u29, u30, u31, u32, u33, u34, undef], defers := [] }) ?assign ?body ?done ?stop
      case assign =>
        intro l x W' K hK
        gi_wp2
        exact hK
      case body =>
        rintro l pre y W' ⟨⟨⟨bU', bL', bX'⟩, hown'⟩, ⟨hB', hM'⟩, hno⟩ _
        have hyn : y.1 < es.length := by have := hLeft.2 y.1; rw [y.2, eq_comm, Bool.and_eq_true] at this; simpa using this.1
        have hlen : L.length ≤ 16 := by rw [HL.out, sortF_len]; omega
        have hiff := left_ready hLeft y.2
        have cU' := bU'.cell
        have cX' := bX'.cell
        have cL' := bL'.cell
        have ltU' := bU'.lt
        have ltX' := bX'.lt
        have ltL' := bL'.lt
        obtain ⟨b, off, rfl, hb, hc⟩ := (hw.below (hB'.mono hn₀)).at hyn
        have cY := hc y.1 hyn
        clear hc
        have hbits := bits_and32 (wd es y.1) x (hf _) hLeft.1
        cases hr : readyB (aheadB es) es.length L y.1 with
        | false =>
          have hne : andW (wd es y.1) x ≠ 0 := fun e => by rw [hiff.1 e] at hr; cases hr
          have hd : (((andW (wd es y.1) x : Nat) : Int) == 0) = false := by rw [beq_eq_false_iff_ne]; omega
          have Hr := hide hr
          clear hr hne hiff
          gi_wp2
          refine region_quietR l rfl (by kernel_rfl) (by kernel_rfl) (by kernel_rfl) ?_
          repeat (gi_big_quiet_step (fail))
          refine wpQuietIn_nil ?_
          intro _ hw'
          obtain ⟨nq, hw''⟩ := hw'
          subst hw''
          gi_wp2
          exact ⟨keeps_drewN _ _, below_drewN (Below.refl _ _) _, ⟨⟨bU', bL', bX'⟩, hown'⟩, ⟨below_drewN hB' nq, hM'.others (keeps_drewN _ nq)⟩, fun z hz => (List.mem_append.1 hz).elim (hno z) (fun e => by simp at e; subst e; exact Hr.out)⟩
        | true =>
          have hz := hiff.2 hr
          rw [hz] at hbits
          have Hr := hide hr
          clear hr hz hiff
          gi_wp2
          refine region_quietR l rfl (by kernel_rfl) (by kernel_rfl) (by kernel_rfl) ?_
          repeat (gi_big_quiet_step (fail))
          refine wpQuietIn_nil ?_
          intro _ hw'
          obtain ⟨nq, hw''⟩ := hw'
          subst hw''
          have bUv : Boxed (W'.drewN nq) w.heap.size 22 (.slice (some ⟨b, off, none⟩) es.length cap) := bU'
          have bLv : Boxed (W'.drewN nq) w1.heap.size 25 (.slice av L.length cv) := bL'
          have bXv : Boxed (W'.drewN nq) (w1.heap.size + 1) 50 (.int .u32 (x : Nat)) := bX'
          have hownv : (W'.drewN nq).ownsRow (w.heap.size + 1) 3 1 (.slice av L.length cv) L.length (ivals L) := hown'
          have hBv := below_drewN hB' nq
          have hMv := hM'.others (keeps_drewN _ nq)
          have hKv := keeps_drewN W' nq
          have hBW := below_drewN (Below.refl w.heap.size W') nq
          clear bU' bL' bX' hown' hB' hM' cU' cX' cL' cY ltU' ltX' ltL'
          generalize W'.drewN nq = V at *
          have cL' := bLv.cell
          have hVs := hBv.size
          have hVL := bLv.lt
          have hVX := bXv.lt
          have hneL := bLv.not_row (by decide) hownv
          have hneX := bXv.not_row (by decide) hownv
          have hneU := bUv.not_row (by decide) hownv
          gi_wp2_with (gi_at_builtin; refine wpListIn_append_own _ rfl _ _ 25 rfl (w.heap.size + 1) 3 i0 (.int .i64 0) 1 8 Tryd.underlying25 hi hz0 hz1 hz2 rfl (by decide) _ _ _ rfl (hownv.alloc _) ⟨V.heap.size, 0, none⟩ 1 1 [.int .i64 (y.1 : Nat)] rfl rfl (cell_one_new _ _ _) (fun u hu => by simp at hu; subst hu; rfl) (by unfold maxLen; omega) (by omega) (by simp; omega) ?_; intro v' w3 hown3 hgrow3 _; obtain ⟨g', cap', rfl⟩ := ownsRow_succ hown3; have bL3 := (bLv.alloc (.cells #[.int .i64 (y.1 : Nat)] 3)).kept hgrow3 hneL; have bX3 := (bXv.alloc (.cells #[.int .i64 (y.1 : Nat)] 3)).kept hgrow3 hneX; have cL3 := bL3.cell; have fL3 := bL3.frozen)
          have hout : ∀ j, Value.ownBlock (.slice av L.length cv) = some j → w.heap.size ≤ j := fun j ej => by
            apply Nat.le_of_not_lt; intro hjl
            exact ownBlock_ge hownv (b := j) (by omega) ej.symm
          have bU3 := (bUv.alloc (.cells #[.int .i64 (y.1 : Nat)] 3)).kept hgrow3 hneU
          have hK3 : KeepsOthers W' w3 := (hKv.trans (KeepsOthers.alloc _ _)).trans (keeps_own (hownv.alloc _) hgrow3)
          have hB3 : Below w.heap.size w w3 := (hBv.alloc hVs _).grown hgrow3 (by simp; omega) hout
          have hM3 : Marks w.heap.size w3 W.heap.size ms := (hMv.others (KeepsOthers.alloc _ _)).others (keeps_own (hownv.alloc _) hgrow3)
          have hneL3 := bL3.not_row (by decide) hown3
          have hneX3 := bX3.not_row (by decide) hown3
          have bU4 := boxed_otherAt bU3 (b := w1.heap.size) (by omega) 0 (.slice (some ⟨g', 0, none⟩) (L.length + 1) cap')
          have bX4 := boxed_otherAt bX3 (b := w1.heap.size) (by omega) 0 (.slice (some ⟨g', 0, none⟩) (L.length + 1) cap')
          have bL4 := bL3.set (.slice (some ⟨g', 0, none⟩) (L.length + 1) cap')
          have hown4 := hown3.kept (grownBy_setCellAt w3 w1.heap.size 0 (.slice (some ⟨g', 0, none⟩) (L.length + 1) cap')) (.inr hneL3.symm)
          have hK4 := hK3.trans (KeepsOthers.setCell w3 ⟨w1.heap.size, 0, none⟩ (.slice (some ⟨g', 0, none⟩) (L.length + 1) cap'))
          have hB4 := hB3.setCell (p := ⟨w1.heap.size, 0, none⟩) (by simp; omega) (.slice (some ⟨g', 0, none⟩) (L.length + 1) cap')
          have hM4 := hM3.others (KeepsOthers.setCell w3 ⟨w1.heap.size, 0, none⟩ (.slice (some ⟨g', 0, none⟩) (L.length + 1) cap'))
          clear bU3 bX3 bL3 hown3 hK3 hB3 hM3 cL3 fL3 cL' bUv bLv bXv hownv hBv hMv hKv hBW hneL hneX hneU hneL3 hgrow3 hout
          generalize w3.setCell ⟨w1.heap.size, 0, none⟩ (.slice (some ⟨g', 0, none⟩) (L.length + 1) cap') = V4 at *
          have cX4 := bX4.cell
          have fX4 := bX4.frozen
          have hneX4 := bX4.not_row (by decide) hown4
          have hbn := bits_andN32 x (bitW y.1) hLeft.1 (bitW_lt (by omega))
          have hmx : Tryd.prog.follows .mixedOrders = true := by kernel_rfl
          first | gi_region_with_o (gi_at_call 40; refine (CallsIn.inRound l (callsIn_wide.2 (bit_any y.1 (by omega) _))).mono ?_; rintro e w' ⟨rfl, rfl⟩) | fail
          all_goals gi_wp2
          all_goals
            refine ⟨(hK4.trans (KeepsOthers.setCell _ _ _)).trans (KeepsOthers.drew _), y, some ⟨g', 0, none⟩, cap', ⟨⟨?_, ?_, ?_⟩, ?_⟩, ⟨?_, ?_⟩, rfl, Hr.out, pre, rfl, hno⟩
            · exact boxed_otherAt bU4 (by omega) _ _
            · rw [List.length_append]; exact boxed_otherAt bL4 (by omega) _ _
            · exact bX4.set _
            · rw [ivals_snoc, List.length_append]
              have hown5 := hown4.kept (grownBy_setCellAt V4 (w1.heap.size + 1) 0 (.int .u32 (andN x (bitW y.1) : Nat))) (.inr hneX4.symm)
              exact hown5
            · exact (hB4.setCell (p := ⟨w1.heap.size + 1, 0, none⟩) (by simp; omega) _).drew
            · exact (hM4.others (KeepsOthers.setCell _ _ _)).others (KeepsOthers.drew _)
      case done =>
        rintro D ys W' hD rfl ⟨⟨⟨bU', bL', bX'⟩, hown'⟩, ⟨hB', hM'⟩, hno⟩ hK
        exfalso
        obtain ⟨i, hi', hr⟩ := hA L (left_some (by rw [HL.out, sortF_len]; exact hlt))
        have hin : hasB x i = true := by rw [hLeft.2]; simp [hi', memB_false.2 (readyB_true.1 hr).1]
        rw [hno ⟨i, hin⟩ (mem_elemsS _ _)] at hr
        cases hr
      case stop =>
        rintro D c pre W' hD hpre ⟨y, av', cv', ⟨⟨bU', bL', bX'⟩, hown'⟩, ⟨hB', hM'⟩, rfl, hr, pre', rfl, hno⟩ hK
        have hDl : D < W'.heap.size := (Array.getElem?_eq_some_iff.1 hK).1
        have hnx := left_next hLeft _ hpre hno hr
        obtain ⟨L2, hL2⟩ : ∃ L2, L2 = L ++ [y.1] := ⟨_, rfl⟩
        have HL2 := hide (show L2 = sortF (aheadB es) es.length (k + 1) by rw [hL2, ← hnx, HL.out]; rfl)
        have hLf2 : LeftIs es.length L2 (andN x (bitW y.1)) := by rw [hL2]; exact left_step hLeft
        rw [← hL2] at bL' hown'
        clear hnx hL2 bY cX cL bL bX bU hown
        simp at hD
        gi_wp2
        exact ⟨⟨k + 1, { target := .collected D, args := #[] } :: ms, L2, av', cv', _, _, _, _, _, _, _, _, _, _, _, _, _, _, _, _, _, _, _, _, _, _, rfl, by omega, HL2.out, hLf2, ⟨bU', bL', bX'⟩, hown', hB', ⟨D, rfl, by omega, hDl, hK, hM'.mono (by omega)⟩⟩, by simp [intOf]; omega⟩
    · obtain rfl : k = es.length := by omega
      have e0 : L.length = es.length := by rw [HL.out, sortF_len]
      gi_wp2
      rw [e0] at hown
      refine leaves_marks (G := fun _ W' => W'.ownsRow (w.heap.size + 1) 3 1 (.slice av es.length cv) es.length (ivals L) ∧ Below w.heap.size w W') (OwnFrom.and (Own.from (ownsRow_own _ _ _ _ (fun _ => es.length) (fun _ => ivals L)) _) (ownFrom_below (Nat.le_refl _) (Nat.le_refl _))) (fun W' h => ?_) ms _ _ hM ⟨hown, hB⟩
      have e1 := HL.out
      subst e1
      exact ⟨_, results_tmp rfl _ _ _, av, cv, rfl, h.2, ownsRow_base h.1 (by omega)⟩
end Go.Proofs.YtjbfjdijgfhjfaaDoor

namespace Go.Proofs.YtjbfjdijgfhjfaaDoor
open Go.RowKit Go.Shelf

set_option maxRecDepth 100000 in
set_option maxHeartbeats 1000000 in
theorem others_any (a : Option Addr) (cap : Nat) (us : List Nat) (n₀ : Nat) (hf : Fit us) (hl : us.length ≤ 16) (w : World) (hw : IsWords n₀ w a us) (hn₀ : n₀ ≤ w.heap.size) :
    Calls Tryd.prog 22 #[.slice a us.length cap] w fun e w' => e = .returned (.slice (some ⟨w.heap.size, 0, none⟩) us.length us.length) ∧ Below w.heap.size w w' ∧ Row w' w.heap.size 50 (wvals (othL us)) := by
  have hmk := run_make_row' (P := Tryd.prog) 22 50 (.int .u32 0) 4 Tryd.underlying22 info_u32 rfl .i64 .i64 us.length (by omega) (by omega)
  go_enter Tryd.func22, Tryd.ntmps22
  go_wp2
  go_loopw [11] (fun i wr => ∃ (k : Nat) (ds : List Nat), k ≤ us.length ∧ i = .int .i64 k ∧ ds.length = us.length ∧ (∀ j, j < k → wd ds j = andN (wd us j) (bitW j)) ∧ Row wr w.heap.size 50 (wvals ds) ∧ Below w.heap.size w wr) (fun i _ => us.length - (intOf i).toNat)
  case atStart =>
    have h1 := Row.new w 50 (wvals (List.replicate us.length 0))
    rw [← wvals_replicate] at h1
    exact ⟨0, _, Nat.zero_le _, rfl, by simp, fun j h => by omega, h1, (Below.refl _ _).alloc (Nat.le_refl _) _⟩
  case round =>
    clear hmk
    obtain ⟨k, ds, hk, rfl, hdl, hall, rD, hB⟩ := hrel
    by_cases hlt : k < us.length
    · obtain ⟨b, off, rfl, hb, hc⟩ := (hw.below (hB.mono hn₀)).at hlt
      have hck := hc k hlt
      clear hc
      have cK := rD.cell (wvals_at (us := ds) (i := k) (by omega))
      have fK := rD.frozen k
      have hbits := bits_andN32 (wd us k) (bitW k) (hf k) (bitW_lt (by omega))
      go_wp2_with (go_at_call 40; refine (bit_any _ (by omega) _).mono ?_; rintro e w' ⟨rfl, rfl⟩)
      refine ⟨⟨k + 1, ds.set k (andN (wd us k) (bitW k)), by omega, by go_num, by simp [hdl], fun j hj => ?_, by rw [← wvals_set]; exact rD.set k _, hB.setCell (p := ⟨w.heap.size, k, none⟩) (Nat.le_refl _) _⟩, by simp [intOf]; omega⟩
      rw [wd_set (by omega)]
      by_cases e : k = j
      · rw [if_pos e, e]
      · rw [if_neg e]; exact hall j (by omega)
    · obtain rfl : ds = othL us := wd_ext (by rw [othL_len]; exact hdl) fun i hi => by rw [hall i (by omega), wd_othL (by omega)]
      go_wp2
      go_ret
      exact ⟨rfl, hB, rD⟩
end Go.Proofs.YtjbfjdijgfhjfaaDoor

namespace Go.Proofs.YtjbfjdijgfhjfaaDoor
open Go.RowKit Go.Shelf

/-- all elements of an order, each time the least one that may come -/
def sortL (us : List Nat) : List Nat := sortF (underB us) us.length us.length
theorem ahead_below {us ds : List Nat} (hT : Tur us us.length [] ds) : ∀ i, i < us.length → ∀ x, x < us.length → underB us x i = aheadB (othL ds) x i := fun i hi x _ => by
  unfold aheadB; rw [hasB_below hT hi]

set_option maxRecDepth 100000 in
set_option maxHeartbeats 1000000 in
theorem Sorted_bad (n : Int) (a : Option Addr) (cap : Nat) (us : List Nat) (n₀ : Nat) (hf : Fit us) (w : World) (hT : TabAt w) (hw : IsWords n₀ w a us) (hg : 0 < n₀) (hn₀ : n₀ ≤ w.heap.size) (hc : codeOf n us ≠ 0) :
    Calls Tryd.prog 18 #[.agg #[.int .i64 n, .slice a us.length cap]] w fun e w' => e = .returned (.tuple #[.slice none 0 0, .int .i64 (codeOf n us)]) ∧ Below w.heap.size w w' := by
  have r0 := Row.new w 24 [.int .i64 n, .slice a us.length cap]
  have hb0 : Below w.heap.size w (w.alloc (.cells #[.int .i64 n, .slice a us.length cap] 24)) := (Below.refl _ _).alloc (Nat.le_refl _) _
  have hck := Check_any n a cap us n₀ hf _ (hT.below hb0 (by omega)) (hw.below (hb0.mono hn₀)) hg (by simp; omega)
  generalize codeOf n us = c at *
  have hne : (c != 0) = true := by rw [bne_iff_ne]; exact hc
  have Hb := hide hb0
  clear hb0 hc
  go_enter Tryd.func18, Tryd.ntmps18
  go_wp2_with (go_at_call 21; refine hck.mono ?_; rintro e w1 ⟨rfl, hb1⟩)
  go_ret2
  exact ⟨rfl, Hb.out.trans (hb1.mono (by simp))⟩

set_option maxRecDepth 100000 in
set_option maxHeartbeats 1000000 in
theorem Sorted_ok (n : Int) (a : Option Addr) (cap : Nat) (us : List Nat) (n₀ : Nat) (hf : Fit us) (w : World) (hT : TabAt w) (hw : IsWords n₀ w a us) (hg : 0 < n₀) (hn₀ : n₀ ≤ w.heap.size) (hc : codeOf n us = 0) :
    Calls Tryd.prog 18 #[.agg #[.int .i64 n, .slice a us.length cap]] w fun e w' => ∃ av cv, e = .returned (.tuple #[.slice av us.length cv, .int .i64 0]) ∧ Below w.heap.size w w' ∧ w'.ownsRow w.heap.size 3 1 (.slice av us.length cv) us.length (ivals (sortL us)) := by
  obtain ⟨_, h16, hlen, hin, hord⟩ := code_zero hc
  have hl16 : us.length ≤ 16 := by omega
  have r0 := Row.new w 24 [.int .i64 n, .slice a us.length cap]
  have hb0 : Below w.heap.size w (w.alloc (.cells #[.int .i64 n, .slice a us.length cap] 24)) := (Below.refl _ _).alloc (Nat.le_refl _) _
  have hck := Check_any n a cap us n₀ hf _ (hT.below hb0 (by omega)) (hw.below (hb0.mono hn₀)) hg (by simp; omega)
  rw [hc] at hck
  have c00 := r0.cell (i := 0) rfl
  have c01 := r0.cell (i := 1) rfl
  clear hlen hc
  go_enter Tryd.func18, Tryd.ntmps18
  go_wp2_with fail
  refine hck.mono ?_
  rintro e w1 ⟨rfl, hb1⟩
  have q0 := row_below r0 hb1 r0.lt
  have hB1 : Below w.heap.size w w1 := hb0.trans (hb1.mono (by simp))
  have hs1 := hB1.size
  have d00 := q0.cell (i := 0) rfl
  have d01 := q0.cell (i := 1) rfl
  clear hck c00 c01 r0 hb0 hb1
  go_wp2_with fail
  refine (turned_any a cap us n₀ hf hin hl16 w1 (hT.below hB1 (by omega)) (hw.below (hB1.mono hn₀)) hg (by omega)).mono ?_
  rintro e w2 ⟨ds, rfl, hb2, rT, hTur⟩
  have hs2 := hb2.size
  have hB2 : Below w.heap.size w w2 := hB1.trans (hb2.mono hs1)
  have ltT := rT.lt
  have hoth := others_any (some ⟨w1.heap.size, 0, none⟩) us.length ds w2.heap.size hTur.fit (by rw [hTur.len]; exact hl16) w2 (rT.words ltT) (Nat.le_refl _)
  rw [hTur.len] at hoth
  go_wp2_with fail
  refine hoth.mono ?_
  rintro e w3 ⟨rfl, hb3, rC⟩
  have hs3 := hb3.size
  have hB3 : Below w.heap.size w w3 := hB2.trans (hb3.mono (by omega))
  have ltC := rC.lt
  have hel : (othL ds).length = us.length := by rw [othL_len, hTur.len]
  have hso := sorted_any (some ⟨w2.heap.size, 0, none⟩) us.length (othL ds) w3.heap.size (othL_fit hTur.fit) (by rw [hel]; exact hl16) (by rw [hel]; exact acy_congr (ahead_below hTur) (acy_under hord)) w3 (hT.below hB3 (by omega)) (rC.words ltC) (by omega) (Nat.le_refl _)
  rw [hel, ← sortF_congr (ahead_below hTur)] at hso
  clear hoth d00 d01
  go_wp2_with fail
  refine hso.mono ?_
  rintro e w4 ⟨av, cv, rfl, hb4, hown⟩
  go_wp2
  go_ret2
  exact ⟨av, cv, rfl, hB3.trans (hb4.mono (by omega)), ownsRow_base hown (by omega)⟩
end Go.Proofs.YtjbfjdijgfhjfaaDoor

namespace Go.Proofs.YtjbfjdijgfhjfaaDoor
open Go.RowKit Go.Shelf

theorem invG_congr {n : Nat} {s s' : Mat} (h : EqN n s s') : ∀ {l : List Nat}, (∀ x ∈ l, x < n) → EqN n (invG s l) (invG s' l)
  | [], _ => EqN.refl _ _
  | c :: l, hl => fun r hr b hb => by
    have hc := hl c (by simp)
    have ih := invG_congr h (l := l) fun x hx => hl x (by simp [hx])
    have e1 : sl l (fun x => -(s c x) * invG s l x b) = sl l (fun x => -(s' c x) * invG s' l x b) := sl_congr fun x hx => by
      have hx' := hl x (by simp [hx])
      rw [h c hc x hx', ih x hx' b hb]
    simp only [invG]
    rw [e1, h c hc c hc, ih r hr b hb]
theorem IsInts.up {n₀ n₁ : Nat} (hn : n₀ ≤ n₁) {W : World} {a : Option Addr} {l : List Nat} (h : IsInts n₀ W a l) : IsInts n₁ W a l := by
  rcases h with h | ⟨b, off, h1, h2, h3⟩
  · exact .inl h
  · exact .inr ⟨b, off, h1, by omega, h3⟩
theorem sortL_line {us : List Nat} (ho : IsOrd us) : Line us (sortL us) := line_ord ho
theorem mu_tab {us : List Nat} (ho : IsOrd us) : tabL us.length (invG (mat us.length (tabL us.length (zet us))) (sortL us)) = tabL us.length (muM us) :=
  tabL_congr (invG_congr (mat_tabL _) fun x hx => ((sortL_line ho).mem x).1 hx)
theorem ownsRow_cap {W : World} {base : Nat} {t : TypeId} {av : Option Addr} {cv k : Nat} {xs : List Value} (h : W.ownsRow base t 1 (.slice av k cv) k xs) : k ≤ cv := by
  rcases h.2 with ⟨h1, h2⟩ | ⟨g, cap, cur, h1, h2, h3, h4, h5, h6, h7⟩
  · omega
  · cases h1; omega

set_option maxRecDepth 100000 in
set_option maxHeartbeats 1000000 in
theorem Mu_bad (n : Int) (a : Option Addr) (cap : Nat) (us : List Nat) (n₀ : Nat) (hf : Fit us) (w : World) (hT : TabAt w) (hw : IsWords n₀ w a us) (hg : 0 < n₀) (hn₀ : n₀ ≤ w.heap.size) (hc : codeOf n us ≠ 0) :
    Calls Tryd.prog 8 #[.agg #[.int .i64 n, .slice a us.length cap]] w fun e w' => e = mobErr (codeOf n us) ∧ Below w.heap.size w w' := by
  obtain ⟨r0, hb0, hs0⟩ := one_row w 24 (.int .i64 n) (.slice a us.length cap) rfl
  have hck := Sorted_bad n a cap us n₀ hf _ (hT.below hb0 (by omega)) (hw.below (hb0.mono hn₀)) hg (by omega) hc
  unfold mobErr
  generalize codeOf n us = c at *
  have hne : (c != 0) = true := by rw [bne_iff_ne]; exact hc
  have Hb := hide hb0
  clear hb0 hc hs0
  go_enter Tryd.func8, Tryd.ntmps8
  go_wp2_with (go_at_call 18; refine hck.mono ?_; rintro e w1 ⟨rfl, hb1⟩)
  go_ret2
  exact ⟨rfl, Hb.out.trans (hb1.mono (by simp))⟩

/-- what Sorted answers -/
def SortAns (n : Nat) (us : List Nat) (w : World) (e : Ending) (w' : World) : Prop := ∃ av cv, e = .returned (.tuple #[.slice av n cv, .int .i64 0]) ∧ Below w.heap.size w w' ∧ n ≤ cv ∧ IsInts w'.heap.size w' av (sortL us)
theorem sorted_ans (n : Nat) (a : Option Addr) (cap : Nat) (us : List Nat) (hn : n = us.length) (hf : Fit us) (hc : codeOf n us = 0) (w : World) (hT : TabAt w) (hw : IsWords w.heap.size w a us) (hg : 0 < w.heap.size) :
    Calls Tryd.prog 18 #[.agg #[.int .i64 n, .slice a n cap]] w (SortAns n us w) := by
  subst hn
  refine (Sorted_ok us.length a cap us w.heap.size hf w hT hw hg (Nat.le_refl _) hc).mono ?_
  rintro e w' ⟨av, cv, rfl, hb, hown⟩
  exact ⟨av, cv, rfl, hb, ownsRow_cap hown, ownsRow_ints hown⟩

set_option maxRecDepth 100000 in
set_option maxHeartbeats 1000000 in
theorem Mu_ok (n : Nat) (a : Option Addr) (cap : Nat) (us : List Nat) (n₀ : Nat) (hn : n = us.length) (hf : Fit us) (w : World) (hT : TabAt w) (hw : IsWords n₀ w a us) (hg : 0 < n₀) (hn₀ : n₀ ≤ w.heap.size) (hc : codeOf n us = 0) :
    Calls Tryd.prog 8 #[.agg #[.int .i64 n, .slice a n cap]] w fun e w' => ∃ p, e = .returned (.tuple #[.slice (some ⟨p, 0, none⟩) (n * n) (n * n), .int .i64 0]) ∧ w.heap.size ≤ p ∧ Below w.heap.size w w' ∧ Row w' p 2 (bvals (tabL n (muM us))) := by
  have hl : n ≤ 16 := by have := (code_zero hc).2.1; omega
  have ho : IsOrd us := (code_zero hc).2.2.2.2
  have hL := sortL_line ho
  have hlen : (sortL us).length = n := by rw [hL.len, hn]
  obtain ⟨r0, hb0, hs0⟩ := one_row w 24 (.int .i64 n) (.slice a n cap) rfl
  have hck := sorted_ans n a cap us hn hf hc _ (hT.below hb0 (by omega)) ((hw.below (hb0.mono hn₀)).mono (by omega)) (by omega)
  have hz := fun (W : World) (hW : IsWords n₀ W a us) (hs : n₀ ≤ W.heap.size) => zetaN n a cap us n₀ hn hf hl W hW hs
  have hinv := fun p av cv hcap W h1 h2 => inverse_any n p hl (tabL n (zet us)) (tabL_len _ _) av cv (sortL us) hlen hcap (fun x hx => by rw [hn]; exact (hL.mem x).1 hx) hL.nodup W.heap.size W h1 h2 (Nat.le_refl _)
  have hmu : tabL n (invG (mat n (tabL n (zet us))) (sortL us)) = tabL n (muM us) := by subst hn; exact mu_tab ho
  rw [hmu] at hinv
  unfold sqV at hz hinv
  have hw0 := hw.below (hb0.mono hn₀)
  have Hb := hide hb0
  clear hb0 hn hc hL ho
  go_enter Tryd.func8, Tryd.ntmps8
  go_wp2_with fail
  refine hck.mono ?_
  rintro e w1 ⟨av, cv, rfl, hb1, hcap, hil⟩
  have q0 := row_below r0 hb1 r0.lt
  have c0 := q0.cell (i := 0) rfl
  have c1 := q0.cell (i := 1) rfl
  have hB1 := Hb.out.trans (hb1.mono (by simp))
  have hs1 := hB1.size
  clear hck
  go_wp2_with fail
  refine (hz _ (hw.below (hB1.mono hn₀)) (by omega)).mono ?_
  rintro e w2 ⟨p, rfl, hp, hb2, hr⟩
  have hB2 := hB1.trans (hb2.mono hs1)
  have hs2 := hB2.size
  clear hz
  go_wp2_with fail
  refine (hinv _ _ _ hcap _ hr ((IsInts.below hil hb2).up hb2.size)).mono ?_
  rintro e w3 ⟨g, rfl, hg3, hb3, hr3⟩
  have hfr := run_field_at n (some ⟨g, 0, none⟩) (n * n) (n * n)
  go_wp2
  go_ret2
  exact ⟨g, rfl, by omega, hB2.trans (hb3.mono hs2), hr3⟩

end Go.Proofs.YtjbfjdijgfhjfaaDoor

namespace Go.Proofs.YtjbfjdijgfhjfaaDoor
open Go.RowKit Go.Shelf

def longsB (a b : List B64) : Bool := decide (a = b)
theorem longsB_true {a b : List B64} : longsB a b = true ↔ a = b := by unfold longsB; exact decide_eq_true_iff
theorem longsB_false {a b : List B64} : longsB a b = false ↔ a ≠ b := by unfold longsB; exact decide_eq_false_iff_not
theorem longsB_self (a : List B64) : longsB a a = true := longsB_true.2 rfl

end Go.Proofs.YtjbfjdijgfhjfaaDoor

namespace Go.Proofs.YtjbfjdijgfhjfaaDoor
open Go.RowKit Go.Shelf

theorem ownsRow_b {W : World} {base : Nat} {av : Option Addr} {cv k : Nat} {l : List B64} (h : W.ownsRow base 2 1 (.slice av k cv) k (bvals l)) : ZInts W.heap.size W av (tiL l) := by
  have hlen : (tiL l).length = k := by have := h.1; rw [bvals_len] at this; rw [tiL_len]; simpa using this
  rcases h.2 with ⟨h1, h2⟩ | ⟨g, cap, cur, h1, h2, h3, h4, h5, h6, h7⟩
  · exact .inl (List.length_eq_zero_iff.1 (by omega))
  · cases h1
    refine .inr ⟨g, 0, rfl, (Array.getElem?_eq_some_iff.1 h3).1, fun i hi => ?_⟩
    have hx : (cur.toList.take (k * 1))[i]? = (zvals (tiL l))[i]? := by rw [h7]; rfl
    rw [zvals_at hi, List.getElem?_take, if_pos (by omega)] at hx
    simp [World.cell?, h3, ← Array.getElem?_toList, hx]
/-- the first k rows of a table, and j places of the next one -/
def preL (n : Nat) (f : Mat) (k j : Nat) : List B64 := (List.range (k * n + j)).map fun i => f (i / n) (i % n)
theorem preL_len (n : Nat) (f : Mat) (k j : Nat) : (preL n f k j).length = k * n + j := by unfold preL; simp
theorem preL_zero (n : Nat) (f : Mat) : preL n f 0 0 = [] := by unfold preL; simp
theorem preL_full (n : Nat) (f : Mat) : preL n f n 0 = tabL n f := by unfold preL tabL; rw [Nat.add_zero]
theorem preL_next {n : Nat} (f : Mat) (k : Nat) : preL n f k n = preL n f (k + 1) 0 := by unfold preL; rw [Nat.succ_mul, Nat.add_zero]
theorem preL_snoc {n : Nat} (f : Mat) (k : Nat) {j : Nat} (hj : j < n) : preL n f k (j + 1) = preL n f k j ++ [f k j] := by
  unfold preL
  rw [← Nat.add_assoc, List.range_succ, List.map_append]
  simp only [List.map_cons, List.map_nil]
  rw [pair_div hj, pair_mod hj]
/-- the first k of a vector -/
theorem vecL_snoc (f : Nat → B64) (k : Nat) : vecL (k + 1) f = vecL k f ++ [f k] := by unfold vecL; rw [List.range_succ, List.map_append]; rfl
theorem vecL_zero (f : Nat → B64) : vecL 0 f = [] := rfl
theorem toInt_ite (b : Bool) : (if b = true then (1 : B64) else 0).toInt = if b = true then 1 else 0 := by cases b <;> rfl

end Go.Proofs.YtjbfjdijgfhjfaaDoor

namespace Go.Proofs.YtjbfjdijgfhjfaaDoor
open Go.RowKit Go.Shelf

theorem wrap_kindK (x : Int) : IntKind.i64.wrap x = wrap64 x := by rw [IntKind.wrap_i64]; unfold wrap64; rfl
theorem ownsRow_drew {W : World} {base : Nat} {e : TypeId} {size : Nat} {v : Value} {k : Nat} {xs : List Value} (h : W.ownsRow base e size v k xs) : W.drew.ownsRow base e size v k xs := ownsRow_below h (Below.refl _ _).drew
/-- append to a row of one's own, as a step of a region that draws its order -/
theorem step_append_o {P : Program} {ops : Array Oper} {o : Oper} {a : Act} {w : World} {K : Act → World → Prop} {Q : Exit → Act → World → Prop} {E : Prop}
    (hg : o.guard = none) (s x : Operand) (t : TypeId) (hop : o.op = Op.call { callee := Callee.builtin Builtin.append, args := #[s, x], argTypes := #[t, t] })
    (base : Nat) (e : TypeId) (i : TypeInfo) (z : Value) (size bytes : Nat) (h1 : P.underlying t = some (.slice e)) (h2 : P.info? e = some i) (h3 : i.zero = some z) (h4 : i.size = size) (h5 : i.bytes = bytes) (h6 : z.cells.size = size) (h7 : 0 < size)
    (v : Value) (k : Nat) (xs : List Value) (hs : a.eval s = v) (hown : w.ownsRow base e size v k xs)
    (ad : Addr) (m c : Nat) (news : List Value) (hx : a.eval x = .slice (some ad) m c) (hn : news.length = m * size) (hc : ∀ j u, news[j]? = some u → w.cell? (ad.add j) = some u) (h1c : ∀ u ∈ news, u.oneCell' = true)
    (b1 : k + m ≤ maxLen) (b2 : (k + m) * bytes ≤ 140737488355328) (hb : base ≤ w.heap.size)
    (hK : ∀ v' w', w'.ownsRow base e size v' (k + m) (xs ++ news) → w.grownBy w' v.ownBlock → K (a.put o.dst v') w') :
    if Region.wanted o (yielded ops a.tmps) = true then Oper.wp P o a w K Q else E := by
  have hw : Region.wanted o (yielded ops a.tmps) = true := by simp [Region.wanted, hg]
  rw [if_pos hw]
  obtain ⟨v', w', hrun, r1, r2, _⟩ := run_append_own (P := P) w base t o.type e i z size bytes h1 h2 h3 h4 h5 h6 h7 v k xs hown ad m c news hn hc h1c b1 b2 hb
  unfold Oper.wp
  simp [execOp, hop, resolve, invoke, builtin, hs, hx, hrun, Result.andThen]
  exact hK v' w' r1 r2
/-- two lists of one length, place by place -/
def addL (k l : List B64) : List B64 := (List.range k.length).map fun i => bd k i + bd l i
theorem addL_len (k l : List B64) : (addL k l).length = k.length := by unfold addL; simp
theorem addL_mat {n : Nat} {k l : List B64} (hk : k.length = n * n) : EqN n (mat n (addL k l)) (fun a b => mat n k a b + mat n l a b) := fun a ha b hb => by
  unfold mat addL
  rw [bd_range _ (by rw [hk]; exact plc_lt ha hb)]

set_option maxRecDepth 100000 in
set_option maxHeartbeats 4000000 in
theorem added_any (m : Nat) (hm : m ≤ 65536) (ak : Option Addr) (ck : Nat) (k : List B64) (al : Option Addr) (cl : Nat) (l : List B64) (hk : k.length = m) (hl : l.length = m) (n₀ : Nat) (w : World) (hvk : ZInts n₀ w ak (tiL k)) (hvl : ZInts n₀ w al (tiL l)) (hn₀ : n₀ ≤ w.heap.size) :
    Calls Tryd.prog 11 #[.slice ak m ck, .slice al m cl] w fun e w' => ∃ av cv, e = .returned (.slice av m cv) ∧ Below w.heap.size w w' ∧ w'.ownsRow w.heap.size 2 1 (.slice av m cv) m (bvals (addL k l)) := by
  obtain ⟨i0, hi, hz0, hz1, hz2⟩ := info_parts info_i64
  have hfull : addL k l = vecL m (fun i => bd k i + bd l i) := by unfold addL vecL; rw [hk]
  rw [hfull]
  clear hfull
  go_enter Tryd.func11, Tryd.ntmps11
  go_wp2_with fail
  go_loopw [6, 5] (fun i ls wr => ∃ (x : Nat) (av : Option Addr) (cv : Nat), x ≤ m ∧ i = .int .i64 x ∧ ls = .slice av x cv ∧ Below w.heap.size w wr ∧ wr.ownsRow w.heap.size 2 1 (.slice av x cv) x (bvals (vecL x (fun i => bd k i + bd l i)))) (fun i _ _ => m - (intOf i).toNat)
  case atStart => exact ⟨0, none, 0, Nat.zero_le _, rfl, rfl, Below.refl _ _, World.ownsRow_nil ..⟩
  case round =>
    obtain ⟨x, av, cv, hx, rfl, rfl, hB, hown⟩ := hrel
    by_cases hlt : x < m
    · obtain ⟨b1, o1, rfl, hb1, hc1⟩ := hvk.cellsB (i := x) (by omega)
      obtain ⟨b2, o2, rfl, hb2, hc2⟩ := hvl.cellsB (i := x) (by omega)
      have k1 := hc1 x (by omega)
      have k2 := hc2 x (by omega)
      have hBs := hB.size
      have hadd := wrap_add (bd k x) (bd l x)
      have HS := vecL_snoc (fun i => bd k i + bd l i) x
      generalize hs : bd k x + bd l x = s at *
      have HS := hide HS
      have hadd2 := (wrap_kindK _).trans hadd
      generalize (bd k x).toInt = kx at *
      generalize (bd l x).toInt = lx at *
      have hall : ∀ V, Below w.heap.size w V → V.cell? ⟨b1, o1 + x, none⟩ = some (.int .i64 kx) ∧ V.cell? ⟨b2, o2 + x, none⟩ = some (.int .i64 lx) ∧ Below w.heap.size w V := fun V hV =>
        ⟨(hV.cell (p := ⟨b1, o1 + x, none⟩) (by simp; omega)).trans k1, (hV.cell (p := ⟨b2, o2 + x, none⟩) (by simp; omega)).trans k2, hV⟩
      clear hc1 hc2 hs k1 k2 hvk hvl
      generalize vecL x (fun i => bd k i + bd l i) = S at *
      have hownd := ownsRow_drew hown
      go_wp2_with fail
      go_region_held3 (fun V => V.cell? ⟨b1, o1 + x, none⟩ = some (.int .i64 kx) ∧ V.cell? ⟨b2, o2 + x, none⟩ = some (.int .i64 lx) ∧ Below w.heap.size w V) ((go_split_ands; first | exact hall _ hB | exact hall _ hB.drew | exact hall _ (by assumption) | exact hall _ ((hB.drew).alloc hBs _) | exact hall _ hB3 | fail))
        ((refine step_append_o rfl _ _ 33 rfl w.heap.size 2 i0 (.int .i64 0) 1 8 Tryd.underlying33 hi hz0 hz1 hz2 rfl (by decide) (.slice av x cv) x (bvals S) rfl (hownd.alloc _) ⟨wr.heap.size, 0, none⟩ 1 1 [.int .i64 s.toInt] rfl rfl (cell_one_new wr.drew _ _) (fun u hu => by simp at hu; subst hu; rfl) (by unfold maxLen; omega) (by omega) (by simp; omega) ?_; intro v' w3 hown3 hgrow3; obtain ⟨g', cap', rfl⟩ := ownsRow_succ hown3; have hB3 : Below w.heap.size w w3 := ((hB.drew).alloc hBs (.cells #[.int .i64 s.toInt] 2)).grown hgrow3 (by simp; omega) (fun q eq => by apply Nat.le_of_not_lt; intro hql; exact ownBlock_ge hown (b := q) hql eq.symm)))
      go_wp2_with fail
      refine ⟨⟨x + 1, some ⟨g', 0, none⟩, cap', by omega, by go_num, rfl, hB3, ?_⟩, by simp [intOf]; omega⟩
      rw [HS.out, bvals_snoc]
      exact hown3
    · obtain rfl : x = m := by omega
      go_wp2_with fail
      go_ret
      exact ⟨av, cv, rfl, hB, hown⟩
end Go.Proofs.YtjbfjdijgfhjfaaDoor

namespace Go.Proofs.YtjbfjdijgfhjfaaDoor

/-- how many elements are below x -/
def downs (us : List Nat) (x : Nat) : Nat := ((List.range us.length).filter fun z => hasB (wd us z) x).length
theorem flen_le (p q : Nat → Bool) : ∀ l : List Nat, (∀ z ∈ l, p z = true → q z = true) → (l.filter p).length ≤ (l.filter q).length
  | [], _ => Nat.le_refl _
  | x :: l, h => by
    have ih := flen_le p q l fun z hz => h z (List.mem_cons_of_mem _ hz)
    have hx := h x (List.mem_cons_self ..)
    rw [List.filter_cons, List.filter_cons]
    cases hp : p x with
    | true => rw [hx hp]; simp; exact ih
    | false => cases q x <;> simp <;> omega
theorem flen_lt (p q : Nat → Bool) : ∀ l : List Nat, (∀ z ∈ l, p z = true → q z = true) → (∃ y ∈ l, p y = false ∧ q y = true) → (l.filter p).length < (l.filter q).length
  | [], _, h => by obtain ⟨y, hy, _⟩ := h; cases hy
  | x :: l, h, ⟨y, hy, h1, h2⟩ => by
    have hle := flen_le p q l fun z hz => h z (List.mem_cons_of_mem _ hz)
    have hx := h x (List.mem_cons_self ..)
    rw [List.filter_cons, List.filter_cons]
    by_cases e : y = x
    · subst e; rw [h1, h2]; simp; omega
    · have hyl : y ∈ l := by rcases List.mem_cons.1 hy with e' | e'; exact absurd e' e; exact e'
      have ih := flen_lt p q l (fun z hz => h z (List.mem_cons_of_mem _ hz)) ⟨y, hyl, h1, h2⟩
      cases hp : p x with
      | true => rw [hx hp]; simp; exact ih
      | false => cases q x <;> simp <;> omega
theorem downs_lt {us : List Nat} (ho : IsOrd us) {x y : Nat} (hx : x < us.length) (hy : y < us.length) (h : underB us x y = true) : downs us x < downs us y := by
  obtain ⟨hne, hle⟩ := underB_true.1 h
  refine flen_lt _ _ _ (fun z hz hzx => leW_trans ho (List.mem_range.1 hz) hx hy hzx hle) ⟨y, List.mem_range.2 hy, ?_, leW_refl ho hy⟩
  cases hb : hasB (wd us y) x with
  | false => rfl
  | true => exact absurd (leW_anti ho hx hy hle hb) hne
theorem under_trans {us : List Nat} (ho : IsOrd us) {x y z : Nat} (hx : x < us.length) (hy : y < us.length) (hz : z < us.length) (h1 : underB us x y = true) (h2 : underB us y z = true) : underB us x z = true := by
  obtain ⟨n1, l1⟩ := underB_true.1 h1
  obtain ⟨n2, l2⟩ := underB_true.1 h2
  refine underB_true.2 ⟨fun e => ?_, leW_trans ho hx hy hz l1 l2⟩
  subst e
  exact n1 (leW_anti ho hx hy l1 l2)
/-- below x, and not below z alone, there is one that x covers -/
theorem cover_below {us : List Nat} (ho : IsOrd us) : ∀ (m : Nat) {z x : Nat}, z < us.length → x < us.length → underB us z x = true → downs us x - downs us z ≤ m → ∃ c, c < us.length ∧ coverB us c x = true ∧ leW us z c
  | 0, z, x, hz, hx, h, hm => by have := downs_lt ho hz hx h; omega
  | m + 1, z, x, hz, hx, h, hm => by
    by_cases hc : coverB us z x = true
    · exact ⟨z, hz, hc, leW_refl ho hz⟩
    · have : ∃ y, y < us.length ∧ underB us z y = true ∧ underB us y x = true := by
        apply Classical.byContradiction
        intro hno
        exact hc (coverB_true.2 ⟨h, fun y hy hh => hno ⟨y, hy, hh.1, hh.2⟩⟩)
      obtain ⟨y, hy, h1, h2⟩ := this
      have l1 := downs_lt ho hz hy h1
      have l2 := downs_lt ho hy hx h2
      obtain ⟨c, hc1, hc2, hc3⟩ := cover_below ho m hy hx h2 (by omega)
      exact ⟨c, hc1, hc2, leW_trans ho hz hy hc1 (underB_true.1 h1).2 hc3⟩
theorem cover_ex {us : List Nat} (ho : IsOrd us) {z x : Nat} (hz : z < us.length) (hx : x < us.length) (h : underB us z x = true) : ∃ c, c < us.length ∧ coverB us c x = true ∧ leW us z c :=
  cover_below ho _ hz hx h (Nat.le_refl _)
end Go.Proofs.YtjbfjdijgfhjfaaDoor

namespace Go.Proofs.YtjbfjdijgfhjfaaDoor

/-- how many sets of an even (odd) number of the list's elements have which join -/
def evE (js : Nat → Nat → Nat) (n bo : Nat) : Bool → List Nat → Nat → B64
  | true, [] => fun z => one bo z
  | false, [] => fun _ => 0
  | b, p :: l => fun z => evE js n bo b l z + sm n fun y => if js y p = z then evE js n bo (!b) l y else 0
theorem evE_sub (js : Nat → Nat → Nat) (n bo : Nat) : ∀ (l : List Nat) (z : Nat), evE js n bo true l z - evE js n bo false l z = atomE js n bo l z
  | [], z => by simp [evE, atomE]
  | p :: l, z => by
    have ih := evE_sub js n bo l
    have e : atomE js n bo (p :: l) z = atomE js n bo l z - sm n fun y => if js y p = z then atomE js n bo l y else 0 := rfl
    have e1 : evE js n bo true (p :: l) z = evE js n bo true l z + sm n fun y => if js y p = z then evE js n bo false l y else 0 := rfl
    have e2 : evE js n bo false (p :: l) z = evE js n bo false l z + sm n fun y => if js y p = z then evE js n bo true l y else 0 := rfl
    have e3 : (sm n fun y => if js y p = z then atomE js n bo l y else 0) = (sm n fun y => if js y p = z then evE js n bo true l y else 0) + -(sm n fun y => if js y p = z then evE js n bo false l y else 0) := by
      rw [← sm_neg, ← sm_add]
      refine sm_congr fun y _ => ?_
      rw [← ih y]
      split <;> grind
    rw [e, e1, e2, e3, ← ih z]; grind
/-- of the pairs as many as were gone through: what covers the least element, the last ahead -/
def atL (bo : Nat) (L : List (Nat × Nat)) : Nat → List Nat
  | 0 => []
  | k + 1 => if (L.getD k (0, 0)).1 = bo then (L.getD k (0, 0)).2 :: atL bo L k else atL bo L k
theorem mem_atL {bo : Nat} {L : List (Nat × Nat)} {y : Nat} : ∀ k, k ≤ L.length → (y ∈ atL bo L k ↔ ∃ i, i < k ∧ L[i]? = some (bo, y))
  | 0, _ => by simp [atL]
  | k + 1, hk => by
    have ih := mem_atL (bo := bo) (L := L) (y := y) k (by omega)
    have hg : L[k]? = some (L.getD k (0, 0)) := by rw [List.getD_eq_getElem?_getD, List.getElem?_eq_getElem (by omega)]; rfl
    unfold atL
    constructor
    · intro h
      by_cases e : (L.getD k (0, 0)).1 = bo
      · rw [if_pos e] at h
        rcases List.mem_cons.1 h with h | h
        · exact ⟨k, by omega, by rw [hg, ← e, h]⟩
        · obtain ⟨i, hi, h⟩ := ih.1 h; exact ⟨i, by omega, h⟩
      · rw [if_neg e] at h
        obtain ⟨i, hi, h⟩ := ih.1 h; exact ⟨i, by omega, h⟩
    · rintro ⟨i, hi, h⟩
      by_cases ei : i = k
      · subst ei
        rw [hg] at h
        have h' := Option.some.inj h
        rw [h', if_pos rfl]; simp
      · have := ih.2 ⟨i, by omega, h⟩
        split
        · exact List.mem_cons_of_mem _ this
        · exact this
theorem mem_coverL {us : List Nat} {a b : Nat} : ∀ k, (a, b) ∈ coverL us k ↔ a < k ∧ b < us.length ∧ coverB us a b = true
  | 0 => by simp [coverL]
  | k + 1 => by
    have ih := mem_coverL (us := us) (a := a) (b := b) k
    have e : coverL us (k + 1) = coverL us k ++ coverRow us k us.length := rfl
    rw [e, List.mem_append, ih]
    unfold coverRow
    rw [List.mem_map]
    constructor
    · rintro (⟨h1, h2⟩ | ⟨x, hx, h⟩)
      · exact ⟨by omega, h2⟩
      · obtain ⟨h1, h2⟩ := Prod.mk.inj h
        subst h1; subst h2
        rw [List.mem_filter, List.mem_range] at hx
        exact ⟨by omega, hx⟩
    · rintro ⟨h1, h2, h3⟩
      by_cases ea : a < k
      · exact .inl ⟨ea, h2, h3⟩
      · obtain rfl : a = k := by omega
        exact .inr ⟨b, by rw [List.mem_filter, List.mem_range]; exact ⟨h2, h3⟩, rfl⟩
/-- **Rota, by what covers the least element** -/
theorem atoms_all {us : List Nat} (ho : IsOrd us) {js ms : Nat → Nat → Nat} {bo tp : Nat} (L : Lat us.length (leW us) js ms bo tp) {y : Nat} (hy : y < us.length) : evE js us.length bo true (atL bo (coverL us us.length) (coverL us us.length).length) y - evE js us.length bo false (atL bo (coverL us us.length) (coverL us us.length).length) y = muM us bo y := by
  rw [evE_sub]
  have hm : ∀ p, p ∈ atL bo (coverL us us.length) (coverL us us.length).length ↔ p < us.length ∧ coverB us bo p = true := fun p => by
    rw [mem_atL _ (Nat.le_refl _)]
    constructor
    · rintro ⟨i, hi, h⟩
      have := (mem_coverL us.length).1 (List.mem_of_getElem? h)
      exact this.2
    · intro h
      obtain ⟨i, hi⟩ := List.mem_iff_getElem?.1 ((mem_coverL us.length).2 ⟨L.blt, h⟩)
      exact ⟨i, (List.getElem?_eq_some_iff.1 hi).1, hi⟩
  refine atoms ho L (fun p hp => ?_) (fun z hz hne => ?_) hy
  · obtain ⟨h1, h2⟩ := (hm p).1 hp
    exact ⟨h1, fun e => (underB_true.1 (coverB_true.1 h2).1).1 e.symm⟩
  · have hu : underB us bo z = true := underB_true.2 ⟨Ne.symm hne, (L.ble hz)⟩
    have key : ∀ m z, z < us.length → underB us bo z = true → cntB us z ≤ m → ∃ p, p < us.length ∧ coverB us bo p = true ∧ leW us p z := by
      intro m
      induction m with
      | zero =>
        intro z hz hu hm
        have := cntB_pos ho hz; omega
      | succ m ih =>
        intro z hz hu hm
        by_cases hc : coverB us bo z = true
        · exact ⟨z, hz, hc, L.refl hz⟩
        · have : ∃ x, x < us.length ∧ underB us bo x = true ∧ underB us x z = true := by
            apply Classical.byContradiction
            intro hno
            exact hc (coverB_true.2 ⟨hu, fun x hx h => hno ⟨x, hx, h.1, h.2⟩⟩)
          obtain ⟨x, hx, h1, h2⟩ := this
          obtain ⟨p, hp, h3, h4⟩ := ih x hx h1 (by have := cntB_lt ho hx hz h2; omega)
          exact ⟨p, hp, h3, L.trans hp hx hz h4 ((underB_true.1 h2).2)⟩
    obtain ⟨p, hp, h3, h4⟩ := key _ z hz hu (Nat.le_refl _)
    exact ⟨p, (hm p).2 ⟨hp, h3⟩, h4⟩
end Go.Proofs.YtjbfjdijgfhjfaaDoor

namespace Go.Proofs.YtjbfjdijgfhjfaaDoor
open Go.RowKit Go.Shelf

/-- pairs as values, two cells each -/
def pvals (l : List (Nat × Nat)) : List Value := l.flatMap fun p => [.int .i64 ((p.1 : Nat) : Int), .int .i64 ((p.2 : Nat) : Int)]
theorem pvals_snoc (l : List (Nat × Nat)) (a b : Nat) : pvals (l ++ [(a, b)]) = pvals l ++ [.int .i64 ((a : Nat) : Int), .int .i64 ((b : Nat) : Int)] := by
  unfold pvals; simp
theorem info_pair : (Tryd.prog.info? 43).map (fun i => (i.zero, i.size, i.bytes)) = some (some (.agg #[.int .i64 0, .int .i64 0]), 2, 16) := by kernel_rfl
/-- a slice over pairs -/
def IsPairs (n₀ : Nat) (W : World) (a : Option Addr) (l : List (Nat × Nat)) : Prop :=
  l = [] ∨ ∃ b, a = some ⟨b, 0, none⟩ ∧ b < n₀ ∧ ∀ i (h : i < l.length), W.cell? ⟨b, i * 2, none⟩ = some (.int .i64 ((l[i].1 : Nat) : Int)) ∧ W.cell? ⟨b, i * 2 + 1, none⟩ = some (.int .i64 ((l[i].2 : Nat) : Int))
theorem pvals_len (l : List (Nat × Nat)) : (pvals l).length = 2 * l.length := by
  induction l with
  | nil => rfl
  | cons p l ih => unfold pvals at *; rw [List.flatMap_cons, List.length_append, ih]; simp; omega
theorem pvals_at : ∀ (l : List (Nat × Nat)) (i : Nat) (h : i < l.length), (pvals l)[2 * i]? = some (.int .i64 ((l[i].1 : Nat) : Int)) ∧ (pvals l)[2 * i + 1]? = some (.int .i64 ((l[i].2 : Nat) : Int))
  | [], i, h => by simp at h
  | p :: l, 0, _ => by unfold pvals; simp
  | p :: l, i + 1, h => by
    have ih := pvals_at l i (by simpa using h)
    have e : pvals (p :: l) = [.int .i64 ((p.1 : Nat) : Int), .int .i64 ((p.2 : Nat) : Int)] ++ pvals l := by unfold pvals; simp
    have h1 : 2 * (i + 1) = 2 * i + 2 := by omega
    have h2 : 2 * (i + 1) + 1 = (2 * i + 1) + 2 := by omega
    rw [e, h1]
    constructor
    · rw [List.getElem?_append_right (by simp)]; simpa using ih.1
    · rw [List.getElem?_append_right (by simp)]; simpa using ih.2
theorem ownsRow_pairs {W : World} {base : Nat} {av : Option Addr} {k cv : Nat} {l : List (Nat × Nat)} (h : W.ownsRow base 43 2 (.slice av k cv) k (pvals l)) : IsPairs W.heap.size W av l := by
  have hlen : l.length = k := by have := h.1; rw [pvals_len] at this; omega
  rcases h.2 with ⟨h1, h2⟩ | ⟨g, cap, cur, h1, h2, h3, h4, h5, h6, h7⟩
  · exact .inl (List.length_eq_zero_iff.1 (by omega))
  · cases h1
    refine .inr ⟨g, rfl, (Array.getElem?_eq_some_iff.1 h3).1, fun i hi => ?_⟩
    have hp := pvals_at l i hi
    rw [← h7, List.getElem?_take, List.getElem?_take, if_pos (by omega), if_pos (by omega)] at hp
    rw [Nat.mul_comm 2 i] at hp
    simp only [World.cell?, h3]
    simp [← Array.getElem?_toList, hp]

theorem IsPairs.below {n₀ : Nat} {A B : World} {a : Option Addr} {l : List (Nat × Nat)} (h : IsPairs n₀ A a l) (hb : Below n₀ A B) : IsPairs n₀ B a l := by
  rcases h with h | ⟨b, h1, h2, h3⟩
  · exact .inl h
  · exact .inr ⟨b, h1, h2, fun i hi => ⟨(hb.cell (p := ⟨b, i * 2, none⟩) h2).trans (h3 i hi).1, (hb.cell (p := ⟨b, i * 2 + 1, none⟩) h2).trans (h3 i hi).2⟩⟩
theorem IsPairs.at {n₀ : Nat} {A : World} {a : Option Addr} {l : List (Nat × Nat)} (h : IsPairs n₀ A a l) {i : Nat} (hi : i < l.length) :
    ∃ b, a = some ⟨b, 0, none⟩ ∧ b < n₀ ∧ A.cell? ⟨b, i * 2, none⟩ = some (.int .i64 ((l[i].1 : Nat) : Int)) ∧ A.cell? ⟨b, i * 2 + 1, none⟩ = some (.int .i64 ((l[i].2 : Nat) : Int)) := by
  rcases h with h | ⟨b, h1, h2, h3⟩
  · subst h; simp at hi
  · exact ⟨b, h1, h2, (h3 i hi).1, (h3 i hi).2⟩
end Go.Proofs.YtjbfjdijgfhjfaaDoor

namespace Go.Proofs.YtjbfjdijgfhjfaaDoor
open Go.RowKit Go.Shelf
attribute [local go_sem] Oper.semAt_some

set_option maxRecDepth 100000 in
set_option maxHeartbeats 1000000 in
theorem Covers_bad (n : Int) (a : Option Addr) (cap : Nat) (us : List Nat) (n₀ : Nat) (hf : Fit us) (w : World) (hT : TabAt w) (hw : IsWords n₀ w a us) (hg : 0 < n₀) (hn₀ : n₀ ≤ w.heap.size) (hc : codeOf n us ≠ 0) :
    Calls Tryd.prog 10 #[.agg #[.int .i64 n, .slice a us.length cap]] w fun e w' => e = .returned (.tuple #[.slice none 0 0, .int .i64 (codeOf n us)]) ∧ Below w.heap.size w w' := by
  have hfn := wide_fn
  have hdep := wide_depth
  have r0 := Row.new w 24 [.int .i64 n, .slice a us.length cap]
  have hb0 : Below w.heap.size w (w.alloc (.cells #[.int .i64 n, .slice a us.length cap] 24)) := (Below.refl _ _).alloc (Nat.le_refl _) _
  have hck := Check_any n a cap us n₀ hf _ (hT.below hb0 (by omega)) (hw.below (hb0.mono hn₀)) hg (by simp; omega)
  generalize codeOf n us = c at *
  have hne : (c != 0) = true := by rw [bne_iff_ne]; exact hc
  have Hb := hide hb0
  clear hb0 hc
  refine (callsIn_wide (n := 6)).1 ?_
  refine callsIn_of_wp_marks Tryd.func10 rfl trivial ?_ rfl
  simp only [Tryd.ntmps10, List.size_toArray, List.length_cons, List.length_nil, Nat.reduceAdd, Nat.reduceSub, Array.replicate_succ, Array.replicate_zero, List.push_toArray, List.append_toArray, List.nil_append, List.cons_append]
  gi_wp2_with (gi_at_call 21; refine (callsIn_wide.2 hck).mono ?_; rintro e w1 ⟨rfl, hb1⟩)
  refine leaves_marks (G := fun _ W => Below w.heap.size w W) (ownFrom_below (Nat.le_refl _) (Nat.le_refl _)) (fun W' h => ?_) [] 0 _ trivial (Hb.out.trans (hb1.mono (by simp)))
  exact ⟨_, results_tmp2 rfl _ _ _, rfl, h⟩

set_option maxRecDepth 100000 in
set_option maxHeartbeats 2000000 in
theorem Covers_ok (n : Int) (a : Option Addr) (cap : Nat) (us : List Nat) (n₀ : Nat) (hf : Fit us) (w : World) (hT : TabAt w) (hw : IsWords n₀ w a us) (hg : 0 < n₀) (hn₀ : n₀ ≤ w.heap.size) (hc : codeOf n us = 0) :
    Calls Tryd.prog 10 #[.agg #[.int .i64 n, .slice a us.length cap]] w fun e w' => ∃ av cv, e = .returned (.tuple #[.slice av (coverL us us.length).length cv, .int .i64 0]) ∧ Below w.heap.size w w' ∧ w'.ownsRow w.heap.size 43 2 (.slice av (coverL us us.length).length cv) (coverL us us.length).length (pvals (coverL us us.length)) := by
  have hfn := wide_fn
  have hdep := wide_depth
  obtain ⟨h0, h16, hlen, hin, hord⟩ := code_zero hc
  have r0 := Row.new w 24 [.int .i64 n, .slice a us.length cap]
  have hb0 : Below w.heap.size w (w.alloc (.cells #[.int .i64 n, .slice a us.length cap] 24)) := (Below.refl _ _).alloc (Nat.le_refl _) _
  have hT1 := hT.below hb0 (by omega)
  have hw1 := hw.below (hb0.mono hn₀)
  have hck := Check_any n a cap us n₀ hf _ hT1 hw1 hg (by simp; omega)
  rw [hc] at hck
  have hl16 : us.length ≤ 16 := by omega
  have c00 := r0.cell (i := 0) rfl
  have c01 := r0.cell (i := 1) rfl
  clear h0 hlen hord hc
  refine (callsIn_wide (n := 6)).1 ?_
  refine callsIn_of_wp_marks Tryd.func10 rfl trivial ?_ rfl
  simp only [Tryd.ntmps10, List.size_toArray, List.length_cons, List.length_nil, Nat.reduceAdd, Nat.reduceSub, Array.replicate_succ, Array.replicate_zero, List.push_toArray, List.append_toArray, List.nil_append, List.cons_append]
  gi_wp2_with (gi_at_call 21; refine (callsIn_wide.2 hck).mono ?_; rintro e w1 ⟨rfl, hb1⟩; have q0 := Row.below r0 hb1 r0.lt; have d00 := q0.cell (i := 0) rfl; have d01 := q0.cell (i := 1) rfl)
  have hB1 : Below w.heap.size w w1 := hb0.trans (hb1.mono (by simp))
  have hs1 := hB1.size
  have lt0 := q0.lt
  have hT1' : TabAt w1 := hT.below hB1 (by omega)
  have hw1' : IsWords n₀ w1 a us := hw.below (hB1.mono hn₀)
  clear hck hT1 hw1 r0 c00 c01 hb0 hb1
  refine (callsIn_wide.2 (others_any a cap us n₀ hf hl16 w1 hw1' (by omega))).mono ?_
  rintro e w2 ⟨rfl, hb2, rA⟩
  have hs2 := hb2.size
  have p0 := Row.below q0 hb2 lt0
  have hB2 : Below w.heap.size w w2 := hB1.trans (hb2.mono hs1)
  have e00 := p0.cell (i := 0) rfl
  have e01 := p0.cell (i := 1) rfl
  have ltA := rA.lt
  have lt02 := p0.lt
  clear d00 d01 q0
  gi_wp2_with fail
  obtain ⟨W3, hW3⟩ : ∃ W3, w2.alloc (.cells #[.slice (some ⟨w1.heap.size, 0, none⟩) us.length us.length] 22) = W3 := ⟨_, rfl⟩
  have hs3 : W3.heap.size = w2.heap.size + 1 := by rw [← hW3]; simp
  have hb3 : Below w2.heap.size w2 W3 := by rw [← hW3]; exact (Below.refl _ _).alloc (Nat.le_refl _) _
  have bA : Boxed W3 w2.heap.size 22 (.slice (some ⟨w1.heap.size, 0, none⟩) us.length us.length) := by rw [← hW3]; exact Boxed.new w2 _ _
  rw [hW3]
  have h3a : w2.heap.size + 1 ≤ W3.heap.size := by omega
  have h3b : W3.heap.size ≤ w2.heap.size + 1 := by omega
  clear hW3 hs3
  have hB3 : Below w.heap.size w W3 := hB2.trans (hb3.mono (by omega))
  refine (callsIn_wide.2 (turned_any a cap us n₀ hf hin hl16 W3 (hT.below hB3 (by omega)) (hw.below (hB3.mono hn₀)) hg (by omega))).mono ?_
  rintro e w4 ⟨ds, rfl, hb4, rT, hTur⟩
  have hs4 := hb4.size
  have hB4 : Below w.heap.size w w4 := hB3.trans (hb4.mono (by omega))
  have rA4 : Row w4 w1.heap.size 50 (wvals (othL us)) := Row.below (Row.below rA hb3 ltA) hb4 (by omega)
  have bA4 : Boxed w4 w2.heap.size 22 (.slice (some ⟨w1.heap.size, 0, none⟩) us.length us.length) := (hb4.block _ bA.lt).trans bA
  have ltT := rT.lt
  have hoth := others_any (some ⟨W3.heap.size, 0, none⟩) us.length ds w4.heap.size hTur.fit (by rw [hTur.len]; exact hl16) w4 (rT.words ltT) (Nat.le_refl _)
  rw [hTur.len] at hoth
  clear e00 e01 rA bA
  gi_wp2_with fail
  refine (callsIn_wide.2 hoth).mono ?_
  rintro e w5 ⟨rfl, hb5, rC⟩
  have hs5 := hb5.size
  have hB5 : Below w.heap.size w w5 := hB4.trans (hb5.mono (by omega))
  have rA5 := Row.below rA4 hb5 rA4.lt
  have bA5 : Boxed w5 w2.heap.size 22 (.slice (some ⟨w1.heap.size, 0, none⟩) us.length us.length) := (hb5.block _ bA4.lt).trans bA4
  have cA5 := bA5.cell
  have ltC := rC.lt
  have ltA5 := bA5.lt
  clear hoth
  gi_wp2
  refine wpIn_loop (fun ac W => ∃ (k : Nat) (ms : List Deferred) (L : List (Nat × Nat)) (av : Option Addr) (cv : Nat) (u8 u9 u25 u26 u27 u28 u29 u30 u31 u32 u33 u34 u35 u36 u37 u38 u39 u40 u41 u42 u43 u44 u45 u46 u47 u48 u49 : Value), ac = { tmps := #[.agg #[.int .i64 n, .slice a us.length cap], .pointer (some ⟨w.heap.size, 0, none⟩), .slice none 0 0, .int .i64 0, .int .i64 0, .pointer (some ⟨w2.heap.size, 0, none⟩), .pointer (some ⟨w5.heap.size, 0, none⟩), .pointer (some ⟨w5.heap.size + 1, 0, none⟩), u8, u9, .agg #[.int .i64 n, .slice a us.length cap], .int .i64 0, .int .i64 0, .bool false, undef, .pointer (some ⟨w.heap.size, 1, none⟩), .slice a us.length cap, .slice (some ⟨w1.heap.size, 0, none⟩) us.length us.length, .pointer (some ⟨w.heap.size, 1, none⟩), .slice a us.length cap, .slice (some ⟨W3.heap.size, 0, none⟩) us.length us.length, .slice (some ⟨w4.heap.size, 0, none⟩) us.length us.length, .slice (some ⟨w1.heap.size, 0, none⟩) us.length us.length, .int .i64 us.length, .int .i64 (k : Nat), u25, u26, u27, u28, u29, u30, u31, u32, u33, u34, u35, u36, u37, u38, u39, u40, u41, u42, u43, u44, u45, u46, u47, u48, u49, undef], defers := ms } ∧ k ≤ us.length ∧ L = coverL us k ∧ (Row W w1.heap.size 50 (wvals (othL us)) ∧ Boxed W w2.heap.size 22 (.slice (some ⟨w1.heap.size, 0, none⟩) us.length us.length) ∧ Row W w4.heap.size 50 (wvals (othL ds)) ∧ Boxed W w5.heap.size 22 (.slice (some ⟨w4.heap.size, 0, none⟩) us.length us.length)) ∧ Boxed W (w5.heap.size + 1) 39 (.slice av L.length cv) ∧ W.ownsRow (w5.heap.size + 1 + 1) 43 2 (.slice av L.length cv) L.length (pvals L) ∧ Below w.heap.size w W ∧ Marks w.heap.size W W.heap.size ms) (fun ac _ => us.length - (intOf (ac.tmps.getD 24 undef)).toNat) ?start ?round
  case start =>
    have h2 := Boxed.new (w5.alloc (.cells #[.slice (some ⟨w4.heap.size, 0, none⟩) us.length us.length] 22)) 39 (.slice none 0 0)
    rw [World.size_alloc] at h2
    exact ⟨0, [], [], none, 0, _, _, _, _, _, _, _, _, _, _, _, _, _, _, _, _, _, _, _, _, _, _, _, _, _, _, _, rfl, Nat.zero_le _, rfl, ⟨(rA5.alloc _).alloc _, (bA5.alloc _).alloc _, (rC.alloc _).alloc _, (Boxed.new w5 _ _).alloc _⟩, h2, World.ownsRow_nil .., (hB5.alloc (by omega) _).alloc (by simp; omega) _, trivial⟩
  case round =>
    have hltC : w4.heap.size < w5.heap.size := ltC
    have hltAb : w2.heap.size < w4.heap.size := bA4.lt
    have hltA : w1.heap.size < w2.heap.size := ltA
    obtain ⟨i0, hi, hz0, hz1, hz2⟩ := info_parts info_pair
    clear cA5 rA5 bA5 rA4 bA4 rC rT hb5 hb4 hb3 hb2 p0 hT1' hw1' hB1 hB2 hB3 hB4 hB5
    rintro _ W ⟨k, ms, L, av, cv, u8, u9, u25, u26, u27, u28, u29, u30, u31, u32, u33, u34, u35, u36, u37, u38, u39, u40, u41, u42, u43, u44, u45, u46, u47, u48, u49, rfl, hk, hL, ⟨rA, bA, rC, bC⟩, bL, hown, hB, hM⟩
    have HL := hide hL
    clear hL
    have cA := bA.cell
    have cL := bL.cell
    have hsz := hB.size
    have hltL := bL.lt
    have hltA2 := bA.lt
    have hltA1 := rA.lt
    by_cases hlt : k < us.length
    · have cAk := rA.cell (wvals_at (us := othL us) (i := k) (by rw [othL_len]; exact hlt))
      gi_wp2_with (gi_at_call 24; refine (callsIn_wide.2 (bitsOf_any (wd (othL us) k) _)).mono ?_; rintro e w' ⟨rfl, rfl⟩)
      obtain ⟨W2, hW2⟩ : ∃ W2, (W.alloc (.cells #[.int .i64 (k : Nat)] 3)).alloc (.cells #[.int .u32 (wd (othL us) k : Nat)] 50) = W2 := ⟨_, rfl⟩
      rw [hW2]
      obtain ⟨bI, bX, hs2, hb2, hk2, hbx⟩ := two_boxes W _ _ _ _ hW2
      have rA2 : Row W2 w1.heap.size 50 (wvals (othL us)) := by rw [← hW2]; exact (rA.alloc _).alloc _
      have rC2 : Row W2 w4.heap.size 50 (wvals (othL ds)) := by rw [← hW2]; exact (rC.alloc _).alloc _
      have hown2 : W2.ownsRow (w5.heap.size + 1 + 1) 43 2 (.slice av L.length cv) L.length (pvals L) := by rw [← hW2]; exact (hown.alloc _).alloc _
      clear hW2
      have hT2 : TabAt W2 := (hT.below hB (by omega)).below hb2 (by omega)
      have hfk : wd (othL us) k < 4294967296 := othL_fit hf k
      refine wpIn_rangeFunc_ownF rfl (by omega) (gf := 41) (lb := #[.pointer (some ⟨W.heap.size + 1, 0, none⟩)]) rfl trivial (enters_of Tryd.func41 (by kernel_rfl) rfl)
        (bitsOf_stops 5 (W.heap.size + 1) w.heap.size _ hfk W2 (by omega) (by omega) bX.cell hT2 (by omega)) belowK_t (belowK_b (by omega)) (Below.refl _ _) (fun _ => rfl)
        (fun pre W' => ∃ (av : Option Addr) (cv : Nat), ((Row W' w1.heap.size 50 (wvals (othL us)) ∧ Boxed W' w2.heap.size 22 (.slice (some ⟨w1.heap.size, 0, none⟩) us.length us.length)) ∧ (Row W' w4.heap.size 50 (wvals (othL ds)) ∧ Boxed W' w5.heap.size 22 (.slice (some ⟨w4.heap.size, 0, none⟩) us.length us.length))) ∧ ((Boxed W' (w5.heap.size + 1) 39 (.slice av (L ++ coverPart us k (pre.map (·.1))).length cv) ∧ W'.ownsRow (w5.heap.size + 1 + 1) 43 2 (.slice av (L ++ coverPart us k (pre.map (·.1))).length cv) (L ++ coverPart us k (pre.map (·.1))).length (pvals (L ++ coverPart us k (pre.map (·.1))))) ∧ (Boxed W' W.heap.size 3 (.int .i64 (k : Nat)) ∧ (Below w.heap.size w W' ∧ Marks w.heap.size W' W.heap.size ms))))
        (fun _ _ _ => False)
        (ownFrom_ex fun av => ownFrom_ex fun cv => OwnFrom.and (OwnFrom.and (OwnFrom.and (Own.from (row_own _ _ _) _) (Own.from (boxed_own _ _ _) _)) (OwnFrom.and (Own.from (row_own _ _ _) _) (Own.from (boxed_own _ _ _) _)))
          (OwnFrom.and (OwnFrom.and (Own.from (boxed_own (w5.heap.size + 1) 39 (fun pre : List (El (wd (othL us) k)) => Value.slice av (L ++ coverPart us k (pre.map (·.1))).length cv)) _) (fun s X Y row hs hg hr => ownsRow_own (w5.heap.size + 1 + 1) 43 2 (.slice av (L ++ coverPart us k (s.map (·.1))).length cv) (fun _ : Unit => (L ++ coverPart us k (s.map (·.1))).length) (fun _ => pvals (L ++ coverPart us k (s.map (·.1)))) () X Y row hs hg (fun r e => (hr r e).2)))
            (OwnFrom.and (Own.from (boxed_own _ _ _) _) (OwnFrom.and (ownFrom_below (Nat.le_refl _) (by omega)) (marks_own (by omega) ms)))))
        (fun _ _ _ _ _ hs _ _ => hs)
        ⟨av, cv, ⟨⟨rA2, hbx _ _ _ bA⟩, rC2, hbx _ _ _ bC⟩, ⟨by simpa [coverPart] using hbx _ _ _ bL, by simpa [coverPart] using hown2⟩, bI, hB.trans (hb2.mono hsz), hM.others hk2⟩
        (fun y => { tmps := #[.agg #[.int .i64 n, .slice a us.length cap], .pointer (some ⟨w.heap.size, 0, none⟩), .slice none 0 0, .int .i64 0, .int .i64 0, .pointer (some ⟨w2.heap.size, 0, none⟩), .pointer (some ⟨w5.heap.size, 0, none⟩), .pointer (some ⟨w5.heap.size + 1, 0, none⟩), .pointer (some ⟨W.heap.size, 0, none⟩), .int .i64 (y.1 : Nat), .agg #[.int .i64 n, .slice a us.length cap], .int .i64 0, .int .i64 0, .bool false, undef, .pointer (some ⟨w.heap.size, 1, none⟩), .slice a us.length cap, .slice (some ⟨w1.heap.size, 0, none⟩) us.length us.length, .pointer (some ⟨w.heap.size, 1, none⟩), .slice a us.length cap, .slice (some ⟨W3.heap.size, 0, none⟩) us.length us.length, .slice (some ⟨w4.heap.size, 0, none⟩) us.length us.length, .slice (some ⟨w1.heap.size, 0, none⟩) us.length us.length, .int .i64 us.length, .int .i64 (k : Nat), .bool true, .int .i64 (k : Nat), .slice (some ⟨w1.heap.size, 0, none⟩) us.length us.length, .int .i64 (k : Nat), .pointer (some ⟨w1.heap.size, k, none⟩), .int .u32 (wd (othL us) k : Nat), .func (.func 41) #[] #[.pointer (some ⟨W.heap.size + 1, 0, none⟩)], .int .i64 (y.1 : Nat), u33, u34, u35, u36, u37, u38, u39, u40, u41, u42, u43, u44, u45, u46, u47, u48, u49, undef], defers := [] }) ?assign ?body ?done ?stop
      case assign =>
        intro l x W' K hK
        gi_wp2
        exact hK
      case body =>
        rintro l pre y W' ⟨av', cv', ⟨⟨rA', bA'⟩, rC', bC'⟩, ⟨bL', hown'⟩, bI', hB', hM'⟩ hpl
        have hu : underB us k y.1 = true := by rw [← hasB_above hf hlt]; exact y.2
        have hyn : y.1 < us.length := under_lt hf hin hlt hu
        have hpart := coverPart_snoc us k (pre.map (·.1)) y.1
        have hlp : (L ++ coverPart us k (pre.map (·.1))).length ≤ 512 := by
          have h1 := coverL_len us k
          have h2 := coverPart_len us k (pre.map (·.1))
          have h3 : k * us.length ≤ 16 * 16 := Nat.mul_le_mul (by omega) hl16
          have h4 := elems_len (x := wd (othL us) k) (n := us.length) (by omega) (fun j hj => under_lt hf hin hlt (by rw [← hasB_above hf hlt]; exact hj))
          rw [List.length_append, HL.out]; simp only [List.length_map] at h2; omega
        obtain ⟨Lp, hLp⟩ : ∃ Lp, L ++ coverPart us k (pre.map (·.1)) = Lp := ⟨_, rfl⟩
        rw [hLp] at bL' hown' hlp
        have HP := hide hLp
        have HS := hide hpart
        clear hLp hpart
        have cA' := bA'.cell
        have cC' := bC'.cell
        have cI' := bI'.cell
        have cL' := bL'.cell
        have cAk' := rA'.cell (wvals_at (us := othL us) (i := k) (by rw [othL_len]; exact hlt))
        have cCy := rC'.cell (wvals_at (us := othL ds) (i := y.1) (by rw [othL_len, hTur.len]; exact hyn))
        have hbits := bits_and32 (wd (othL us) k) (wd (othL ds) y.1) hfk (othL_fit hTur.fit _)
        have hciff := cover_iff hf hin hTur hlt hu
        have ltI := bI'.lt
        have ltL' := bL'.lt
        cases hcb : coverB us k y.1 with
        | false =>
          have hne : andW (wd (othL us) k) (wd (othL ds) y.1) ≠ 0 := fun e => by rw [hciff.1 e] at hcb; cases hcb
          have hd : (((andW (wd (othL us) k) (wd (othL ds) y.1) : Nat) : Int) == 0) = false := by rw [beq_eq_false_iff_ne]; omega
          have HC := hide hcb
          clear hcb hne hciff hu
          gi_wp2
          refine region_quietR l rfl (by kernel_rfl) (by kernel_rfl) (by kernel_rfl) ?_
          repeat (gi_big_quiet_step (fail))
          refine wpQuietIn_nil ?_
          intro _ hw'
          obtain ⟨nq, hw''⟩ := hw'
          subst hw''
          gi_wp2
          have e1 : L ++ coverPart us k ((pre ++ [y]).map (·.1)) = Lp := by rw [List.map_append]; show L ++ coverPart us k (pre.map (·.1) ++ [y.1]) = Lp; rw [HS.out, HC.out, ← HP.out]; simp
          exact ⟨keeps_drewN _ _, below_drewN (Below.refl _ _) _, av', cv', ⟨⟨rA', bA'⟩, rC', bC'⟩, ⟨by rw [e1]; exact bL', by rw [e1]; exact hown'⟩, bI', below_drewN hB' nq, hM'.others (keeps_drewN _ nq)⟩
        | true =>
          have hz := hciff.2 hcb
          rw [hz] at hbits
          have HC := hide hcb
          clear hcb hz hciff hu
          gi_wp2
          refine region_quietR l rfl (by kernel_rfl) (by kernel_rfl) (by kernel_rfl) ?_
          repeat (gi_big_quiet_step (fail))
          refine wpQuietIn_nil ?_
          intro _ hw'
          obtain ⟨nq, hw''⟩ := hw'
          subst hw''
          have rAv : Row (W'.drewN nq) w1.heap.size 50 (wvals (othL us)) := rA'
          have rCv : Row (W'.drewN nq) w4.heap.size 50 (wvals (othL ds)) := rC'
          have bAv : Boxed (W'.drewN nq) w2.heap.size 22 (.slice (some ⟨w1.heap.size, 0, none⟩) us.length us.length) := bA'
          have bCv : Boxed (W'.drewN nq) w5.heap.size 22 (.slice (some ⟨w4.heap.size, 0, none⟩) us.length us.length) := bC'
          have bLv : Boxed (W'.drewN nq) (w5.heap.size + 1) 39 (.slice av' Lp.length cv') := bL'
          have bIv : Boxed (W'.drewN nq) W.heap.size 3 (.int .i64 (k : Nat)) := bI'
          have hownv : (W'.drewN nq).ownsRow (w5.heap.size + 1 + 1) 43 2 (.slice av' Lp.length cv') Lp.length (pvals Lp) := hown'
          have hBv := below_drewN hB' nq
          have hMv := hM'.others (keeps_drewN _ nq)
          have hKv := keeps_drewN W' nq
          have hBW := below_drewN (Below.refl w.heap.size W') nq
          clear rA' rC' bA' bC' bL' bI' hown' hB' hM' cA' cC' cI' cL' cAk' cCy
          generalize W'.drewN nq = V at *
          have cI' := bIv.cell
          have cL' := bLv.cell
          have hVs := hBv.size
          have hVL := bLv.lt
          have hneL := ownBlock_ge hownv (b := w5.heap.size + 1) (by omega)
          gi_wp2_with (gi_at_builtin; refine wpListIn_append_own _ rfl _ _ 39 rfl (w5.heap.size + 1 + 1) 43 i0 (.agg #[.int .i64 0, .int .i64 0]) 2 16 Tryd.underlying39 hi hz0 hz1 hz2 rfl (by decide) _ _ _ rfl (hownv.alloc _) ⟨V.heap.size, 0, none⟩ 1 1 [.int .i64 (k : Nat), .int .i64 (y.1 : Nat)] rfl rfl (cell_two_new _ _ _ _) (fun x hx => by simp at hx; rcases hx with rfl | rfl <;> rfl) (by unfold maxLen; omega) (by omega) (by simp; omega) ?_; intro v' w3 hown3 hgrow3 _; obtain ⟨g', cap', rfl⟩ := ownsRow_succ hown3; have bL3 := (bLv.alloc (.cells #[.int .i64 (k : Nat), .int .i64 (y.1 : Nat)] 43)).kept hgrow3 hneL; have cL3 := bL3.cell; have fL3 := bL3.frozen)
          have hout : ∀ j, Value.ownBlock (.slice av' Lp.length cv') = some j → w.heap.size ≤ j := fun j ej => by
            apply Nat.le_of_not_lt; intro hjl
            exact ownBlock_ge hownv (b := j) (by omega) ej.symm
          have e1 : L ++ coverPart us k ((pre ++ [y]).map (·.1)) = Lp ++ [(k, y.1)] := by rw [List.map_append]; show L ++ coverPart us k (pre.map (·.1) ++ [y.1]) = _; rw [HS.out, HC.out, ← HP.out]; simp
          refine ⟨((hKv.trans (KeepsOthers.alloc _ _)).trans (keeps_own (hownv.alloc _) hgrow3)).trans (KeepsOthers.setCell _ _ _),
            ((hBW.alloc (by omega) _).grown hgrow3 (by simp; omega) hout).setCell (p := ⟨w5.heap.size + 1, 0, none⟩) (by simp; omega) _, some ⟨g', 0, none⟩, cap', ⟨⟨?_, ?_⟩, ?_, ?_⟩, ⟨?_, ?_⟩, ?_, ?_, ?_⟩
          · exact ((rAv.alloc _).kept hgrow3 (ownBlock_ge hownv (by omega))).other (by omega) _ _
          · exact boxed_otherAt ((bAv.alloc _).kept hgrow3 (ownBlock_ge hownv (by omega))) (by omega) _ _
          · exact ((rCv.alloc _).kept hgrow3 (ownBlock_ge hownv (by omega))).other (by omega) _ _
          · exact boxed_otherAt ((bCv.alloc _).kept hgrow3 (ownBlock_ge hownv (by omega))) (by omega) _ _
          · rw [e1, List.length_append]; exact bL3.set _
          · rw [e1, pvals_snoc, List.length_append]; exact ownsRow_setAt hown3 (by omega) _ _
          · have hneI : some W.heap.size ≠ Value.ownBlock (.slice av' Lp.length cv') := fun e => (bIv.not_row (by decide) hownv) e
            exact boxed_otherAt ((bIv.alloc _).kept hgrow3 hneI) (by omega) _ _
          · exact (((hBv.alloc (by omega) _).grown hgrow3 (by simp; omega) hout)).setCell (p := ⟨w5.heap.size + 1, 0, none⟩) (by simp; omega) _
          · exact ((hMv.others (KeepsOthers.alloc _ _)).others (keeps_own (hownv.alloc _) hgrow3)).others (KeepsOthers.setCell _ _ _)
      case done =>
        rintro D ys W' hD rfl ⟨av', cv', ⟨⟨rA', bA'⟩, rC', bC'⟩, ⟨bL', hown'⟩, bI', hB', hM'⟩ hK
        have hDl : D < W'.heap.size := (Array.getElem?_eq_some_iff.1 hK).1
        rw [elemsS_val, coverPart_all hf hin hlt] at bL' hown'
        obtain ⟨L2, hL2⟩ : ∃ L2, L2 = L ++ coverRow us k us.length := ⟨_, rfl⟩
        rw [← hL2] at bL' hown'
        have HL2 := hide (show L2 = coverL us (k + 1) by rw [hL2, HL.out]; rfl)
        clear hL2
        clear bI bX bI' hown2 hown rA2 rC2 rA rC bA bC bL cA cL
        gi_wp2
        exact ⟨⟨k + 1, { target := .collected D, args := #[] } :: ms, L2, av', cv', _, _, _, _, _, _, _, _, _, _, _, _, _, _, _, _, _, _, _, _, _, _, _, _, _, _, _, rfl, by omega, HL2.out, ⟨rA', bA', rC', bC'⟩, bL', hown', hB', ⟨D, rfl, by omega, hDl, hK, hM'.mono (by omega)⟩⟩, by simp [intOf]; omega⟩
      case stop =>
        rintro D c pre W' _ _ h _
        exact h.elim
    · obtain rfl : k = us.length := by omega
      gi_wp2
      have e0 := HL.out
      subst e0
      refine leaves_marks (G := fun _ W' => W'.ownsRow (w5.heap.size + 1 + 1) 43 2 (.slice av (coverL us us.length).length cv) (coverL us us.length).length (pvals (coverL us us.length)) ∧ Below w.heap.size w W') (OwnFrom.and (Own.from (ownsRow_own _ _ _ _ (fun _ => (coverL us us.length).length) (fun _ => pvals (coverL us us.length))) _) (ownFrom_below (Nat.le_refl _) (Nat.le_refl _))) (fun W' h => ?_) ms _ _ hM ⟨hown, hB⟩
      exact ⟨_, results_tmp2 rfl _ _ _, av, cv, rfl, h.2, ownsRow_base h.1 (by omega)⟩
end Go.Proofs.YtjbfjdijgfhjfaaDoor

namespace Go.Proofs.YtjbfjdijgfhjfaaDoor
open Go.RowKit Go.Shelf

set_option maxRecDepth 100000 in
set_option maxHeartbeats 1000000 in
theorem matoms_err (n : Int) (a : Option Addr) (len cap : Nat) (w : World) (ho : ∀ W, Below w.heap.size w W → Calls Tryd.prog 6 #[.agg #[.int .i64 n, .slice a len cap]] W fun e w' => e = .returned (.tuple #[.agg #[.int .i64 n, .slice a len cap, .slice none 0 0, .slice none 0 0, .int .i64 0, .int .i64 0, .bool false], .bool false]) ∧ Below W.heap.size W w') :
    Calls Tryd.prog 4 #[.agg #[.int .i64 n, .slice a len cap]] w fun e w' => e = .returned (.bool true) ∧ Below w.heap.size w w' := by
  obtain ⟨r0, hb0, hs0⟩ := one_row w 24 (.int .i64 n) (.slice a len cap) rfl
  have h1 := ho _ hb0
  clear ho
  go_enter Tryd.func4, Tryd.ntmps4
  go_wp2_with (go_at_call 6; refine h1.mono ?_; rintro e w1 ⟨rfl, hb1⟩)
  go_ret
  exact ⟨rfl, (hb0.trans (hb1.mono (by omega))).alloc (by have := hb1.size; omega) _⟩

/-- a row of numbers, and what is added at a place -/
theorem vec_step {n m : Nat} (j : Nat → Nat) (f g : Nat → B64) (hj : j m < n) :
    (vecL n (fun z => f z + sm m fun y => if j y = z then g y else 0)).set (j m) (bd (vecL n (fun z => f z + sm m fun y => if j y = z then g y else 0)) (j m) + g m) = vecL n (fun z => f z + sm (m + 1) fun y => if j y = z then g y else 0) := by
  refine vecL_is (by simp [vecL_len]) fun i hi => ?_
  rw [bd_set (by rw [vecL_len]; exact hj)]
  have e : (sm (m + 1) fun y => if j y = i then g y else 0) = (sm m fun y => if j y = i then g y else 0) + (if j m = i then g m else 0) := rfl
  by_cases h : j m = i
  · subst h
    rw [if_pos rfl, bd_vecL _ hi, e, if_pos rfl]; grind
  · rw [if_neg h, bd_vecL _ hi, e, if_neg h]; simp
theorem vec_even {n bo : Nat} {js : Nat → Nat → Nat} {L : List (Nat × Nat)} {k p : Nat} (b : Bool) (h1 : (L.getD k (0, 0)).1 = bo) (h2 : (L.getD k (0, 0)).2 = p) :
    vecL n (fun z => bd (vecL n (evE js n bo b (atL bo L k))) z + sm n fun y => if js y p = z then bd (vecL n (evE js n bo (!b) (atL bo L k))) y else 0) = vecL n (evE js n bo b (atL bo L (k + 1))) := by
  refine (vecL_is (vecL_len _ _) fun i hi => ?_)
  rw [bd_vecL _ hi, bd_vecL _ hi]
  have e : atL bo L (k + 1) = p :: atL bo L k := by show (if _ then _ else _) = _; rw [if_pos h1, h2]
  rw [e]
  have e2 : evE js n bo b (p :: atL bo L k) i = evE js n bo b (atL bo L k) i + sm n fun y => if js y p = i then evE js n bo (!b) (atL bo L k) y else 0 := by cases b <;> rfl
  rw [e2]
  congr 1
  refine sm_congr fun y hy => ?_
  rw [bd_vecL _ hy]
theorem vec_same {bo : Nat} {L : List (Nat × Nat)} {k : Nat} (h1 : (L.getD k (0, 0)).1 ≠ bo) : atL bo L (k + 1) = atL bo L k := by
  show (if _ then _ else _) = _; rw [if_neg h1]
theorem addL_none (n : Nat) {l : List B64} : addL l (List.replicate n 0) = l := by
  refine bd_ext (addL_len _ _) fun i hi => ?_
  rw [addL_len] at hi
  unfold addL
  rw [bd_range _ hi, bd_replicate]; simp
theorem own_cellsB {W : World} {base : Nat} {av : Option Addr} {cv k : Nat} {l : List B64} (h : W.ownsRow base 2 1 (.slice av k cv) k (bvals l)) (hk : 0 < k) : ∃ g, av = some ⟨g, 0, none⟩ ∧ base ≤ g ∧ g < W.heap.size ∧ CellsB W g 0 k (bd l) := by
  have hlen : (tiL l).length = k := by have := h.1; rw [bvals_len] at this; rw [tiL_len]; simpa using this
  have hz := ownsRow_b h
  rcases h.2 with ⟨h1, _⟩ | ⟨g, cap, cur, h1, h2, h3, h4, h5, h6, h7⟩
  · omega
  · cases h1
    obtain ⟨b, o, e1, e2, e3⟩ := hz.cellsB (i := 0) (by rw [tiL_len] at hlen; omega)
    cases e1
    exact ⟨g, rfl, h2, e2, by rw [tiL_len] at hlen; rw [← hlen]; exact e3⟩

theorem allIn1 {n : Nat} {x : Int} : AllIn n [x] ↔ 0 ≤ x ∧ x < (n : Int) := by
  constructor
  · intro h; exact h 0 (by simp)
  · intro h i hi
    have : i = 0 := by simp at hi; omega
    subst this; exact h
theorem board_at (W : World) (vs : List Value) {V : World} (h : W.alloc (.cells vs.toArray 29) = V) : Row V W.heap.size 29 vs ∧ Below W.heap.size W V := by
  subst h
  exact ⟨Row.new W _ vs, (Below.refl _ _).alloc (Nat.le_refl _) _⟩
/-- a piece of code that ends in one state of the variables, whatever way it went -/
theorem wp_at {P : Program} {c : Code} {Q : Exit → Act → World → Prop} {a : Act} {w : World} {T : World → Prop} (h : ∃ A : Act, c.wp P (fun e a2 w2 => e = .normal ∧ a2 = A ∧ T w2) a w ∧ ∀ w2, T w2 → Q .normal A w2) : c.wp P Q a w := by
  obtain ⟨A, h1, h2⟩ := h
  exact Code.wp_mono (fun e a2 w2 ⟨h3, h4, h5⟩ => by subst h3; subst h4; exact h2 w2 h5) h1
/-- what holds in the midst of the inner loop -/
structure AtSt (w0 : World) (B0 Bb Bp bw bi gE gO n : Nat) (bv pv : List Value) (was is E O : List B64) (V : World) : Prop where
  b : Below B0 w0 V
  rB : Row V Bb 29 bv
  rP : Row V Bp 43 pv
  cW : CellsB V bw 0 n (bd was)
  cI : CellsB V bi 0 n (bd is)
  lW : bw < V.heap.size ∧ bi < V.heap.size
  rE : Row V gE 2 (bvals E)
  rO : Row V gO 2 (bvals O)
  ne : B0 ≤ gE ∧ B0 ≤ gO ∧ gE ≠ gO ∧ Bb ≠ gE ∧ Bb ≠ gO ∧ Bp ≠ gE ∧ Bp ≠ gO ∧ bw ≠ gE ∧ bw ≠ gO ∧ bi ≠ gE ∧ bi ≠ gO
theorem AtSt.keep {w0 : World} {B0 Bb Bp bw bi gE gO n : Nat} {bv pv : List Value} {was is E O : List B64} {V V' : World} (h : AtSt w0 B0 Bb Bp bw bi gE gO n bv pv was is E O V) (hb : Below V.heap.size V V') (hB : B0 ≤ V.heap.size) : AtSt w0 B0 Bb Bp bw bi gE gO n bv pv was is E O V' :=
  ⟨h.b.trans (hb.mono hB), row_below h.rB hb h.rB.lt, row_below h.rP hb h.rP.lt, fun i hi => (hb.cell (p := ⟨bw, 0 + i, none⟩) h.lW.1).trans (h.cW i hi), fun i hi => (hb.cell (p := ⟨bi, 0 + i, none⟩) h.lW.2).trans (h.cI i hi), ⟨by have := h.lW.1; have := hb.size; omega, by have := h.lW.2; have := hb.size; omega⟩, row_below h.rE hb h.rE.lt, row_below h.rO hb h.rO.lt, h.ne⟩
theorem AtSt.drew {w0 : World} {B0 Bb Bp bw bi gE gO n : Nat} {bv pv : List Value} {was is E O : List B64} {V : World} (h : AtSt w0 B0 Bb Bp bw bi gE gO n bv pv was is E O V) (hB : B0 ≤ V.heap.size) : AtSt w0 B0 Bb Bp bw bi gE gO n bv pv was is E O V.drew := h.keep (Below.refl _ _).drew hB
theorem AtSt.big {w0 : World} {B0 Bb Bp bw bi gE gO n : Nat} {bv pv : List Value} {was is E O : List B64} {V : World} (h : AtSt w0 B0 Bb Bp bw bi gE gO n bv pv was is E O V) : B0 ≤ V.heap.size := by have := h.rE.lt; have := h.ne.1; omega
theorem AtSt.setO {w0 : World} {B0 Bb Bp bw bi gE gO n : Nat} {bv pv : List Value} {was is E O : List B64} {V : World} (h : AtSt w0 B0 Bb Bp bw bi gE gO n bv pv was is E O V) (i : Nat) (x : B64) : AtSt w0 B0 Bb Bp bw bi gE gO n bv pv was is E (O.set i x) (V.setCell ⟨gO, i, none⟩ (.int .i64 x.toInt)) := by
  obtain ⟨n1, n2, n3, n4, n5, n6, n7, n8, n9, n10, n11⟩ := h.ne
  refine ⟨h.b.setCell (p := ⟨gO, i, none⟩) n2 _, h.rB.other n5 _ _, h.rP.other n7 _ _, fun j hj => ?_, fun j hj => ?_, by simpa using h.lW, h.rE.other n3 _ _, ?_, h.ne⟩
  · rw [World.cell?_setCell_far _ _ _ _ (Ne.symm n9)]; exact h.cW j hj
  · rw [World.cell?_setCell_far _ _ _ _ (Ne.symm n11)]; exact h.cI j hj
  · rw [← bvals_set]; exact h.rO.set i _
theorem AtSt.setE {w0 : World} {B0 Bb Bp bw bi gE gO n : Nat} {bv pv : List Value} {was is E O : List B64} {V : World} (h : AtSt w0 B0 Bb Bp bw bi gE gO n bv pv was is E O V) (i : Nat) (x : B64) : AtSt w0 B0 Bb Bp bw bi gE gO n bv pv was is (E.set i x) O (V.setCell ⟨gE, i, none⟩ (.int .i64 x.toInt)) := by
  obtain ⟨n1, n2, n3, n4, n5, n6, n7, n8, n9, n10, n11⟩ := h.ne
  refine ⟨h.b.setCell (p := ⟨gE, i, none⟩) n1 _, h.rB.other n4 _ _, h.rP.other n6 _ _, fun j hj => ?_, fun j hj => ?_, by simpa using h.lW, ?_, h.rO.other (Ne.symm n3) _ _, h.ne⟩
  · rw [World.cell?_setCell_far _ _ _ _ (Ne.symm n8)]; exact h.cW j hj
  · rw [World.cell?_setCell_far _ _ _ _ (Ne.symm n10)]; exact h.cI j hj
  · rw [← bvals_set]; exact h.rE.set i _

set_option maxRecDepth 100000 in
set_option maxHeartbeats 8000000 in
theorem matoms_in (n : Nat) (a : Option Addr) (cap : Nat) (us ds : List Nat) (n₀ : Nat) (hn : n = us.length) (hf : Fit us) (w : World) (hT : TabAt w) (hw : IsWords n₀ w a us) (hg : 0 < n₀) (hn₀ : n₀ ≤ w.heap.size) (hc : codeOf n us = 0) (hD : Tur us us.length [] ds) (hl : latB us ds = true) :
    Calls Tryd.prog 4 #[.agg #[.int .i64 n, .slice a n cap]] w fun e w' => e = .returned (.bool true) ∧ Below w.heap.size w w' := by
  have hl16 : n ≤ 16 := by have := (code_zero hc).2.1; omega
  have hnn : n * n ≤ 256 := Nat.mul_le_mul hl16 hl16
  have hord : IsOrd us := (code_zero hc).2.2.2.2
  have h0n : 0 < us.length := by
    have h := hl
    unfold latB at h
    simp only [Bool.and_eq_true, Bool.not_eq_true', decide_eq_false_iff_not] at h
    omega
  obtain ⟨r0, hb0, hs0⟩ := one_row w 24 (.int .i64 n) (.slice a n cap) rfl
  have h1 := open_ok n a cap us ds n₀ hf _ (hT.below hb0 (by omega)) (hw.below (hb0.mono hn₀)) hg (by rw [hs0]; omega) hc hD hl
  have hL : ∀ js ms, NearTo us js (us.length * us.length) → NearTo ds ms (us.length * us.length) → Lat us.length (leW us) (at2 js us.length) (at2 ms us.length) (gath (at2 ms us.length) 0 us.length) (gath (at2 js us.length) 0 us.length) := fun js ms h1 h2 => lat_pre hord hD h1 h2 h0n
  have kmu := fun W hT hw hg => Mu_ok n a cap us W.heap.size hn hf W hT hw hg (Nat.le_refl _) hc
  have kco := fun W hT hw hg => Covers_ok n a cap us W.heap.size hf W hT hw hg (Nat.le_refl _) hc
  have hwe : ∀ js ms bt tp, Lat us.length (leW us) js ms bt tp → ∀ y, y < n → bd (tabL n (muM us)) (bt * n + y) = evE js n bt true (atL bt (coverL us us.length) (coverL us us.length).length) y - evE js n bt false (atL bt (coverL us us.length) (coverL us us.length).length) y := fun js ms bt tp L y hy => by
    subst hn
    rw [atoms_all hord L hy]
    exact mat_tabL (n := us.length) (muM us) bt L.blt y hy
  have hcn : ∀ p ∈ coverL us us.length, p.1 < us.length ∧ p.2 < us.length := fun p hp => by
    have := (mem_coverL us.length).1 hp
    exact ⟨this.1, this.2.1⟩
  have hcl := coverL_len us us.length
  rw [← hn] at h1 hL hwe hcn kco hcl
  have hlm := tabL_len n (muM us)
  generalize tabL n (muM us) = Q at *
  generalize coverL us n = LL at *
  have hmk := run_make_row' (P := Tryd.prog) 33 2 (.int .i64 0) 8 Tryd.underlying33 info_i64 rfl .i64 .i64 n (by omega) (by omega)
  clear hc hl hD hord hn h0n
  go_enter Tryd.func4, Tryd.ntmps4
  go_wp2_with fail
  refine h1.mono ?_
  rintro e w1 ⟨aj, cj, am, cm, js, ms, rfl, hb1, i1, i2, n1, n2⟩
  have L := hL js ms n1 n2
  have hlj := n1.len
  have hww := hwe _ _ _ _ L
  have hjlt := fun x y (hx : x < n) (hy : y < n) => L.jlt hx hy
  have hbt := L.blt
  have htp := L.tlt
  clear hL hwe n1 n2 h1 L i2
  generalize gath (at2 ms n) 0 n = bt at *
  generalize gath (at2 js n) 0 n = tp at *
  have hs1 := hb1.size
  have q0 := row_below r0 hb1 r0.lt
  have lt0 := q0.lt
  have c0 := q0.cell (i := 0) rfl
  have c1 := q0.cell (i := 1) rfl
  go_wp2_with fail
  obtain ⟨V2, hV2⟩ : ∃ V, w1.alloc (.cells #[.int .i64 n, .slice a n cap, .slice aj (n * n) cj, .slice am (n * n) cm, .int .i64 (bt : Nat), .int .i64 (tp : Nat), .bool false] 29) = V := ⟨_, rfl⟩
  obtain ⟨rB, hbB⟩ := board_at w1 [.int .i64 n, .slice a n cap, .slice aj (n * n) cj, .slice am (n * n) cm, .int .i64 (bt : Nat), .int .i64 (tp : Nat), .bool false] hV2
  rw [hV2]
  have hsB : V2.heap.size = w1.heap.size + 1 := by rw [← hV2]; simp
  have p0 := row_below q0 hbB q0.lt
  have hB3 := (hb0.trans (hb1.mono (by omega))).trans (hbB.mono (by omega))
  have I1 := i1.below hbB
  have hs3 := hB3.size
  have hsB' : w1.heap.size + 1 ≤ V2.heap.size := by omega
  clear hV2 c0 c1 q0 hb0 hb1 i1 hbB lt0 hsB
  refine (kmu _ (hT.below hB3 (by omega)) ((hw.below (hB3.mono hn₀)).mono (by omega)) (by omega)).mono ?_
  rintro e w5 ⟨p, rfl, hp, hb5, hr5⟩
  have s0 := row_below p0 hb5 p0.lt
  have sB := row_below rB hb5 rB.lt
  have hs5 := hb5.size
  have hB5 := hB3.trans (hb5.mono hs3)
  have I5 : IsInts V2.heap.size w5 aj js := (I1.up (by omega)).below hb5
  have ltp' := hr5.lt
  have c0 := s0.cell (i := 0) rfl
  have c1 := s0.cell (i := 1) rfl
  clear rB p0 hb5 I1 hB3 kmu
  go_wp2_with fail
  refine (kco _ (hT.below hB5 (by omega)) ((hw.below (hB5.mono hn₀)).mono (by omega)) (by omega)).mono ?_
  rintro e w6 ⟨av, cv, rfl, hb6, hP⟩
  have u0 := row_below s0 hb6 s0.lt
  have uB := row_below sB hb6 sB.lt
  have uQ := row_below hr5 hb6 ltp'
  have hs6 := hb6.size
  have hB6 := hB5.trans (hb6.mono (by omega))
  have I6 : IsInts w6.heap.size w6 aj js := ((I5.up (by omega)).below hb6).up hs6
  have hP6 := ownsRow_pairs hP
  have lu0 := u0.lt
  have luB := uB.lt
  have luQ := uQ.lt
  have c0 := u0.cell (i := 0) rfl
  have c1 := u0.cell (i := 1) rfl
  have d4 := uB.cell (i := 4) rfl
  clear hr5 sB s0 hb6 I5 hB5 kco hP
  have rE0 := (Row.new w6 2 (bvals (List.replicate n 0))).alloc (.cells (madeCells #[.int .i64 0] n) 2)
  have rO0 := Row.new (w6.alloc (.cells (madeCells #[.int .i64 0] n) 2)) 2 (bvals (List.replicate n 0))
  rw [← bvals_replicate] at rE0 rO0
  have eb := rE0.cell (i := bt) (v := .int .i64 0) (by rw [bvals_at (by simpa using hbt), bd_replicate]; rfl)
  have ef := rE0.frozen bt
  go_wp2_with fail
  have c0x := c0
  clear c0 c1 d4 eb ef c0x
  go_loopw [68] (fun i wr => ∃ k : Nat, k ≤ LL.length ∧ i = .int .i64 k ∧ Below w6.heap.size w6 wr ∧ Row wr w6.heap.size 2 (bvals (vecL n (evE (at2 js n) n bt true (atL bt LL k)))) ∧ Row wr (w6.heap.size + 1) 2 (bvals (vecL n (evE (at2 js n) n bt false (atL bt LL k))))) (fun i _ => LL.length - (intOf i).toNat)
  case atStart =>
    have e1 : (List.replicate n (0 : B64)).set bt 1 = vecL n (evE (at2 js n) n bt true (atL bt LL 0)) := vecL_is (by simp) fun i hi => by
      rw [bd_set (by simpa using hbt), bd_replicate]; rfl
    have e0 : (List.replicate n (0 : B64)) = vecL n (evE (at2 js n) n bt false (atL bt LL 0)) := vecL_is (by simp) fun i hi => by
      rw [bd_replicate]; rfl
    have e2 : (madeCells #[Value.int .i64 0] n).setIfInBounds bt (.int .i64 1) = (bvals (vecL n (evE (at2 js n) n bt true (atL bt LL 0)))).toArray := by
      rw [bvals_replicate, List.setIfInBounds_toArray, ← e1, ← bvals_set]; rfl
    refine ⟨0, Nat.zero_le _, rfl, ((Below.refl _ _).alloc (Nat.le_refl _) _).alloc (by simp) _, ?_, ?_⟩
    · rw [e2]
      exact (Row.new w6 _ _).alloc _
    · rw [← e0, bvals_replicate]
      have h := Row.new (w6.alloc (.cells ((bvals (List.replicate n 0)).toArray.setIfInBounds bt (.int .i64 1)) 2)) 2 (bvals (List.replicate n 0))
      simpa using h
  case round =>
    clear rE0 rO0
    obtain ⟨k, hk, rfl, hb, rE, rO⟩ := hrel
    have v0 := row_below u0 hb lu0
    have vB := row_below uB hb luB
    have vQ := row_below uQ hb luQ
    have c0 := v0.cell (i := 0) rfl
    have hbs := hb.size
    have lv0 := v0.lt
    have lvB := vB.lt
    have lE0 := rE.lt
    have lO0 := rO.lt
    by_cases hlt : k < LL.length
    · obtain ⟨b, rfl, hbb, hca, hcb⟩ := (hP6.below hb).at hlt
      obtain ⟨A, q, exy⟩ : ∃ x y, LL[k] = (x, y) := ⟨LL[k].1, LL[k].2, rfl⟩
      have hin := hcn _ (List.getElem_mem hlt)
      have hgd : LL.getD k (0, 0) = (A, q) := by rw [List.getD_eq_getElem?_getD, List.getElem?_eq_getElem hlt, exy]; rfl
      rw [exy] at hca hcb hin
      have hbw : b < wr.heap.size := by omega
      have hkl : k < 256 := by omega
      have e4 := vB.cell (i := 4) rfl
      clear exy hww
      by_cases hA : A = bt
      · have g1 : ((A : Int) != (bt : Int)) = false := by rw [hA]; simp
        have hev := fun b => vec_even (n := n) (bo := bt) (js := at2 js n) (L := LL) (k := k) (p := q) b (by rw [hgd]; exact hA) (by rw [hgd])
        have HEV := hide hev
        clear hev hgd hA
        have lE : (vecL n (evE (at2 js n) n bt true (atL bt LL k))).length = n := vecL_len _ _
        have lO : (vecL n (evE (at2 js n) n bt false (atL bt LL k))).length = n := vecL_len _ _
        have hq : q < n := hin.2
        have hwin : allInB n [(q : Int)] = true := allInB_true.2 (allIn1.2 (by omega))
        go_wp2_with fail
        obtain ⟨V4, hV4⟩ : ∃ V, (wr.alloc (.cells #[.int .i64 (A : Nat), .int .i64 (q : Nat)] 43)).alloc (.cells #[.int .i64 (q : Nat)] 3) = V := ⟨_, rfl⟩
        obtain ⟨rP4, rX4, hbV4, hsV4⟩ := rows_two wr 43 3 [.int .i64 (A : Nat), .int .i64 (q : Nat)] [.int .i64 (q : Nat)] hV4
        have zz : ZInts V4.heap.size V4 (some ⟨wr.heap.size + 1, 0, none⟩) [(q : Int)] := Row.z (l := [(q : Int)]) rX4 rX4.lt
        have h2 := kwithin_z n _ 1 [(q : Int)] _ (by simp) V4 zz
        rw [hwin] at h2
        rw [hV4]
        have hsV4' : wr.heap.size + 2 ≤ V4.heap.size := by omega
        clear hsV4
        have v4 := row_below v0 hbV4 v0.lt
        have B4 := row_below vB hbV4 vB.lt
        have E4 := row_below rE hbV4 rE.lt
        have O4 := row_below rO hbV4 rO.lt
        have b4 := hb.trans (hbV4.mono hbs)
        clear hV4 zz rX4 v0 vB rE rO hb hbV4 c0 e4 vQ
        refine h2.mono ?_
        rintro e V5 ⟨rfl, rfl⟩
        clear h2 hca hcb hwin
        have c0 := v4.cell (i := 0) rfl
        go_wp2_with fail
        have Ez := Row.new V5 2 (bvals (List.replicate n 0))
        rw [← bvals_replicate] at Ez
        generalize hEE : vecL n (evE (at2 js n) n bt true (atL bt LL k)) = EE at *
        generalize hOO : vecL n (evE (at2 js n) n bt false (atL bt LL k)) = OO at *
        have HEE := hide hEE
        have HOO := hide hOO
        clear hEE hOO
        obtain ⟨V6, hV6⟩ : ∃ V, V5.alloc (.cells (madeCells #[.int .i64 0] n) 2) = V := ⟨_, rfl⟩
        have hb6' : Below V5.heap.size V5 V6 := hV6 ▸ (Below.refl _ _).alloc (Nat.le_refl _) _
        have hs6' := hb6'.size
        rw [hV6] at Ez ⊢
        have hadd1 := added_any n (by omega) (some ⟨w6.heap.size, 0, none⟩) n EE (some ⟨V5.heap.size, 0, none⟩) n (List.replicate n 0) lE (by simp) V6.heap.size V6 (Row.b (row_below E4 hb6' E4.lt) (by have := E4.lt; omega)) (Row.b Ez Ez.lt) (Nat.le_refl _)
        rw [addL_none n] at hadd1
        refine hadd1.mono ?_
        rintro e w7 ⟨a7, c7, rfl, hb7, ho7⟩
        obtain ⟨bw, rfl, hbw1, hbw2, cW⟩ := own_cellsB ho7 (by omega)
        have hb57 := hb6'.trans (hb7.mono (by omega))
        have hs7 := hb57.size
        have v7 := row_below v4 hb57 v4.lt
        have B7 := row_below B4 hb57 B4.lt
        have P7 := row_below rP4 hb57 rP4.lt
        have E7 := row_below E4 hb57 E4.lt
        have O7 := row_below O4 hb57 O4.lt
        have b7 := b4.trans (hb57.mono (by have := E4.lt; omega))
        clear hadd1 hV6 hb6' Ez hb7 ho7 v4 B4 rP4 E4 O4 b4 hb57 c0
        have c0 := v7.cell (i := 0) rfl
        go_wp2_with fail
        have Ez := Row.new w7 2 (bvals (List.replicate n 0))
        rw [← bvals_replicate] at Ez
        obtain ⟨V8, hV8⟩ : ∃ V, w7.alloc (.cells (madeCells #[.int .i64 0] n) 2) = V := ⟨_, rfl⟩
        have hb8' : Below w7.heap.size w7 V8 := hV8 ▸ (Below.refl _ _).alloc (Nat.le_refl _) _
        have hs8' := hb8'.size
        rw [hV8] at Ez ⊢
        have hadd2 := added_any n (by omega) (some ⟨w6.heap.size + 1, 0, none⟩) n OO (some ⟨w7.heap.size, 0, none⟩) n (List.replicate n 0) lO (by simp) V8.heap.size V8 (Row.b (row_below O7 hb8' O7.lt) (by have := O7.lt; omega)) (Row.b Ez Ez.lt) (Nat.le_refl _)
        rw [addL_none n] at hadd2
        refine hadd2.mono ?_
        rintro e w9 ⟨a9, c9, rfl, hb9, ho9⟩
        obtain ⟨bi, rfl, hbi1, hbi2, cI⟩ := own_cellsB ho9 (by omega)
        have hb79 := hb8'.trans (hb9.mono (by omega))
        have hs9 := hb79.size
        have lE7 := E7.lt
        have v9 := row_below v7 hb79 v7.lt
        have HST : AtSt w6 w6.heap.size w1.heap.size wr.heap.size bw bi w6.heap.size (w6.heap.size + 1) n [.int .i64 n, .slice a n cap, .slice aj (n * n) cj, .slice am (n * n) cm, .int .i64 (bt : Nat), .int .i64 (tp : Nat), .bool false] [.int .i64 (A : Nat), .int .i64 (q : Nat)] EE OO EE OO w9 :=
          ⟨b7.trans (hb79.mono (by omega)), row_below B7 hb79 B7.lt, row_below P7 hb79 P7.lt, fun i hi => (hb79.cell (p := ⟨bw, 0 + i, none⟩) hbw2).trans (cW i hi), cI, ⟨by omega, hbi2⟩, row_below E7 hb79 E7.lt, row_below O7 hb79 O7.lt, ⟨by omega, by omega, by omega, by omega, by omega, by omega, by omega, by omega, by omega, by omega, by omega⟩⟩
        clear hadd2 hV8 hb8' Ez hb9 ho9 v7 B7 P7 E7 O7 b7 hb79 c0 cW cI
        go_wp2_with fail
        generalize wr.heap.size = Bp at *
        go_loopw [15] (fun i V => ∃ m : Nat, m ≤ n ∧ i = .int .i64 m ∧ AtSt w6 w6.heap.size w1.heap.size Bp bw bi w6.heap.size (w6.heap.size + 1) n [.int .i64 n, .slice a n cap, .slice aj (n * n) cj, .slice am (n * n) cm, .int .i64 (bt : Nat), .int .i64 (tp : Nat), .bool false] [.int .i64 (A : Nat), .int .i64 (q : Nat)] EE OO (vecL n (fun z => bd EE z + sm m fun y => if at2 js n y q = z then bd OO y else 0)) (vecL n (fun z => bd OO z + sm m fun y => if at2 js n y q = z then bd EE y else 0)) V) (fun i _ => n - (intOf i).toNat)
        case atStart =>
          have e1 : EE = vecL n (fun z => bd EE z + sm 0 fun y => if at2 js n y q = z then bd OO y else 0) := vecL_is lE fun i hi => by simp [sm]
          have e2 : OO = vecL n (fun z => bd OO z + sm 0 fun y => if at2 js n y q = z then bd EE y else 0) := vecL_is lO fun i hi => by simp [sm]
          exact ⟨0, Nat.zero_le _, rfl, by rw [← e1, ← e2]; exact HST⟩
        case round =>
          clear HST v9
          obtain ⟨m, hm, rfl, hst⟩ := hrel
          have x0 := row_below u0 hst.b lu0
          have lx0 := x0.lt
          have c0 := x0.cell (i := 0) rfl
          by_cases hlm2 : m < n
          · obtain ⟨J, eJ⟩ : ∃ r, at2 js n m q = r := ⟨_, rfl⟩
            have hJ := hjlt m q hlm2 hq
            have hor := fun V hV => bor_any n a cap aj cj am cm (bt : Nat) (tp : Nat) false js m q w6.heap.size hl16 hlm2 hq hlj V (I6.below hV) hV.size
            have st1 := vec_step (m := m) (fun y => at2 js n y q) (bd EE) (bd OO) hJ
            have st2 := vec_step (m := m) (fun y => at2 js n y q) (bd OO) (bd EE) hJ
            simp only [eJ] at hor st1 st2 hJ
            have l1 : (vecL n (fun z => bd EE z + sm m fun y => if at2 js n y q = z then bd OO y else 0)).length = n := vecL_len _ _
            have l2 : (vecL n (fun z => bd OO z + sm m fun y => if at2 js n y q = z then bd EE y else 0)).length = n := vecL_len _ _
            have ST1 := hide st1
            have ST2 := hide st2
            clear st1 st2 eJ
            generalize (vecL n (fun z => bd EE z + sm m fun y => if at2 js n y q = z then bd OO y else 0)) = X1 at *
            generalize (vecL n (fun z => bd OO z + sm m fun y => if at2 js n y q = z then bd EE y else 0)) = XX at *
            obtain ⟨s2, hs2⟩ : ∃ s, bd XX J + bd EE m = s := ⟨_, rfl⟩
            obtain ⟨s1, hs1'⟩ : ∃ s, bd X1 J + bd OO m = s := ⟨_, rfl⟩
            have ad2 := wrap_add (bd XX J) (bd EE m)
            have ad1 := wrap_add (bd X1 J) (bd OO m)
            rw [hs2] at ad2 ST2
            rw [hs1'] at ad1 ST1
            clear hs2 hs1'
            obtain ⟨ox, hox⟩ : ∃ s, (bd XX J).toInt = s := ⟨_, rfl⟩
            obtain ⟨ex, hex⟩ : ∃ s, (bd X1 J).toInt = s := ⟨_, rfl⟩
            obtain ⟨lx, hlx⟩ : ∃ s, (bd EE m).toInt = s := ⟨_, rfl⟩
            obtain ⟨ly, hly⟩ : ∃ s, (bd OO m).toInt = s := ⟨_, rfl⟩
            rw [hox, hlx] at ad2
            rw [hex, hly] at ad1
            have ad2' := (wrap_kindK _).trans ad2
            have ad1' := (wrap_kindK _).trans ad1
            have kO : ∀ V, AtSt w6 w6.heap.size w1.heap.size Bp bw bi w6.heap.size (w6.heap.size + 1) n [.int .i64 n, .slice a n cap, .slice aj (n * n) cj, .slice am (n * n) cm, .int .i64 (bt : Nat), .int .i64 (tp : Nat), .bool false] [.int .i64 (A : Nat), .int .i64 (q : Nat)] EE OO X1 XX V → V.cell? ⟨w6.heap.size + 1, J, none⟩ = some (.int .i64 ox) := fun V h => by rw [← hox]; exact h.rO.cell (bvals_at (by rw [l2]; exact hJ))
            have kE : ∀ V, ∀ Y, AtSt w6 w6.heap.size w1.heap.size Bp bw bi w6.heap.size (w6.heap.size + 1) n [.int .i64 n, .slice a n cap, .slice aj (n * n) cj, .slice am (n * n) cm, .int .i64 (bt : Nat), .int .i64 (tp : Nat), .bool false] [.int .i64 (A : Nat), .int .i64 (q : Nat)] EE OO X1 Y V → V.cell? ⟨w6.heap.size, J, none⟩ = some (.int .i64 ex) := fun V Y h => by rw [← hex]; exact h.rE.cell (bvals_at (by rw [l1]; exact hJ))
            have kW : ∀ V, ∀ X Y, AtSt w6 w6.heap.size w1.heap.size Bp bw bi w6.heap.size (w6.heap.size + 1) n [.int .i64 n, .slice a n cap, .slice aj (n * n) cj, .slice am (n * n) cm, .int .i64 (bt : Nat), .int .i64 (tp : Nat), .bool false] [.int .i64 (A : Nat), .int .i64 (q : Nat)] EE OO X Y V → V.cell? ⟨bw, m, none⟩ = some (.int .i64 lx) := fun V X Y h => by have := h.cW m hlm2; rwa [Nat.zero_add, hlx] at this
            have kI : ∀ V, ∀ X Y, AtSt w6 w6.heap.size w1.heap.size Bp bw bi w6.heap.size (w6.heap.size + 1) n [.int .i64 n, .slice a n cap, .slice aj (n * n) cj, .slice am (n * n) cm, .int .i64 (bt : Nat), .int .i64 (tp : Nat), .bool false] [.int .i64 (A : Nat), .int .i64 (q : Nat)] EE OO X Y V → V.cell? ⟨bi, m, none⟩ = some (.int .i64 ly) := fun V X Y h => by have := h.cI m hlm2; rwa [Nat.zero_add, hly] at this
            have KO := hide kO
            have KE := hide kE
            have KW := hide kW
            have KI := hide kI
            clear kO kE kW kI hox hex hlx hly
            go_wp2_with fail
            refine wp_at (T := fun w2 => AtSt w6 w6.heap.size w1.heap.size Bp bw bi w6.heap.size (w6.heap.size + 1) n [.int .i64 n, .slice a n cap, .slice aj (n * n) cj, .slice am (n * n) cm, .int .i64 (bt : Nat), .int .i64 (tp : Nat), .bool false] [.int .i64 (A : Nat), .int .i64 (q : Nat)] EE OO X1 (XX.set J s2) w2) ?_
            apply Exists.intro
            refine And.intro ?_ (fun V2 hst => ?_)
            ·
              refine wp_region_held_drew (S := fun V => ∃ X, AtSt w6 w6.heap.size w1.heap.size Bp bw bi w6.heap.size (w6.heap.size + 1) n [.int .i64 n, .slice a n cap, .slice aj (n * n) cj, .slice am (n * n) cm, .int .i64 (bt : Nat), .int .i64 (tp : Nat), .bool false] [.int .i64 (A : Nat), .int .i64 (q : Nat)] EE OO X1 X V) (by kernel_rfl) ⟨_, hst.drew hst.big⟩ (fun hS0 => ?_)
              replace hst := hst.drew hst.big
              generalize World.drew _ = ud at *
              refine wpAnyH_take (i := 0) (v := .slice (some ⟨(w6.heap.size + 1), 0, none⟩) n n) rfl (by kernel_rfl) (by kernel_rfl) (by kernel_rfl) (fun _ _ _ h => nomatch h.1) (Or.inl ⟨by rfl, ?_⟩) hS0 ?_
              · intro w2 _
                go_simp
              simp only [Act.put]
              refine wpAnyH_take (i := 1) (v := .agg #[.int .i64 n, .slice a n cap, .slice aj (n * n) cj, .slice am (n * n) cm, .int .i64 (bt : Nat), .int .i64 (tp : Nat), .bool false]) rfl (by kernel_rfl) (by kernel_rfl) (by kernel_rfl) (fun _ _ _ h => nomatch h.1) (Or.inl ⟨by rfl, ?_⟩) hS0 ?_
              · intro w2 hS2
                obtain ⟨X2, hS2⟩ := hS2
                have c0 := hS2.rB.cell (i := 0) rfl
                have c1 := hS2.rB.cell (i := 1) rfl
                have c2 := hS2.rB.cell (i := 2) rfl
                have c3 := hS2.rB.cell (i := 3) rfl
                have c4 := hS2.rB.cell (i := 4) rfl
                have c5 := hS2.rB.cell (i := 5) rfl
                have c6 := hS2.rB.cell (i := 6) rfl
                have lb := hS2.rB.lt
                clear hS2
                go_simp
              simp only [Act.put]
              refine wpAnyH_take (i := 2) (v := .int .i64 (m : Nat)) rfl (by kernel_rfl) (by kernel_rfl) (by kernel_rfl) (fun _ _ _ h => nomatch h.1) (Or.inl ⟨by rfl, ?_⟩) hS0 ?_
              · intro w2 _
                go_simp
              simp only [Act.put]
              refine wpAnyH_take (i := 3) (v := .pointer (some ⟨Bp, 1, none⟩)) rfl (by kernel_rfl) (by kernel_rfl) (by kernel_rfl) (fun _ _ _ h => nomatch h.1) (Or.inl ⟨by rfl, ?_⟩) hS0 ?_
              · intro w2 _
                go_simp
              simp only [Act.put]
              refine wpAnyH_take (i := 4) (v := .int .i64 (q : Nat)) rfl (by kernel_rfl) (by kernel_rfl) (by kernel_rfl) (fun _ _ _ h => nomatch h.1) (Or.inl ⟨by rfl, ?_⟩) hS0 ?_
              · intro w2 hS2
                obtain ⟨X2, hS2⟩ := hS2
                have c1 := hS2.rP.cell (i := 1) rfl
                have lb := hS2.rP.lt
                clear hS2
                go_simp
              simp only [Act.put]
              refine wpAnyH_take (i := 6) (v := .slice (some ⟨(w6.heap.size + 1), 0, none⟩) n n) rfl (by kernel_rfl) (by kernel_rfl) (by kernel_rfl) (fun _ _ _ h => nomatch h.1) (Or.inl ⟨by rfl, ?_⟩) hS0 ?_
              · intro w2 _
                go_simp
              simp only [Act.put]
              refine wpAnyH_take (i := 7) (v := .agg #[.int .i64 n, .slice a n cap, .slice aj (n * n) cj, .slice am (n * n) cm, .int .i64 (bt : Nat), .int .i64 (tp : Nat), .bool false]) rfl (by kernel_rfl) (by kernel_rfl) (by kernel_rfl) (fun _ _ _ h => nomatch h.1) (Or.inl ⟨by rfl, ?_⟩) hS0 ?_
              · intro w2 hS2
                obtain ⟨X2, hS2⟩ := hS2
                have c0 := hS2.rB.cell (i := 0) rfl
                have c1 := hS2.rB.cell (i := 1) rfl
                have c2 := hS2.rB.cell (i := 2) rfl
                have c3 := hS2.rB.cell (i := 3) rfl
                have c4 := hS2.rB.cell (i := 4) rfl
                have c5 := hS2.rB.cell (i := 5) rfl
                have c6 := hS2.rB.cell (i := 6) rfl
                have lb := hS2.rB.lt
                clear hS2
                go_simp
              simp only [Act.put]
              refine wpAnyH_take (i := 8) (v := .int .i64 (m : Nat)) rfl (by kernel_rfl) (by kernel_rfl) (by kernel_rfl) (fun _ _ _ h => nomatch h.1) (Or.inl ⟨by rfl, ?_⟩) hS0 ?_
              · intro w2 _
                go_simp
              simp only [Act.put]
              refine wpAnyH_take (i := 9) (v := .pointer (some ⟨Bp, 1, none⟩)) rfl (by kernel_rfl) (by kernel_rfl) (by kernel_rfl) (fun _ _ _ h => nomatch h.1) (Or.inl ⟨by rfl, ?_⟩) hS0 ?_
              · intro w2 _
                go_simp
              simp only [Act.put]
              refine wpAnyH_take (i := 10) (v := .int .i64 (q : Nat)) rfl (by kernel_rfl) (by kernel_rfl) (by kernel_rfl) (fun _ _ _ h => nomatch h.1) (Or.inl ⟨by rfl, ?_⟩) hS0 ?_
              · intro w2 hS2
                obtain ⟨X2, hS2⟩ := hS2
                have c1 := hS2.rP.cell (i := 1) rfl
                have lb := hS2.rP.lt
                clear hS2
                go_simp
              simp only [Act.put]
              refine wpAnyH_take (i := 14) (v := .slice (some ⟨bw, 0, none⟩) n c7) rfl (by kernel_rfl) (by kernel_rfl) (by kernel_rfl) (fun _ _ _ h => nomatch h.1) (Or.inl ⟨by rfl, ?_⟩) hS0 ?_
              · intro w2 _
                go_simp
              simp only [Act.put]
              refine wpAnyH_take (i := 15) (v := .int .i64 (m : Nat)) rfl (by kernel_rfl) (by kernel_rfl) (by kernel_rfl) (fun _ _ _ h => nomatch h.1) (Or.inl ⟨by rfl, ?_⟩) hS0 ?_
              · intro w2 _
                go_simp
              simp only [Act.put]
              refine wpAnyH_take (i := 16) (v := .pointer (some ⟨bw, m, none⟩)) rfl (by kernel_rfl) (by kernel_rfl) (by kernel_rfl) (fun _ _ _ h => nomatch h.1) (Or.inl ⟨by rfl, ?_⟩) hS0 ?_
              · intro w2 _
                go_simp
              simp only [Act.put]
              refine wpAnyH_take (i := 17) (v := .int .i64 lx) rfl (by kernel_rfl) (by kernel_rfl) (by kernel_rfl) (fun _ _ _ h => nomatch h.1) (Or.inl ⟨by rfl, ?_⟩) hS0 ?_
              · intro w2 hS2
                obtain ⟨X2, hS2⟩ := hS2
                have c1 := KW.out _ _ _ hS2
                clear hS2
                go_simp
              simp only [Act.put]
              refine wpAnyH_ready (rs := [5]) (by kernel_rfl) (by simp) (AllReadyH.cons rfl (fun K hK => ?_) AllReadyH.nil)
              · go_simp
                refine (hor _ hst.b).mono ?_
                rintro e whA ⟨rfl, hbhA⟩
                have hA := hst.keep hbhA hst.big
                refine hK.out _ _ ⟨_, hA⟩ (fun _ => ?_)
                clear hK K
                refine wpAnyH_ready (rs := [11]) (by kernel_rfl) (by simp) (AllReadyH.cons rfl (fun K hK => ?_) AllReadyH.nil)
                · go_simp
                  refine (hor _ hA.b).mono ?_
                  rintro e whB ⟨rfl, hbhB⟩
                  have hB := hA.keep hbhB hA.big
                  refine hK.out _ _ ⟨_, hB⟩ (fun _ => ?_)
                  clear hK K
                  refine wpAnyH_take (i := 12) (v := .pointer (some ⟨(w6.heap.size + 1), J, none⟩)) rfl (by kernel_rfl) (by kernel_rfl) (by kernel_rfl) (fun _ _ _ h => nomatch h.1) (Or.inl ⟨by rfl, ?_⟩) ⟨_, hB⟩ ?_
                  · intro w2 _
                    go_simp
                  simp only [Act.put]
                  refine wpAnyH_ready (rs := [13]) (by kernel_rfl) (by simp) (AllReadyH.cons rfl (fun K hK => ?_) AllReadyH.nil)
                  · have kc := KO.out _ hB
                    go_simp
                    refine hK.out _ _ ⟨_, hB⟩ (fun _ => ?_)
                    clear hK K kc
                    refine wpAnyH_take (i := 18) (v := .int .i64 s2.toInt) rfl (by kernel_rfl) (by kernel_rfl) (by kernel_rfl) (fun _ _ _ h => nomatch h.1) (Or.inl ⟨by rfl, ?_⟩) ⟨_, hB⟩ ?_
                    · intro w2 _
                      go_simp
                    simp only [Act.put]
                    refine wpAnyH_take (i := 19) (v := .pointer (some ⟨(w6.heap.size + 1), J, none⟩)) rfl (by kernel_rfl) (by kernel_rfl) (by kernel_rfl) (fun _ _ _ h => nomatch h.1) (Or.inl ⟨by rfl, ?_⟩) ⟨_, hB⟩ ?_
                    · intro w2 _
                      go_simp
                    simp only [Act.put]
                    refine wpAnyH_ready (rs := [20]) (by kernel_rfl) (by simp) (AllReadyH.cons rfl (fun K hK => ?_) AllReadyH.nil)
                    have kc := KO.out _ hB
                    have kf := hB.rO.frozen J
                    go_simp
                    have hs9 := hB.setO J s2
                    refine hK.out _ _ ⟨_, hs9⟩ (fun _ => ?_)
                    clear hK K kc kf
                    refine wpAnyH_done (by kernel_rfl) ?_ _
                    exact ⟨rfl, rfl, hs9⟩
            rw [ST2.out] at hst
            clear KO
            generalize hZZ : vecL n (fun z => bd OO z + sm (m + 1) fun y => if at2 js n y q = z then bd EE y else 0) = ZZ at *
            have HZZ := hide hZZ
            clear hZZ
            have x0 := row_below u0 hst.b lu0
            have lx0 := x0.lt
            have c0 := x0.cell (i := 0) rfl
            go_wp2_with fail
            refine wp_at (T := fun w2 => AtSt w6 w6.heap.size w1.heap.size Bp bw bi w6.heap.size (w6.heap.size + 1) n [.int .i64 n, .slice a n cap, .slice aj (n * n) cj, .slice am (n * n) cm, .int .i64 (bt : Nat), .int .i64 (tp : Nat), .bool false] [.int .i64 (A : Nat), .int .i64 (q : Nat)] EE OO (X1.set J s1) ZZ w2) ?_
            apply Exists.intro
            refine And.intro ?_ (fun V2 hst => ?_)
            ·
              refine wp_region_held_drew (S := fun V => ∃ X, AtSt w6 w6.heap.size w1.heap.size Bp bw bi w6.heap.size (w6.heap.size + 1) n [.int .i64 n, .slice a n cap, .slice aj (n * n) cj, .slice am (n * n) cm, .int .i64 (bt : Nat), .int .i64 (tp : Nat), .bool false] [.int .i64 (A : Nat), .int .i64 (q : Nat)] EE OO X ZZ V) (by kernel_rfl) ⟨_, hst.drew hst.big⟩ (fun hS0 => ?_)
              replace hst := hst.drew hst.big
              generalize World.drew _ = ud at *
              refine wpAnyH_take (i := 0) (v := .slice (some ⟨w6.heap.size, 0, none⟩) n n) rfl (by kernel_rfl) (by kernel_rfl) (by kernel_rfl) (fun _ _ _ h => nomatch h.1) (Or.inl ⟨by rfl, ?_⟩) hS0 ?_
              · intro w2 _
                go_simp
              simp only [Act.put]
              refine wpAnyH_take (i := 1) (v := .agg #[.int .i64 n, .slice a n cap, .slice aj (n * n) cj, .slice am (n * n) cm, .int .i64 (bt : Nat), .int .i64 (tp : Nat), .bool false]) rfl (by kernel_rfl) (by kernel_rfl) (by kernel_rfl) (fun _ _ _ h => nomatch h.1) (Or.inl ⟨by rfl, ?_⟩) hS0 ?_
              · intro w2 hS2
                obtain ⟨X2, hS2⟩ := hS2
                have c0 := hS2.rB.cell (i := 0) rfl
                have c1 := hS2.rB.cell (i := 1) rfl
                have c2 := hS2.rB.cell (i := 2) rfl
                have c3 := hS2.rB.cell (i := 3) rfl
                have c4 := hS2.rB.cell (i := 4) rfl
                have c5 := hS2.rB.cell (i := 5) rfl
                have c6 := hS2.rB.cell (i := 6) rfl
                have lb := hS2.rB.lt
                clear hS2
                go_simp
              simp only [Act.put]
              refine wpAnyH_take (i := 2) (v := .int .i64 (m : Nat)) rfl (by kernel_rfl) (by kernel_rfl) (by kernel_rfl) (fun _ _ _ h => nomatch h.1) (Or.inl ⟨by rfl, ?_⟩) hS0 ?_
              · intro w2 _
                go_simp
              simp only [Act.put]
              refine wpAnyH_take (i := 3) (v := .pointer (some ⟨Bp, 1, none⟩)) rfl (by kernel_rfl) (by kernel_rfl) (by kernel_rfl) (fun _ _ _ h => nomatch h.1) (Or.inl ⟨by rfl, ?_⟩) hS0 ?_
              · intro w2 _
                go_simp
              simp only [Act.put]
              refine wpAnyH_take (i := 4) (v := .int .i64 (q : Nat)) rfl (by kernel_rfl) (by kernel_rfl) (by kernel_rfl) (fun _ _ _ h => nomatch h.1) (Or.inl ⟨by rfl, ?_⟩) hS0 ?_
              · intro w2 hS2
                obtain ⟨X2, hS2⟩ := hS2
                have c1 := hS2.rP.cell (i := 1) rfl
                have lb := hS2.rP.lt
                clear hS2
                go_simp
              simp only [Act.put]
              refine wpAnyH_take (i := 6) (v := .slice (some ⟨w6.heap.size, 0, none⟩) n n) rfl (by kernel_rfl) (by kernel_rfl) (by kernel_rfl) (fun _ _ _ h => nomatch h.1) (Or.inl ⟨by rfl, ?_⟩) hS0 ?_
              · intro w2 _
                go_simp
              simp only [Act.put]
              refine wpAnyH_take (i := 7) (v := .agg #[.int .i64 n, .slice a n cap, .slice aj (n * n) cj, .slice am (n * n) cm, .int .i64 (bt : Nat), .int .i64 (tp : Nat), .bool false]) rfl (by kernel_rfl) (by kernel_rfl) (by kernel_rfl) (fun _ _ _ h => nomatch h.1) (Or.inl ⟨by rfl, ?_⟩) hS0 ?_
              · intro w2 hS2
                obtain ⟨X2, hS2⟩ := hS2
                have c0 := hS2.rB.cell (i := 0) rfl
                have c1 := hS2.rB.cell (i := 1) rfl
                have c2 := hS2.rB.cell (i := 2) rfl
                have c3 := hS2.rB.cell (i := 3) rfl
                have c4 := hS2.rB.cell (i := 4) rfl
                have c5 := hS2.rB.cell (i := 5) rfl
                have c6 := hS2.rB.cell (i := 6) rfl
                have lb := hS2.rB.lt
                clear hS2
                go_simp
              simp only [Act.put]
              refine wpAnyH_take (i := 8) (v := .int .i64 (m : Nat)) rfl (by kernel_rfl) (by kernel_rfl) (by kernel_rfl) (fun _ _ _ h => nomatch h.1) (Or.inl ⟨by rfl, ?_⟩) hS0 ?_
              · intro w2 _
                go_simp
              simp only [Act.put]
              refine wpAnyH_take (i := 9) (v := .pointer (some ⟨Bp, 1, none⟩)) rfl (by kernel_rfl) (by kernel_rfl) (by kernel_rfl) (fun _ _ _ h => nomatch h.1) (Or.inl ⟨by rfl, ?_⟩) hS0 ?_
              · intro w2 _
                go_simp
              simp only [Act.put]
              refine wpAnyH_take (i := 10) (v := .int .i64 (q : Nat)) rfl (by kernel_rfl) (by kernel_rfl) (by kernel_rfl) (fun _ _ _ h => nomatch h.1) (Or.inl ⟨by rfl, ?_⟩) hS0 ?_
              · intro w2 hS2
                obtain ⟨X2, hS2⟩ := hS2
                have c1 := hS2.rP.cell (i := 1) rfl
                have lb := hS2.rP.lt
                clear hS2
                go_simp
              simp only [Act.put]
              refine wpAnyH_take (i := 14) (v := .slice (some ⟨bi, 0, none⟩) n c9) rfl (by kernel_rfl) (by kernel_rfl) (by kernel_rfl) (fun _ _ _ h => nomatch h.1) (Or.inl ⟨by rfl, ?_⟩) hS0 ?_
              · intro w2 _
                go_simp
              simp only [Act.put]
              refine wpAnyH_take (i := 15) (v := .int .i64 (m : Nat)) rfl (by kernel_rfl) (by kernel_rfl) (by kernel_rfl) (fun _ _ _ h => nomatch h.1) (Or.inl ⟨by rfl, ?_⟩) hS0 ?_
              · intro w2 _
                go_simp
              simp only [Act.put]
              refine wpAnyH_take (i := 16) (v := .pointer (some ⟨bi, m, none⟩)) rfl (by kernel_rfl) (by kernel_rfl) (by kernel_rfl) (fun _ _ _ h => nomatch h.1) (Or.inl ⟨by rfl, ?_⟩) hS0 ?_
              · intro w2 _
                go_simp
              simp only [Act.put]
              refine wpAnyH_take (i := 17) (v := .int .i64 ly) rfl (by kernel_rfl) (by kernel_rfl) (by kernel_rfl) (fun _ _ _ h => nomatch h.1) (Or.inl ⟨by rfl, ?_⟩) hS0 ?_
              · intro w2 hS2
                obtain ⟨X2, hS2⟩ := hS2
                have c1 := KI.out _ _ _ hS2
                clear hS2
                go_simp
              simp only [Act.put]
              refine wpAnyH_ready (rs := [5]) (by kernel_rfl) (by simp) (AllReadyH.cons rfl (fun K hK => ?_) AllReadyH.nil)
              · go_simp
                refine (hor _ hst.b).mono ?_
                rintro e whA ⟨rfl, hbhA⟩
                have hA := hst.keep hbhA hst.big
                refine hK.out _ _ ⟨_, hA⟩ (fun _ => ?_)
                clear hK K
                refine wpAnyH_ready (rs := [11]) (by kernel_rfl) (by simp) (AllReadyH.cons rfl (fun K hK => ?_) AllReadyH.nil)
                · go_simp
                  refine (hor _ hA.b).mono ?_
                  rintro e whB ⟨rfl, hbhB⟩
                  have hB := hA.keep hbhB hA.big
                  refine hK.out _ _ ⟨_, hB⟩ (fun _ => ?_)
                  clear hK K
                  refine wpAnyH_take (i := 12) (v := .pointer (some ⟨w6.heap.size, J, none⟩)) rfl (by kernel_rfl) (by kernel_rfl) (by kernel_rfl) (fun _ _ _ h => nomatch h.1) (Or.inl ⟨by rfl, ?_⟩) ⟨_, hB⟩ ?_
                  · intro w2 _
                    go_simp
                  simp only [Act.put]
                  refine wpAnyH_ready (rs := [13]) (by kernel_rfl) (by simp) (AllReadyH.cons rfl (fun K hK => ?_) AllReadyH.nil)
                  · have kc := KE.out _ _ hB
                    go_simp
                    refine hK.out _ _ ⟨_, hB⟩ (fun _ => ?_)
                    clear hK K kc
                    refine wpAnyH_take (i := 18) (v := .int .i64 s1.toInt) rfl (by kernel_rfl) (by kernel_rfl) (by kernel_rfl) (fun _ _ _ h => nomatch h.1) (Or.inl ⟨by rfl, ?_⟩) ⟨_, hB⟩ ?_
                    · intro w2 _
                      go_simp
                    simp only [Act.put]
                    refine wpAnyH_take (i := 19) (v := .pointer (some ⟨w6.heap.size, J, none⟩)) rfl (by kernel_rfl) (by kernel_rfl) (by kernel_rfl) (fun _ _ _ h => nomatch h.1) (Or.inl ⟨by rfl, ?_⟩) ⟨_, hB⟩ ?_
                    · intro w2 _
                      go_simp
                    simp only [Act.put]
                    refine wpAnyH_ready (rs := [20]) (by kernel_rfl) (by simp) (AllReadyH.cons rfl (fun K hK => ?_) AllReadyH.nil)
                    have kc := KE.out _ _ hB
                    have kf := hB.rE.frozen J
                    go_simp
                    have hs9 := hB.setE J s1
                    refine hK.out _ _ ⟨_, hs9⟩ (fun _ => ?_)
                    clear hK K kc kf
                    refine wpAnyH_done (by kernel_rfl) ?_ _
                    exact ⟨rfl, rfl, hs9⟩
            rw [ST1.out] at hst
            have x0 := row_below u0 hst.b lu0
            have lx0 := x0.lt
            have c0 := x0.cell (i := 0) rfl
            clear KE KW KI
            go_wp2_with fail
            refine ⟨⟨m + 1, by omega, by go_num, by rw [HZZ.out]; exact hst⟩, by simp [intOf]; omega⟩
          · obtain rfl : m = n := by omega
            have hb9 := hst.b
            have t1 := hst.rE
            have t2 := hst.rO
            clear hst
            simp only [← HEE.out, ← HOO.out] at t1 t2
            have e1 := HEV.out true
            have e2 := HEV.out false
            simp only [Bool.not_true, Bool.not_false] at e1 e2
            rw [e1] at t1
            rw [e2] at t2
            clear e1 e2
            go_wp2_with fail
            exact ⟨⟨k + 1, by omega, by go_num, hb9, t1, t2⟩, by simp [intOf]; omega⟩
      · have g1 : ((A : Int) != (bt : Int)) = true := by rw [bne_iff_ne]; omega
        have hs := vec_same (bo := bt) (L := LL) (k := k) (by rw [hgd]; exact hA)
        have HS := hide hs
        clear hs hgd hA
        go_wp2_with fail
        refine ⟨⟨k + 1, by omega, by go_num, hb.alloc hbs _, by rw [HS.out]; exact rE.alloc _, by rw [HS.out]; exact rO.alloc _⟩, by simp [intOf]; omega⟩
    · obtain rfl : k = LL.length := by omega
      have hB7 := hB6.trans (hb.mono hB6.size)
      have hwt := hww tp htp
      have hsub := wrap_sub (evE (at2 js n) n bt true (atL bt LL LL.length) tp) (evE (at2 js n) n bt false (atL bt LL LL.length) tp)
      rw [← hwt] at hsub
      have hsub2 := (wrap_kindK _).trans hsub
      have hpl := plc_lt hbt htp
      have hrb : bt * n + n ≤ n * n := by
        have := Nat.mul_le_mul_right n (show bt + 1 ≤ n from hbt)
        rwa [Nat.succ_mul] at this
      have kq := vQ.cell (bvals_at (i := bt * n + tp) (by rw [hlm]; exact hpl))
      have ke := rE.cell (bvals_at (i := tp) (by rw [vecL_len]; exact htp))
      have ko := rO.cell (bvals_at (i := tp) (by rw [vecL_len]; exact htp))
      rw [bd_vecL _ htp] at ke ko
      generalize evE (at2 js n) n bt true (atL bt LL LL.length) tp = ev at *
      generalize evE (at2 js n) n bt false (atL bt LL LL.length) tp = od at *
      generalize (bd Q (bt * n + tp)).toInt = qv at *
      generalize ev.toInt = evi at *
      generalize od.toInt = odi at *
      have h4 := cell_regrown (vB.cell (i := 4) rfl)
      have h5 := cell_regrown (vB.cell (i := 5) rfl)
      have h0 := cell_regrown c0
      have hq := cell_regrown kq
      have he := cell_regrown ke
      have ho := cell_regrown ko
      clear hwt hww hjlt hcn kq ke ko c0
      go_wp2_with fail
      refine wp_region_quiet_below (by kernel_rfl) (by kernel_rfl) ?_
      repeat (go_big_quiet_step (fail))
      refine wpQuiet_nil ?_
      intro _ hw'
      obtain ⟨⟨dq, osq⟩, hw''⟩ := hw'
      subst hw''
      have hB8 := hB7.trans ((below_regrown _ dq osq).mono hB7.size)
      clear h4 h5 h0 hq he ho
      go_wp2_with fail
      go_ret
      exact ⟨rfl, hB8⟩

/-- **MobiusAtoms answers true, for every order, and writes nothing that was there** -/
theorem matoms_any (n : Int) (a : Option Addr) (cap : Nat) (us : List Nat) (n₀ : Nat) (hf : Fit us) (w : World) (hT : TabAt w) (hw : IsWords n₀ w a us) (hg : 0 < n₀) (hn₀ : n₀ ≤ w.heap.size) :
    Calls Tryd.prog 4 #[.agg #[.int .i64 n, .slice a us.length cap]] w fun e w' => e = .returned (.bool true) ∧ Below w.heap.size w w' := by
  by_cases hc : codeOf n us = 0
  · obtain ⟨ds, hD⟩ := tur_ex hf (by have := code_zero hc; omega)
    cases hl : latB us ds with
    | true =>
      obtain rfl := (code_zero hc).2.2.1
      exact matoms_in us.length a cap us ds n₀ rfl hf w hT hw hg hn₀ hc hD hl
    | false => exact matoms_err n a us.length cap w fun W hW => open_err n a us.length cap 5 (by decide) W fun X hX hs => Make_none n a cap us ds n₀ hf X ((hT.below hW (by omega)).below hX (by have := hW.size; omega)) ((hw.below (hW.mono hn₀)).below (hX.mono (by have := hW.size; omega))) hg (by have := hW.size; omega) hc hD hl
  · exact matoms_err n a us.length cap w fun W hW => open_err n a us.length cap _ hc W fun X hX hs => Make_bad n a cap us n₀ hf X ((hT.below hW (by omega)).below hX (by have := hW.size; omega)) ((hw.below (hW.mono hn₀)).below (hX.mono (by have := hW.size; omega))) hg (by have := hW.size; omega) hc
end Go.Proofs.YtjbfjdijgfhjfaaDoor
