/- Package mobius: strict. Package mobius: Zeta, Times, Sums. Package mobius: inverse. The contract of the program's sorted: the line of all elements, each behind what must come ahead of it. The contract of the program's others: each word without its own element. The contract of the program's Sorted: what is wrong, or all elements, each behind what is strictly below it. Package mobius: Mu, Inverse, Sums, Undo. The document's Longs, MobiusZeta, MobiusTimes, MobiusSums; the law package's ones and added. The document's MobiusZeta and MobiusSums. The walk of the law MobiusWeisner: it answers true, and writes nothing that was there. -/
import Derived.Test.YtgpafnlkegmdoaaDoorMobZeta
import Derived.Test.YtgpafnlkegmdoaaDoorMobIsTab
import Derived.Test.YtgpafnlkegmdoaaDoorCheck
import Derived.Lib.QuietBelow
import Derived.Test.YtgpafnlkegmdoaaDoorIntVals
import Derived.Test.YtgpafnlkegmdoaaDoorSortPlain
import Derived.Test.YtgpafnlkegmdoaaDoorQuietRound
import Derived.WalkMore
import Derived.Test.YtgpafnlkegmdoaaDoorOthPlain
import Derived.Test.YtgpafnlkegmdoaaDoorTurned
import Derived.Test.YtgpafnlkegmdoaaDoorOwns
import Derived.Test.YtgpafnlkegmdoaaDoorRefLow
import Derived.Test.YtgpafnlkegmdoaaDoorKeepReO
namespace Go.Proofs.YtgpafnlkegmdoaaDoor
open Go.RowKit Go.Shelf

theorem zetaN (n : Nat) (a : Option Addr) (cap : Nat) (us : List Nat) (n₀ : Nat) (hn : n = us.length) (hf : Fit us) (hl : n ≤ 16) (w : World) (hw : IsWords n₀ w a us) (hn₀ : n₀ ≤ w.heap.size) :
    Calls Tryd.prog 20 #[.agg #[.int .i64 n, .slice a n cap]] w fun e w' => ∃ p, e = .returned (sqV n p) ∧ w.heap.size ≤ p ∧ Below w.heap.size w w' ∧ Row w' p 2 (bvals (tabL n (zet us))) := by
  subst hn; exact zeta_any a cap us n₀ hf hl w hw hn₀

end Go.Proofs.YtgpafnlkegmdoaaDoor

namespace Go.Proofs.YtgpafnlkegmdoaaDoor
open Go.RowKit Go.Shelf

theorem run_field_at (n : Int) (a : Option Addr) (len cap : Nat) (w : World) : Sem.run Tryd.prog (Instr.field 58 (.agg #[.int .i64 n, .slice a len cap]) 1) w = .ok (.slice a len cap) w := by
  first | kernel_rfl | rfl
/-- the answer where there is none -/
def mobErr (c : Int) : Ending := .returned (.tuple #[.slice none 0 0, .int .i64 c])

end Go.Proofs.YtgpafnlkegmdoaaDoor

namespace Go.Proofs.YtgpafnlkegmdoaaDoor
open Go.RowKit Go.Shelf

/-- what the rounds of inverse hold, but for the square that they write -/
structure InvSt (w : World) (n p g B : Nat) (S : List B64) (V : World) : Prop where
  s : Row V p 2 (bvals S)
  bel : Below w.heap.size w V
  rB : Row V B 58 [.int .i64 n, .slice (some ⟨g, 0, none⟩) (n * n) (n * n)]
  r3 : Row V w.heap.size 58 [.int .i64 n, .slice (some ⟨p, 0, none⟩) (n * n) (n * n)]
  r4 : Row V (w.heap.size + 1) 58 [.int .i64 0, .slice none 0 0]
theorem InvSt.drew {w : World} {n p g B : Nat} {S : List B64} {V : World} (h : InvSt w n p g B S V) : InvSt w n p g B S V.drew := ⟨h.s, h.bel.drew, h.rB, h.r3, h.r4⟩
theorem InvSt.keep {w : World} {n p g B : Nat} {S : List B64} {A V : World} (hb : Below A.heap.size A V) (h : InvSt w n p g B S A) : InvSt w n p g B S V :=
  ⟨h.s.keep hb, h.bel.trans (hb.mono h.bel.size), h.rB.keep hb, h.r3.keep hb, h.r4.keep hb⟩
theorem InvSt.grown {w : World} {n p g B : Nat} {S : List B64} {A V : World} (hp : p < w.heap.size) (hg1 : w.heap.size + 1 < g) (hB : B ≠ g) (hg : A.grownBy V (some g)) (h : InvSt w n p g B S A) : InvSt w n p g B S V :=
  ⟨h.s.kept hg (by simp; omega), h.bel.trans (grown_below hg (by omega) h.bel.size), h.rB.kept hg (by simp; omega), h.r3.kept hg (by simp; omega), h.r4.kept hg (by simp; omega)⟩
theorem InvSt.all {w : World} {n p g B i : Nat} {S : List B64} {V : World} {x : Int} (hi : i < S.length) (hx : (bd S i).toInt = x) (h : InvSt w n p g B S V) :
    V.cell? ⟨B, 0, none⟩ = some (.int .i64 n) ∧ V.cell? ⟨B, 1, none⟩ = some (.slice (some ⟨g, 0, none⟩) (n * n) (n * n)) ∧ V.cell? ⟨w.heap.size, 0, none⟩ = some (.int .i64 n) ∧ V.cell? ⟨w.heap.size, 1, none⟩ = some (.slice (some ⟨p, 0, none⟩) (n * n) (n * n)) ∧ V.cell? ⟨p, i, none⟩ = some (.int .i64 x) ∧ InvSt w n p g B S V :=
  ⟨h.rB.cell (i := 0) rfl, h.rB.cell (i := 1) rfl, h.r3.cell (i := 0) rfl, h.r3.cell (i := 1) rfl, by rw [← hx]; exact h.s.cell (bvals_at hi), h⟩
theorem Row.drew {W : World} {b : Nat} {t : TypeId} {vs : List Value} (h : Row W b t vs) : Row W.drew b t vs := h
theorem wrap_kind (x : Int) : IntKind.i64.wrap x = wrap64 x := by rw [IntKind.wrap_i64]; unfold wrap64; rfl
theorem drop_wd {l : List Nat} {i : Nat} (h : i < l.length) : l.drop i = wd l i :: l.drop (i + 1) := by
  rw [List.drop_eq_getElem_cons h]; congr 1; unfold wd; simp [List.getD_eq_getElem?_getD, List.getElem?_eq_getElem h]
theorem take_wd {l : List Nat} {i : Nat} (h : i < l.length) : l.take (i + 1) = l.take i ++ [wd l i] := by
  rw [List.take_succ_eq_append_getElem h]; congr 2; unfold wd; simp [List.getD_eq_getElem?_getD, List.getElem?_eq_getElem h]
theorem wd_drop {l : List Nat} {i j : Nat} : wd (l.drop i) j = wd l (i + j) := by
  unfold wd; rw [List.getD_eq_getElem?_getD, List.getD_eq_getElem?_getD, List.getElem?_drop]
/-- one row under way -/
def accM (s : Mat) (a : Nat) (l : List Nat) (j : Nat) : Mat := fun r b => if r = a then one a b + sl (l.take j) (fun x => -(s a x) * invG s l x b) else invG s l r b
theorem accM_succ {s : Mat} {a : Nat} {l : List Nat} {m : Nat} (hm : m < l.length) (hxa : wd l m ≠ a) (r b : Nat) : accM s a l (m + 1) r b = accM s a l m r b + if r = a then -(s a (wd l m)) * accM s a l m (wd l m) b else 0 := by
  unfold accM
  by_cases e : r = a
  · rw [if_pos e, if_pos e, if_pos e, if_neg hxa, take_wd hm, sl_snoc]; grind
  · rw [if_neg e, if_neg e, if_neg e]; simp
/-- the row's places below j are turned -/
def mulM (s : Mat) (a : Nat) (l : List Nat) (j : Nat) : Mat := fun r b => if r = a then (if b < j then (one a b + sl l (fun x => -(s a x) * invG s l x b)) * s a a else one a b + sl l (fun x => -(s a x) * invG s l x b)) else invG s l r b

set_option maxRecDepth 100000 in
set_option maxHeartbeats 8000000 in
theorem inverse_any (n p : Nat) (hn : n ≤ 16) (S : List B64) (hlS : S.length = n * n) (al : Option Addr) (cl : Nat) (L : List Nat) (hlL : L.length = n) (hcap : n ≤ cl) (hLn : ∀ x ∈ L, x < n) (hnd : L.Nodup) (n₀ : Nat) (w : World) (hs : Row w p 2 (bvals S)) (hL : IsInts n₀ w al L) (hn₀ : n₀ ≤ w.heap.size) :
    Calls Tryd.prog 19 #[.slice al n cl, sqV n p] w fun e w' => ∃ g, e = .returned (sqV n g) ∧ w.heap.size ≤ g ∧ Below w.heap.size w w' ∧ Row w' g 2 (bvals (tabL n (invG (mat n S) L))) := by
  have h2 : n * n ≤ 256 := Nat.mul_le_mul hn hn
  have hrow := row_any n
  have hone := ones_any n hn
  have ltp := hs.lt
  unfold sqV at hrow hone
  unfold sqV
  go_enter Tryd.func19, Tryd.ntmps19
  go_wp2_with fail
  obtain ⟨W0, hW0⟩ : ∃ W0, (w.alloc (.cells #[.int .i64 n, .slice (some ⟨p, 0, none⟩) (n * n) (n * n)] 58)).alloc (.cells #[.int .i64 0, .slice none 0 0] 58) = W0 := ⟨_, rfl⟩
  obtain ⟨r3, r4, hB0, hs0⟩ : Row W0 w.heap.size 58 [.int .i64 n, .slice (some ⟨p, 0, none⟩) (n * n) (n * n)] ∧ Row W0 (w.heap.size + 1) 58 [.int .i64 0, .slice none 0 0] ∧ Below w.heap.size w W0 ∧ W0.heap.size = w.heap.size + 1 + 1 := by
    subst hW0
    have r1 := Row.new (w.alloc (.cells #[.int .i64 n, .slice (some ⟨p, 0, none⟩) (n * n) (n * n)] 58)) 58 [.int .i64 0, .slice none 0 0]
    rw [World.size_alloc] at r1
    exact ⟨(Row.new w 58 [.int .i64 n, .slice (some ⟨p, 0, none⟩) (n * n) (n * n)]).alloc _, r1, ((Below.refl _ _).alloc (Nat.le_refl _) _).alloc (by simp) _, by simp⟩
  rw [hW0]
  refine (hone _).mono ?_
  rintro e w1 ⟨g, rfl, hg0, hb1, hr1⟩
  have hs1 := hb1.size
  have lt1 := hr1.lt
  rw [hs0] at hs1 hg0
  obtain ⟨W1, hW1⟩ : ∃ W1, w1.alloc (.cells #[.int .i64 n, .slice (some ⟨g, 0, none⟩) (n * n) (n * n)] 58) = W1 := ⟨_, rfl⟩
  obtain ⟨r5, hB1, hs2⟩ := sq_cells w1 _ _ hW1
  have q3 := row_below (row_below r3 hb1 r3.lt) hB1 (by omega)
  have q4 := row_below (row_below r4 hb1 r4.lt) hB1 (by omega)
  have p1 := row_below hr1 hB1 hr1.lt
  have hBW : Below w.heap.size w W1 := (hB0.trans (hb1.mono (by omega))).trans (hB1.mono (by omega))
  go_wp2_with fail
  have hst : InvSt w n p g w1.heap.size S W1 := ⟨row_below hs hBW ltp, hBW, r5, q3, q4⟩
  have hg1 : w.heap.size + 1 < g := by omega
  have hBg : w1.heap.size ≠ g := by omega
  clear hone hB0 hr1 hb1 hB1 r3 r4 r5 q3 q4 hBW
  generalize w1.heap.size = B at *
  clear hW1 hW0
  go_loopw [6] (fun i wr => ∃ (k : Nat) (P : List B64), k ≤ n ∧ i = .int .i64 ((k : Int) - 1) ∧ InvSt w n p g B S wr ∧ Row wr g 2 (bvals P) ∧ P.length = n * n ∧ EqN n (mat n P) (invG (mat n S) (L.drop k))) (fun i _ => (intOf i + 1).toNat)
  case atStart => exact ⟨n, _, Nat.le_refl _, rfl, hst, p1, tabL_len _ _, by rw [List.drop_of_length_le (by omega)]; exact mat_tabL _⟩
  case round =>
    obtain ⟨k, P, hk, rfl, hst, rG, hlP, hP⟩ := hrel
    clear p1
    by_cases hlt : 0 < k
    · obtain ⟨i, rfl⟩ : ∃ i, k = i + 1 := ⟨k - 1, by omega⟩
      have hi : i < L.length := by omega
      obtain ⟨lb, lo, rfl, hlb, hlc⟩ := (hL.below (hst.bel.mono hn₀)).at hi
      have hca := hlc i hi
      have ei : ((i + 1 : Nat) : Int) - 1 = (i : Nat) := by omega
      rw [ei]
      have ha := hLn _ (wd_mem hi)
      have HLC := hide hlc
      clear hlc ei
      generalize wa : wd L i = a at *
      obtain ⟨rest, hrest⟩ : ∃ rest, rest = L.drop (i + 1) := ⟨_, rfl⟩
      have hlr : rest.length = n - (i + 1) := by rw [hrest, List.length_drop, hlL]
      have hdrop : L.drop i = a :: rest := by rw [hrest, ← wa]; exact drop_wd hi
      have hnr : a ∉ rest := by
        have h1 : (L.drop i).Nodup := hnd.sublist (List.drop_sublist _ _)
        rw [hdrop, List.nodup_cons] at h1; exact h1.1
      have hrn : ∀ x ∈ rest, x < n := fun x hx => hLn x (by rw [hrest] at hx; exact List.mem_of_mem_drop hx)
      have hrc : ∀ j, j < n - (i + 1) → ∀ V, InvSt w n p g B S V → V.cell? ⟨lb, lo + (i + 1) + j, none⟩ = some (.int .i64 (wd rest j : Nat)) := fun j hj V hV => by
        rw [hrest, wd_drop]
        obtain ⟨b2, o2, e2, _, h2⟩ := (hL.below (hV.bel.mono hn₀)).at (i := i + 1 + j) (by omega)
        cases e2
        rw [show lo + (i + 1) + j = lo + (i + 1 + j) by omega]
        exact h2 _ (by omega)
      have hPr : EqN n (mat n P) (accM (mat n S) a rest 0) := hP.trans fun r hr b hb => by
        unfold accM
        rw [← hrest]
        by_cases e : r = a
        · subst e; rw [if_pos rfl, List.take_zero, invG_out hnr]; simp [sl]
        · rw [if_neg e]
      clear hP HLC hL
      by_cases hcl : cl = i + 1
      · subst hcl
        go_wp2_with fail
        go_loopw [30] (fun j wr => ∃ (m : Nat) (P : List B64), m ≤ n - (i + 1) ∧ j = .int .i64 m ∧ InvSt w n p g B S wr ∧ Row wr g 2 (bvals P) ∧ P.length = n * n ∧ EqN n (mat n P) (accM (mat n S) a rest m)) (fun j _ => n - (i + 1) - (intOf j).toNat)
        case atStart => exact ⟨0, P, Nat.zero_le _, rfl, hst, rG, hlP, hPr⟩
        case round =>
          clear hPr hlP rG hst
          obtain ⟨m, P, hm, rfl, hst, rG, hlP, hP⟩ := hrel
          have hmt : ¬ m < n - (i + 1) := by omega
          obtain rfl : m = n - (i + 1) := by omega
          have hPm : EqN n (mat n P) (mulM (mat n S) a rest 0) := hP.trans fun r _ b _ => by
            unfold accM mulM
            rw [List.take_of_length_le (by omega)]
            simp
          have c0 := hst.rB.cell (i := 0) rfl
          have c1 := hst.rB.cell (i := 1) rfl
          clear hP
          go_wp2_with fail
          refine (hrow _ _ hn ha _).mono ?_
          rintro e w2 ⟨rfl, hb2⟩
          have hst2 := hst.keep hb2
          have rG2 := Row.keep rG hb2
          clear c0 c1 hst rG hb2
          go_wp2_with fail
          go_loopw [53] (fun j wr => ∃ (m : Nat) (P : List B64), m ≤ n ∧ j = .int .i64 m ∧ InvSt w n p g B S wr ∧ Row wr g 2 (bvals P) ∧ P.length = n * n ∧ EqN n (mat n P) (mulM (mat n S) a rest m)) (fun j _ => n - (intOf j).toNat)
          case atStart => exact ⟨0, P, Nat.zero_le _, rfl, hst2, rG2, hlP, hPm⟩
          case round =>
            clear hst2 rG2 hlP hPm
            obtain ⟨m, P, hm, rfl, hst, rG, hlP, hP⟩ := hrel
            by_cases hmt : m < n
            · have hax : a * n + a < S.length := by rw [hlS]; exact plc_lt ha ha
              have ham := plc_lt ha hmt
              obtain ⟨sv, hsv⟩ : ∃ sv, (bd S (a * n + a)).toInt = sv := ⟨_, rfl⟩
              obtain ⟨y, hy⟩ : ∃ y, bd P (a * n + m) * bd S (a * n + a) = y := ⟨_, rfl⟩
              have hPn : EqN n (mulM (mat n S) a rest (m + 1)) (fun r b => if r = a ∧ b = m then mulM (mat n S) a rest m a m * mat n S a a else mulM (mat n S) a rest m r b) := fun r _ b _ => by
                show _ = if r = a ∧ b = m then mulM (mat n S) a rest m a m * mat n S a a else mulM (mat n S) a rest m r b
                unfold mulM
                by_cases e : r = a
                · subst e
                  by_cases e2 : b = m
                  · subst e2; simp
                  · by_cases e3 : b < m
                    · have e4 : b < m + 1 := by omega
                      simp [e2, e3, e4]
                    · have e4 : ¬ b < m + 1 := by omega
                      simp [e2, e3, e4]
                · simp [e]
              have gc := rG.cell (bvals_at (i := a * n + m) (by omega))
              have gf := rG.frozen (a * n + m)
              have hmul : wrap64 ((bd P (a * n + m)).toInt * sv) = y.toInt := by rw [← hsv, ← hy]; exact wrap_mul _ _
              obtain ⟨gv, hgv⟩ : ∃ gv, (bd P (a * n + m)).toInt = gv := ⟨_, rfl⟩
              rw [hgv] at gc hmul
              have hw1 : IntKind.i64.wrap (gv * sv) = y.toInt := (wrap_kind _).trans hmul
              have hrest := hide hrest
              have hdrop := hide hdrop
              clear hrn hlr hnr hLn hnd
              have HP := hide hP
              have HPN := hide hPn
              clear hP hPn
              go_wp2_with fail
              have rG := Row.drew rG
              have st := hst.drew
              obtain ⟨d0, d1, d2, d3, d4, _⟩ := InvSt.all hax hsv hst
              go_region_with (first
                  | (go_at_call 35; with_reducible refine (hrow _ a hn ha _).mono ?_; rintro e w' ⟨rfl, hb⟩; have st := InvSt.keep hb st; obtain ⟨d0, d1, d2, d3, d4, _⟩ := InvSt.all hax hsv st; have rG := Row.keep rG hb; have gc := rG.cell (bvals_at (i := a * n + m) (by omega)); have gf := rG.frozen (a * n + m); rw [hgv] at gc))
              all_goals
                have hT := InvSt.grown ltp hg1 hBg (grownBy_setCellAt _ g (a * n + m) (.int .i64 y.toInt)) st
                have hset := rG.set (a * n + m) (.int .i64 y.toInt)
                rw [bvals_set] at hset
                try rw [hw1] at hT
                try rw [hw1]
                clear hb rG gc gf hmul hw1 hrow hst
                go_wp2
                refine ⟨⟨m + 1, P.set (a * n + m) y, by omega, by go_num, hT, hset, by rw [List.length_set, hlP], fun r hr b hb => ?_⟩, by simp [intOf]; omega⟩
                have e0 : mulM (mat n S) a rest (m + 1) r b = if r = a ∧ b = m then mulM (mat n S) a rest m a m * mat n S a a else mulM (mat n S) a rest m r b := HPN.out r hr b hb
                rw [e0]
                have e1 := HP.out r hr b hb
                have e2 := HP.out a ha m hmt
                unfold mat at e1 e2 ⊢
                show bd (P.set (a * n + m) y) (r * n + b) = _
                rw [bd_set (by omega)]
                by_cases e : a * n + m = r * n + b
                · obtain ⟨e3, e4⟩ := plc_inj hmt hb e
                  subst e3; subst e4
                  rw [if_pos rfl, if_pos ⟨rfl, rfl⟩, ← hy, e2]
                · rw [if_neg e, if_neg (fun h => e (by rw [h.1, h.2])), e1]
            · obtain rfl : m = n := by omega
              have hPf : EqN m (mat m P) (invG (mat m S) (L.drop i)) := hP.trans fun r _ b hb => by
                rw [hdrop]
                unfold mulM
                show _ = if r = a then (one a b + sl rest (fun x => -(mat m S a x) * invG (mat m S) rest x b)) * mat m S a a else invG (mat m S) rest r b
                rw [if_pos hb]
              clear hP
              go_wp2_with fail
              exact ⟨⟨i, P, by omega, by go_num, hst, rG, hlP, hPf⟩, by simp [intOf] <;> omega⟩
      · go_wp2_with fail
        go_loopw [30] (fun j wr => ∃ (m : Nat) (P : List B64), m ≤ n - (i + 1) ∧ j = .int .i64 m ∧ InvSt w n p g B S wr ∧ Row wr g 2 (bvals P) ∧ P.length = n * n ∧ EqN n (mat n P) (accM (mat n S) a rest m)) (fun j _ => n - (i + 1) - (intOf j).toNat)
        case atStart => exact ⟨0, P, Nat.zero_le _, rfl, hst, rG, hlP, hPr⟩
        case round =>
          clear hPr hlP rG hst
          obtain ⟨m, P, hm, rfl, hst, rG, hlP, hP⟩ := hrel
          by_cases hmt : m < n - (i + 1)
          · have hcx := hrc m hmt _ hst
            have hxr : wd rest m ∈ rest := wd_mem (by omega)
            have hx := hrn _ hxr
            have hxa : wd rest m ≠ a := fun e => hnr (e ▸ hxr)
            have hPn : EqN n (accM (mat n S) a rest (m + 1)) (fun r b => accM (mat n S) a rest m r b + if r = a then -(mat n S a (wd rest m)) * accM (mat n S) a rest m (wd rest m) b else 0) := fun r _ b _ => accM_succ (by omega) hxa r b
            generalize wd rest m = x at *
            have hax : a * n + x < S.length := by rw [hlS]; exact plc_lt ha hx
            have hrows : ∀ y, y < n → y * n + n ≤ n * n := fun y hy => by
              have := Nat.mul_le_mul_right n (show y + 1 ≤ n from hy)
              rwa [Nat.succ_mul] at this
            have hapart : x * n + n ≤ a * n ∨ a * n + n ≤ x * n := by
              rcases Nat.lt_or_ge x a with h | h
              · have := Nat.mul_le_mul_right n (show x + 1 ≤ a from h)
                rw [Nat.succ_mul] at this; exact .inl this
              · have := Nat.mul_le_mul_right n (show a + 1 ≤ x by omega)
                rw [Nat.succ_mul] at this; exact .inr this
            have hra := hrows a ha
            have hrx := hrows x hx
            obtain ⟨sv, hsv⟩ : ∃ sv, (bd S (a * n + x)).toInt = sv := ⟨_, rfl⟩
            obtain ⟨y, hy⟩ : ∃ y, -(bd S (a * n + x)) = y := ⟨_, rfl⟩
            have hneg : wrap64 (-sv) = y.toInt := by rw [← hsv, ← hy]; exact wrap_neg _
            have hneg2 : IntKind.i64.wrap (-sv) = y.toInt := (wrap_kind _).trans hneg
            have HP := hide hP
            have HPN := hide hPn
            have hadd := fun V (hV : Row V g 2 (bvals P)) => add_any g (a * n) n (n * n - a * n) g (x * n) (n * n - x * n) P (fun i => bd P (x * n + i)) y (by omega) (by omega) (by rw [hlP]; exact hra) V hV (fun W' T' _ hT' hlT' hT => by
              intro i hi
              have := hT'.cell (bvals_at (i := x * n + i) (by omega))
              rw [hT (x * n + i) (by omega)] at this
              exact this)
            clear hrc hP hPn hxr
            have hrest := hide hrest
            have hdrop := hide hdrop
            clear hrn hlr hnr hLn hnd hrows
            go_wp2_with fail
            have rG := Row.drew rG
            go_region_held3 (fun V => V.cell? ⟨B, 0, none⟩ = some (.int .i64 n) ∧ V.cell? ⟨B, 1, none⟩ = some (.slice (some ⟨g, 0, none⟩) (n * n) (n * n)) ∧ V.cell? ⟨w.heap.size, 0, none⟩ = some (.int .i64 n) ∧ V.cell? ⟨w.heap.size, 1, none⟩ = some (.slice (some ⟨p, 0, none⟩) (n * n) (n * n)) ∧ V.cell? ⟨p, a * n + x, none⟩ = some (.int .i64 sv) ∧ InvSt w n p g B S V) ((go_split_ands; first | exact InvSt.all hax hsv hst | exact InvSt.all hax hsv hst.drew | exact InvSt.all hax hsv (by assumption) | exact InvSt.all hax hsv (InvSt.keep hb (by assumption)) | exact InvSt.all hax hsv (InvSt.grown ltp hg1 hBg hg (by assumption)) | fail))
              (first
                | (go_at_call 35; with_reducible refine (hrow _ a hn ha _).mono ?_; rintro e w' ⟨rfl, hb⟩; have rG := Row.keep rG hb)
                | (go_at_call 35; with_reducible refine (hrow _ x hn hx _).mono ?_; rintro e w' ⟨rfl, hb⟩; have rG := Row.keep rG hb)
                | (go_at_call 34; with_reducible refine (hadd _ rG).mono ?_; rintro e w' ⟨rfl, hg, T', hT', hlT', hout, hin⟩))
            go_split_ands
            have hT := ‹InvSt w n p g B S w'›
            clear hg hb hadd rG hrow hneg hst hcx
            go_wp2
            refine ⟨⟨m + 1, T', by omega, by go_num, hT, hT', by rw [hlT', hlP], fun r hr b hb => ?_⟩, by simp [intOf]; omega⟩
            have e0 : accM (mat n S) a rest (m + 1) r b = accM (mat n S) a rest m r b + if r = a then -(mat n S a x) * accM (mat n S) a rest m x b else 0 := HPN.out r hr b hb
            rw [e0]
            have e1 := HP.out r hr b hb
            have e2 := HP.out x hx b hb
            unfold mat at e1 e2 ⊢
            show bd T' (r * n + b) = _
            by_cases e : r = a
            · subst e
              rw [hin b hb, if_pos rfl, e1, e2, hy]
            · rw [if_neg e, hout (r * n + b) (by
                rcases Nat.lt_or_ge r a with h | h
                · have := Nat.mul_le_mul_right n (show r + 1 ≤ a from h)
                  rw [Nat.succ_mul] at this; exact .inl (by omega)
                · have := Nat.mul_le_mul_right n (show a + 1 ≤ r by omega)
                  rw [Nat.succ_mul] at this; exact .inr (by omega)), e1]; simp
          · obtain rfl : m = n - (i + 1) := by omega
            have hPm : EqN n (mat n P) (mulM (mat n S) a rest 0) := hP.trans fun r _ b _ => by
              unfold accM mulM
              rw [List.take_of_length_le (by omega)]
              simp
            have c0 := hst.rB.cell (i := 0) rfl
            have c1 := hst.rB.cell (i := 1) rfl
            clear hP
            go_wp2_with fail
            refine (hrow _ _ hn ha _).mono ?_
            rintro e w2 ⟨rfl, hb2⟩
            have hst2 := hst.keep hb2
            have rG2 := Row.keep rG hb2
            clear c0 c1 hst rG hb2
            go_wp2_with fail
            go_loopw [53] (fun j wr => ∃ (m : Nat) (P : List B64), m ≤ n ∧ j = .int .i64 m ∧ InvSt w n p g B S wr ∧ Row wr g 2 (bvals P) ∧ P.length = n * n ∧ EqN n (mat n P) (mulM (mat n S) a rest m)) (fun j _ => n - (intOf j).toNat)
            case atStart => exact ⟨0, P, Nat.zero_le _, rfl, hst2, rG2, hlP, hPm⟩
            case round =>
              clear hst2 rG2 hlP hPm
              obtain ⟨m, P, hm, rfl, hst, rG, hlP, hP⟩ := hrel
              by_cases hmt : m < n
              · have hax : a * n + a < S.length := by rw [hlS]; exact plc_lt ha ha
                have ham := plc_lt ha hmt
                obtain ⟨sv, hsv⟩ : ∃ sv, (bd S (a * n + a)).toInt = sv := ⟨_, rfl⟩
                obtain ⟨y, hy⟩ : ∃ y, bd P (a * n + m) * bd S (a * n + a) = y := ⟨_, rfl⟩
                have hPn : EqN n (mulM (mat n S) a rest (m + 1)) (fun r b => if r = a ∧ b = m then mulM (mat n S) a rest m a m * mat n S a a else mulM (mat n S) a rest m r b) := fun r _ b _ => by
                  show _ = if r = a ∧ b = m then mulM (mat n S) a rest m a m * mat n S a a else mulM (mat n S) a rest m r b
                  unfold mulM
                  by_cases e : r = a
                  · subst e
                    by_cases e2 : b = m
                    · subst e2; simp
                    · by_cases e3 : b < m
                      · have e4 : b < m + 1 := by omega
                        simp [e2, e3, e4]
                      · have e4 : ¬ b < m + 1 := by omega
                        simp [e2, e3, e4]
                  · simp [e]
                have gc := rG.cell (bvals_at (i := a * n + m) (by omega))
                have gf := rG.frozen (a * n + m)
                have hmul : wrap64 ((bd P (a * n + m)).toInt * sv) = y.toInt := by rw [← hsv, ← hy]; exact wrap_mul _ _
                obtain ⟨gv, hgv⟩ : ∃ gv, (bd P (a * n + m)).toInt = gv := ⟨_, rfl⟩
                rw [hgv] at gc hmul
                have hw1 : IntKind.i64.wrap (gv * sv) = y.toInt := (wrap_kind _).trans hmul
                have hrest := hide hrest
                have hdrop := hide hdrop
                clear hrn hlr hnr hLn hnd
                have HP := hide hP
                have HPN := hide hPn
                clear hP hPn
                go_wp2_with fail
                have rG := Row.drew rG
                have st := hst.drew
                obtain ⟨d0, d1, d2, d3, d4, _⟩ := InvSt.all hax hsv hst
                go_region_with (first
                    | (go_at_call 35; with_reducible refine (hrow _ a hn ha _).mono ?_; rintro e w' ⟨rfl, hb⟩; have st := InvSt.keep hb st; obtain ⟨d0, d1, d2, d3, d4, _⟩ := InvSt.all hax hsv st; have rG := Row.keep rG hb; have gc := rG.cell (bvals_at (i := a * n + m) (by omega)); have gf := rG.frozen (a * n + m); rw [hgv] at gc))
                all_goals
                  have hT := InvSt.grown ltp hg1 hBg (grownBy_setCellAt _ g (a * n + m) (.int .i64 y.toInt)) st
                  have hset := rG.set (a * n + m) (.int .i64 y.toInt)
                  rw [bvals_set] at hset
                  try rw [hw1] at hT
                  try rw [hw1]
                  clear hb rG gc gf hmul hw1 hrow hst
                  go_wp2
                  refine ⟨⟨m + 1, P.set (a * n + m) y, by omega, by go_num, hT, hset, by rw [List.length_set, hlP], fun r hr b hb => ?_⟩, by simp [intOf]; omega⟩
                  have e0 : mulM (mat n S) a rest (m + 1) r b = if r = a ∧ b = m then mulM (mat n S) a rest m a m * mat n S a a else mulM (mat n S) a rest m r b := HPN.out r hr b hb
                  rw [e0]
                  have e1 := HP.out r hr b hb
                  have e2 := HP.out a ha m hmt
                  unfold mat at e1 e2 ⊢
                  show bd (P.set (a * n + m) y) (r * n + b) = _
                  rw [bd_set (by omega)]
                  by_cases e : a * n + m = r * n + b
                  · obtain ⟨e3, e4⟩ := plc_inj hmt hb e
                    subst e3; subst e4
                    rw [if_pos rfl, if_pos ⟨rfl, rfl⟩, ← hy, e2]
                  · rw [if_neg e, if_neg (fun h => e (by rw [h.1, h.2])), e1]
              · obtain rfl : m = n := by omega
                have hPf : EqN m (mat m P) (invG (mat m S) (L.drop i)) := hP.trans fun r _ b hb => by
                  rw [hdrop]
                  unfold mulM
                  show _ = if r = a then (one a b + sl rest (fun x => -(mat m S a x) * invG (mat m S) rest x b)) * mat m S a a else invG (mat m S) rest r b
                  rw [if_pos hb]
                clear hP
                go_wp2_with fail
                exact ⟨⟨i, P, by omega, by go_num, hst, rG, hlP, hPf⟩, by simp [intOf] <;> omega⟩
    · obtain rfl : k = 0 := by omega
      have f0 := hst.r4.frozen 0
      have f1 := hst.r4.frozen 1
      have d0 := hst.r4.cell (i := 0) rfl
      have d1 := hst.r4.cell (i := 1) rfl
      have c0 := hst.rB.cell (i := 0) rfl
      have c1 := hst.rB.cell (i := 1) rfl
      have ltB := hst.rB.lt
      have lt4 := hst.r4.lt
      have ltP := rG.lt
      have e : P = tabL n (invG (mat n S) L) := mat_ext hlP (tabL_len _ _) (hP.trans (by rw [List.drop_zero]; exact (mat_tabL _).symm))
      subst e
      clear hP hlP hrow
      go_wp2
      have kk := (hst.r4.set 0 (.int .i64 n)).set 1 (.slice (some ⟨g, 0, none⟩) (n * n) (n * n))
      have e0 := kk.cell (i := 0) rfl
      have e1 := kk.cell (i := 1) rfl
      refine bodyPost_ret (v := .agg #[.int .i64 n, .slice (some ⟨g, 0, none⟩) (n * n) (n * n)]) (by simp [results, Tryd.results19, go_sem, e0, e1]) rfl ⟨_, rfl, by omega, ?_, ?_⟩
      · exact (hst.bel.setCell (p := ⟨w.heap.size + 1, 0, none⟩) (by simp) _).setCell (p := ⟨w.heap.size + 1, 1, none⟩) (by simp) _
      · exact (rG.other (by omega) _ _).other (by omega) _ _
end Go.Proofs.YtgpafnlkegmdoaaDoor

namespace Go.Proofs.YtgpafnlkegmdoaaDoor
open Go.RowKit Go.Shelf
attribute [local go_sem] Oper.semAt_some

theorem scope_wide {n : Nat} {P : Program} {c : Code} {Q : Exit → Act → World → Prop} {a : Act} {w : World} (h : c.wpIn Fence.wide n P (Exit.noGoto Q) a w) : (Code.scope c).wpIn Fence.wide n P Q a w :=
  wpIn_wide.2 (wp_scope_straight (wpIn_wide.1 h))
/-- x must come ahead of i -/
def aheadB (es : List Nat) (x i : Nat) : Bool := hasB (wd es i) x
/-- the word has just what is left -/
def LeftIs (n : Nat) (done : List Nat) (x : Nat) : Prop := x < 4294967296 ∧ ∀ i, hasB x i = (decide (i < n) && !memB done i)
theorem left_start {n : Nat} (h : n ≤ 16) : LeftIs n [] (allW n) := ⟨allW_lt (by omega), fun i => by rw [hasB_all]; simp [memB]⟩
theorem left_step {n : Nat} {done : List Nat} {x y : Nat} (h : LeftIs n done x) : LeftIs n (done ++ [y]) (andN x (bitW y)) := by
  refine ⟨andN_lt h.1, fun i => ?_⟩
  rw [hasB_andN h.1, hasB_bitW, h.2]
  by_cases e : y = i
  · subst e; simp [memB]
  · have e' : ¬ i = y := fun h => e h.symm
    simp [memB, e, e']
theorem left_ready {es : List Nat} {done : List Nat} {x y : Nat} (h : LeftIs es.length done x) (hy : hasB x y = true) : andW (wd es y) x = 0 ↔ readyB (aheadB es) es.length done y = true := by
  have hyd := h.2 y
  rw [hy, eq_comm, Bool.and_eq_true, Bool.not_eq_true'] at hyd
  have hyn : y ∉ done := memB_false.1 hyd.2
  rw [word_zero, readyB_true]
  constructor
  · intro g
    refine ⟨hyn, fun z hz hR => ?_⟩
    have := g z
    rw [hasB_and, h.2] at this
    unfold aheadB at hR
    rw [hR] at this
    exact memB_true.1 (by simpa [hz] using this)
  · rintro ⟨_, g⟩ z
    rw [hasB_and, h.2]
    cases hR : hasB (wd es y) z with
    | false => rfl
    | true =>
      by_cases hz : z < es.length
      · simp [memB_true.2 (g z hz hR)]
      · simp [hz]
/-- the one that was found is the next one -/
theorem left_next {es : List Nat} {done : List Nat} {x : Nat} (h : LeftIs es.length done x) (h64 : x < 18446744073709551616) {pre : List (El x)} {y : El x} (hp : pre ++ [y] <+: elemsS x h64)
    (hno : ∀ z ∈ pre, readyB (aheadB es) es.length done z.1 = false) (hr : readyB (aheadB es) es.length done y.1 = true) : nextF (aheadB es) es.length done = y.1 := by
  have hyn : y.1 < es.length := by have := h.2 y.1; rw [y.2] at this; simp at this; exact this.1
  refine next_of hyn hr fun j hj => ?_
  by_cases hjl : hasB x j = true
  · -- j is ahead of y in the list of elements
    obtain ⟨t, ht⟩ := hp
    have hs := sorted_elems h64
    rw [← elemsS_val x h64, ← ht] at hs
    have hjm : (⟨j, hjl⟩ : El x) ∈ elemsS x h64 := mem_elemsS h64 _
    rw [← ht] at hjm
    rcases List.mem_append.1 hjm with hm | hm
    · rcases List.mem_append.1 hm with hm | hm
      · exact hno _ hm
      · simp at hm
        have : j = y.1 := by rw [← hm]
        omega
    · rw [List.map_append, List.pairwise_append] at hs
      have := hs.2.2 y.1 (by simp) j (List.mem_map.2 ⟨_, hm, rfl⟩)
      omega
  · apply readyB_false
    rintro ⟨hnd, _⟩
    apply hjl
    rw [h.2]
    simp [memB_false.2 hnd]; omega

set_option maxRecDepth 100000 in
set_option maxHeartbeats 1000000 in
theorem sorted_any (a : Option Addr) (cap : Nat) (es : List Nat) (n₀ : Nat) (hf : Fit es) (hl : es.length ≤ 16) (hA : Acy (aheadB es) es.length) (w : World) (hT : TabAt w) (hw : IsWords n₀ w a es) (hg : 0 < n₀) (hn₀ : n₀ ≤ w.heap.size) :
    Calls Tryd.prog 32 #[.slice a es.length cap] w fun e w' => ∃ av cv, e = .returned (.slice av es.length cv) ∧ Below w.heap.size w w' ∧ w'.ownsRow w.heap.size 3 1 (.slice av es.length cv) es.length (ivals (sortF (aheadB es) es.length es.length)) := by
  have hfn := wide_fn
  have hdep := wide_depth
  obtain ⟨i0, hi, hz0, hz1, hz2⟩ := info_parts info_int
  refine (callsIn_wide (n := 6)).1 ?_
  refine callsIn_of_wp_marks Tryd.func32 rfl trivial ?_ rfl
  simp only [Tryd.ntmps32, List.size_toArray, List.length_cons, List.length_nil, Nat.reduceAdd, Nat.reduceSub, Array.replicate_succ, Array.replicate_zero, List.push_toArray, List.append_toArray, List.nil_append, List.cons_append]
  gi_wp2
  refine scope_wide ?_
  gi_wp2_with (first
    | (gi_at_make; refine wpListIn_make_own _ rfl _ _ 25 rfl (w.heap.size + 1) 3 i0 (.int .i64 0) 1 Tryd.underlying25 hi hz0 hz1 .i64 .i64 _ es.length rfl rfl rfl (by rw [hz2]; omega) (by unfold maxLen; omega) (by simp) ?_; intro w1 hown1 hgrow1; have bU1 := (Boxed.new w 22 (.slice a es.length cap)).kept hgrow1 (by simp); have cU1 := bU1.cell; have lU1 := bU1.lt)
    | (gi_at_call 53; refine (callsIn_wide.2 (all_any es.length (by omega) _)).mono ?_; rintro e w' ⟨rfl, rfl⟩)
    | refine wpIn_label ?_)
  refine wpIn_loop (fun ac W => ∃ (k : Nat) (ms : List Deferred) (L : List Nat) (av : Option Addr) (cv x : Nat) (u5 u15 u16 u17 u18 u19 u20 u21 u22 u23 u24 u25 u26 u27 u28 u29 u30 u31 u32 u33 u34 : Value), ac = { tmps := #[.slice a es.length cap, .pointer (some ⟨w.heap.size, 0, none⟩), .slice none 0 0, .pointer (some ⟨w1.heap.size, 0, none⟩), .pointer (some ⟨w1.heap.size + 1, 0, none⟩), u5, .slice a es.length cap, .int .i64 es.length, .slice (some ⟨w.heap.size + 1, 0, none⟩) 0 es.length, .slice a es.length cap, .int .i64 es.length, .int .u32 (allW es.length : Nat), .slice a es.length cap, .int .i64 es.length, .int .i64 (k : Nat), u15, u16, u17, u18, u19, u20, u21, u22, u23, u24, u25, u26, u27, u28, u29, u30, u31, u32, u33, u34, undef], defers := ms } ∧ k ≤ es.length ∧ L = sortF (aheadB es) es.length k ∧ LeftIs es.length L x ∧ (Boxed W w.heap.size 22 (.slice a es.length cap) ∧ Boxed W w1.heap.size 25 (.slice av L.length cv) ∧ Boxed W (w1.heap.size + 1) 50 (.int .u32 (x : Nat))) ∧ W.ownsRow (w.heap.size + 1) 3 1 (.slice av L.length cv) L.length (ivals L) ∧ Below w.heap.size w W ∧ Marks w.heap.size W W.heap.size ms) (fun ac _ => es.length - (intOf (ac.tmps.getD 14 undef)).toNat) ?start ?round
  case start =>
    have hB1 : Below w.heap.size w w1 := ((Below.refl _ _).alloc (Nat.le_refl _) _).grown hgrow1 (by simp) (fun j e => by cases e)
    have hs1 := hB1.size
    have b2 := Boxed.new (w1.alloc (.cells #[.slice (some ⟨w.heap.size + 1, 0, none⟩) 0 es.length] 25)) 50 (.int .u32 (allW es.length : Nat))
    rw [World.size_alloc] at b2 hown1
    exact ⟨0, [], [], some ⟨w.heap.size + 1, 0, none⟩, es.length, _, _, _, _, _, _, _, _, _, _, _, _, _, _, _, _, _, _, _, _, _, _, rfl, Nat.zero_le _, rfl, left_start hl, ⟨(bU1.alloc _).alloc _, (Boxed.new w1 _ _).alloc _, b2⟩, (hown1.alloc _).alloc _, (hB1.alloc hs1 _).alloc (by simp; omega) _, trivial⟩
  case round =>
    have hB1 : Below w.heap.size w w1 := ((Below.refl _ _).alloc (Nat.le_refl _) _).grown hgrow1 (by simp) (fun j e => by cases e)
    have hs1 : w.heap.size + 1 ≤ w1.heap.size := by have := hgrow1.size; simpa using this
    clear bU1 cU1 lU1 hown1 hgrow1 hB1
    rintro _ W ⟨k, ms, L, av, cv, x, u5, u15, u16, u17, u18, u19, u20, u21, u22, u23, u24, u25, u26, u27, u28, u29, u30, u31, u32, u33, u34, rfl, hk, hL, hLeft, ⟨bU, bL, bX⟩, hown, hB, hM⟩
    have HL := hide hL
    clear hL
    have hsz := hB.size
    have cX := bX.cell
    have cL := bL.cell
    have ltX := bX.lt
    have ltL := bL.lt
    by_cases hlt : k < es.length
    · gi_wp2_with (gi_at_call 24; refine (callsIn_wide.2 (bitsOf_any x _)).mono ?_; rintro e w' ⟨rfl, rfl⟩)
      have bY := Boxed.new W 50 (.int .u32 (x : Nat))
      have hB2 := hB.alloc hsz (.cells #[.int .u32 (x : Nat)] 50)
      have hT2 : TabAt (W.alloc (.cells #[.int .u32 (x : Nat)] 50)) := hT.below hB2 (by omega)
      refine wpIn_rangeFunc_ownF rfl (by omega) (gf := 41) (lb := #[.pointer (some ⟨W.heap.size, 0, none⟩)]) rfl trivial (enters_of Tryd.func41 (by kernel_rfl) rfl)
        (bitsOf_stops 5 W.heap.size w.heap.size _ hLeft.1 _ (by simp) (by simp; omega) bY.cell hT2 (by omega)) belowK_t (belowK_b (by simp; omega)) (Below.refl _ _) (fun _ => rfl)
        (fun pre W' => ((Boxed W' w.heap.size 22 (.slice a es.length cap) ∧ (Boxed W' w1.heap.size 25 (.slice av L.length cv) ∧ Boxed W' (w1.heap.size + 1) 50 (.int .u32 (x : Nat)))) ∧ W'.ownsRow (w.heap.size + 1) 3 1 (.slice av L.length cv) L.length (ivals L)) ∧ ((Below w.heap.size w W' ∧ Marks w.heap.size W' W.heap.size ms) ∧ ∀ z ∈ pre, readyB (aheadB es) es.length L z.1 = false))
        (fun c pre W' => ∃ (y : El x) (av' : Option Addr) (cv' : Nat), ((Boxed W' w.heap.size 22 (.slice a es.length cap) ∧ (Boxed W' w1.heap.size 25 (.slice av' (L ++ [y.1]).length cv') ∧ Boxed W' (w1.heap.size + 1) 50 (.int .u32 (andN x (bitW y.1) : Nat)))) ∧ W'.ownsRow (w.heap.size + 1) 3 1 (.slice av' (L ++ [y.1]).length cv') (L ++ [y.1]).length (ivals (L ++ [y.1]))) ∧ ((Below w.heap.size w W' ∧ Marks w.heap.size W' W.heap.size ms) ∧ (c = .exit 1 ∧ readyB (aheadB es) es.length L y.1 = true ∧ ∃ pre', pre = pre' ++ [y] ∧ ∀ z ∈ pre', readyB (aheadB es) es.length L z.1 = false)))
        (OwnFrom.and (OwnFrom.and (OwnFrom.and (Own.from (boxed_own _ _ _) _) (OwnFrom.and (Own.from (boxed_own _ _ _) _) (Own.from (boxed_own _ _ _) _))) (Own.from (ownsRow_own _ _ _ _ _ _) _)) (OwnFrom.and (OwnFrom.and (ownFrom_below (Nat.le_refl _) (by simp; omega)) (marks_own (by simp) ms)) (ownFrom_pure _ _)))
        (fun c => ownFrom_ex fun y => ownFrom_ex fun av' => ownFrom_ex fun cv' => OwnFrom.and (OwnFrom.and (OwnFrom.and (Own.from (boxed_own _ _ _) _) (OwnFrom.and (Own.from (boxed_own _ _ _) _) (Own.from (boxed_own _ _ _) _))) (Own.from (ownsRow_own _ _ _ _ _ _) _)) (OwnFrom.and (OwnFrom.and (ownFrom_below (Nat.le_refl _) (by simp; omega)) (marks_own (by simp) ms)) (ownFrom_pure _ _)))
        ⟨⟨⟨bU.alloc _, bL.alloc _, bX.alloc _⟩, hown.alloc _⟩, ⟨hB2, hM.others (KeepsOthers.alloc _ _)⟩, by simp⟩
        (fun y => { tmps := #[.slice a es.length cap, .pointer (some ⟨w.heap.size, 0, none⟩), .slice none 0 0, .pointer (some ⟨w1.heap.size, 0, none⟩), .pointer (some ⟨w1.heap.size + 1, 0, none⟩), .int .i64 (y.1 : Nat), .slice a es.length cap, .int .i64 es.length, .slice (some ⟨w.heap.size + 1, 0, none⟩) 0 es.length, .slice a es.length cap, .int .i64 es.length, .int .u32 (allW es.length : Nat), .slice a es.length cap, .int .i64 es.length, .int .i64 (k : Nat), .bool true, .int .u32 (x : Nat), .func (.func 41) #[] #[.pointer (some ⟨W.heap.size, 0, none⟩)], .int .i64 (y.1 : Nat), u19, u20, u21, u22, u23, u24, u25, u26, u27, u28, u29, u30, u31, u32, u33, u34, undef], defers := [] }) ?assign ?body ?done ?stop
      case assign =>
        intro l x W' K hK
        gi_wp2
        exact hK
      case body =>
        rintro l pre y W' ⟨⟨⟨bU', bL', bX'⟩, hown'⟩, ⟨hB', hM'⟩, hno⟩ _
        have hyn : y.1 < es.length := by have := hLeft.2 y.1; rw [y.2, eq_comm, Bool.and_eq_true] at this; simpa using this.1
        have hlen : L.length ≤ 16 := by rw [HL.out, sortF_len]; omega
        have hiff := left_ready hLeft y.2
        have cU' := bU'.cell
        have cX' := bX'.cell
        have cL' := bL'.cell
        have ltU' := bU'.lt
        have ltX' := bX'.lt
        have ltL' := bL'.lt
        obtain ⟨b, off, rfl, hb, hc⟩ := (hw.below (hB'.mono hn₀)).at hyn
        have cY := hc y.1 hyn
        clear hc
        have hbits := bits_and32 (wd es y.1) x (hf _) hLeft.1
        cases hr : readyB (aheadB es) es.length L y.1 with
        | false =>
          have hne : andW (wd es y.1) x ≠ 0 := fun e => by rw [hiff.1 e] at hr; cases hr
          have hd : (((andW (wd es y.1) x : Nat) : Int) == 0) = false := by rw [beq_eq_false_iff_ne]; omega
          have Hr := hide hr
          clear hr hne hiff
          gi_wp2
          refine region_quietR l rfl (by kernel_rfl) (by kernel_rfl) (by kernel_rfl) ?_
          repeat (gi_big_quiet_step (fail))
          refine wpQuietIn_nil ?_
          intro _ hw'
          obtain ⟨nq, hw''⟩ := hw'
          subst hw''
          gi_wp2
          exact ⟨keeps_drewN _ _, below_drewN (Below.refl _ _) _, ⟨⟨bU', bL', bX'⟩, hown'⟩, ⟨below_drewN hB' nq, hM'.others (keeps_drewN _ nq)⟩, fun z hz => (List.mem_append.1 hz).elim (hno z) (fun e => by simp at e; subst e; exact Hr.out)⟩
        | true =>
          have hz := hiff.2 hr
          rw [hz] at hbits
          have Hr := hide hr
          clear hr hz hiff
          gi_wp2
          refine region_quietR l rfl (by kernel_rfl) (by kernel_rfl) (by kernel_rfl) ?_
          repeat (gi_big_quiet_step (fail))
          refine wpQuietIn_nil ?_
          intro _ hw'
          obtain ⟨nq, hw''⟩ := hw'
          subst hw''
          have bUv : Boxed (W'.drewN nq) w.heap.size 22 (.slice (some ⟨b, off, none⟩) es.length cap) := bU'
          have bLv : Boxed (W'.drewN nq) w1.heap.size 25 (.slice av L.length cv) := bL'
          have bXv : Boxed (W'.drewN nq) (w1.heap.size + 1) 50 (.int .u32 (x : Nat)) := bX'
          have hownv : (W'.drewN nq).ownsRow (w.heap.size + 1) 3 1 (.slice av L.length cv) L.length (ivals L) := hown'
          have hBv := below_drewN hB' nq
          have hMv := hM'.others (keeps_drewN _ nq)
          have hKv := keeps_drewN W' nq
          have hBW := below_drewN (Below.refl w.heap.size W') nq
          clear bU' bL' bX' hown' hB' hM' cU' cX' cL' cY ltU' ltX' ltL'
          generalize W'.drewN nq = V at *
          have cL' := bLv.cell
          have hVs := hBv.size
          have hVL := bLv.lt
          have hVX := bXv.lt
          have hneL := bLv.not_row (by decide) hownv
          have hneX := bXv.not_row (by decide) hownv
          have hneU := bUv.not_row (by decide) hownv
          gi_wp2_with (gi_at_builtin; refine wpListIn_append_own _ rfl _ _ 25 rfl (w.heap.size + 1) 3 i0 (.int .i64 0) 1 8 Tryd.underlying25 hi hz0 hz1 hz2 rfl (by decide) _ _ _ rfl (hownv.alloc _) ⟨V.heap.size, 0, none⟩ 1 1 [.int .i64 (y.1 : Nat)] rfl rfl (cell_one_new _ _ _) (fun u hu => by simp at hu; subst hu; rfl) (by unfold maxLen; omega) (by omega) (by simp; omega) ?_; intro v' w3 hown3 hgrow3 _; obtain ⟨g', cap', rfl⟩ := ownsRow_succ hown3; have bL3 := (bLv.alloc (.cells #[.int .i64 (y.1 : Nat)] 3)).kept hgrow3 hneL; have bX3 := (bXv.alloc (.cells #[.int .i64 (y.1 : Nat)] 3)).kept hgrow3 hneX; have cL3 := bL3.cell; have fL3 := bL3.frozen)
          have hout : ∀ j, Value.ownBlock (.slice av L.length cv) = some j → w.heap.size ≤ j := fun j ej => by
            apply Nat.le_of_not_lt; intro hjl
            exact ownBlock_ge hownv (b := j) (by omega) ej.symm
          have bU3 := (bUv.alloc (.cells #[.int .i64 (y.1 : Nat)] 3)).kept hgrow3 hneU
          have hK3 : KeepsOthers W' w3 := (hKv.trans (KeepsOthers.alloc _ _)).trans (keeps_own (hownv.alloc _) hgrow3)
          have hB3 : Below w.heap.size w w3 := (hBv.alloc hVs _).grown hgrow3 (by simp; omega) hout
          have hM3 : Marks w.heap.size w3 W.heap.size ms := (hMv.others (KeepsOthers.alloc _ _)).others (keeps_own (hownv.alloc _) hgrow3)
          have hneL3 := bL3.not_row (by decide) hown3
          have hneX3 := bX3.not_row (by decide) hown3
          have bU4 := boxed_otherAt bU3 (b := w1.heap.size) (by omega) 0 (.slice (some ⟨g', 0, none⟩) (L.length + 1) cap')
          have bX4 := boxed_otherAt bX3 (b := w1.heap.size) (by omega) 0 (.slice (some ⟨g', 0, none⟩) (L.length + 1) cap')
          have bL4 := bL3.set (.slice (some ⟨g', 0, none⟩) (L.length + 1) cap')
          have hown4 := hown3.kept (grownBy_setCellAt w3 w1.heap.size 0 (.slice (some ⟨g', 0, none⟩) (L.length + 1) cap')) (.inr hneL3.symm)
          have hK4 := hK3.trans (KeepsOthers.setCell w3 ⟨w1.heap.size, 0, none⟩ (.slice (some ⟨g', 0, none⟩) (L.length + 1) cap'))
          have hB4 := hB3.setCell (p := ⟨w1.heap.size, 0, none⟩) (by simp; omega) (.slice (some ⟨g', 0, none⟩) (L.length + 1) cap')
          have hM4 := hM3.others (KeepsOthers.setCell w3 ⟨w1.heap.size, 0, none⟩ (.slice (some ⟨g', 0, none⟩) (L.length + 1) cap'))
          clear bU3 bX3 bL3 hown3 hK3 hB3 hM3 cL3 fL3 cL' bUv bLv bXv hownv hBv hMv hKv hBW hneL hneX hneU hneL3 hgrow3 hout
          generalize w3.setCell ⟨w1.heap.size, 0, none⟩ (.slice (some ⟨g', 0, none⟩) (L.length + 1) cap') = V4 at *
          have cX4 := bX4.cell
          have fX4 := bX4.frozen
          have hneX4 := bX4.not_row (by decide) hown4
          have hbn := bits_andN32 x (bitW y.1) hLeft.1 (bitW_lt (by omega))
          have hmx : Tryd.prog.follows .mixedOrders = true := by kernel_rfl
          first | gi_region_with_o (gi_at_call 40; refine (CallsIn.inRound l (callsIn_wide.2 (bit_any y.1 (by omega) _))).mono ?_; rintro e w' ⟨rfl, rfl⟩) | fail
          all_goals gi_wp2
          all_goals
            refine ⟨(hK4.trans (KeepsOthers.setCell _ _ _)).trans (KeepsOthers.drew _), y, some ⟨g', 0, none⟩, cap', ⟨⟨?_, ?_, ?_⟩, ?_⟩, ⟨?_, ?_⟩, rfl, Hr.out, pre, rfl, hno⟩
            · exact boxed_otherAt bU4 (by omega) _ _
            · rw [List.length_append]; exact boxed_otherAt bL4 (by omega) _ _
            · exact bX4.set _
            · rw [ivals_snoc, List.length_append]
              have hown5 := hown4.kept (grownBy_setCellAt V4 (w1.heap.size + 1) 0 (.int .u32 (andN x (bitW y.1) : Nat))) (.inr hneX4.symm)
              exact hown5
            · exact (hB4.setCell (p := ⟨w1.heap.size + 1, 0, none⟩) (by simp; omega) _).drew
            · exact (hM4.others (KeepsOthers.setCell _ _ _)).others (KeepsOthers.drew _)
      case done =>
        rintro D ys W' hD rfl ⟨⟨⟨bU', bL', bX'⟩, hown'⟩, ⟨hB', hM'⟩, hno⟩ hK
        exfalso
        obtain ⟨i, hi', hr⟩ := hA L (left_some (by rw [HL.out, sortF_len]; exact hlt))
        have hin : hasB x i = true := by rw [hLeft.2]; simp [hi', memB_false.2 (readyB_true.1 hr).1]
        rw [hno ⟨i, hin⟩ (mem_elemsS _ _)] at hr
        cases hr
      case stop =>
        rintro D c pre W' hD hpre ⟨y, av', cv', ⟨⟨bU', bL', bX'⟩, hown'⟩, ⟨hB', hM'⟩, rfl, hr, pre', rfl, hno⟩ hK
        have hDl : D < W'.heap.size := (Array.getElem?_eq_some_iff.1 hK).1
        have hnx := left_next hLeft _ hpre hno hr
        obtain ⟨L2, hL2⟩ : ∃ L2, L2 = L ++ [y.1] := ⟨_, rfl⟩
        have HL2 := hide (show L2 = sortF (aheadB es) es.length (k + 1) by rw [hL2, ← hnx, HL.out]; rfl)
        have hLf2 : LeftIs es.length L2 (andN x (bitW y.1)) := by rw [hL2]; exact left_step hLeft
        rw [← hL2] at bL' hown'
        clear hnx hL2 bY cX cL bL bX bU hown
        simp at hD
        gi_wp2
        exact ⟨⟨k + 1, { target := .collected D, args := #[] } :: ms, L2, av', cv', _, _, _, _, _, _, _, _, _, _, _, _, _, _, _, _, _, _, _, _, _, _, rfl, by omega, HL2.out, hLf2, ⟨bU', bL', bX'⟩, hown', hB', ⟨D, rfl, by omega, hDl, hK, hM'.mono (by omega)⟩⟩, by simp [intOf]; omega⟩
    · obtain rfl : k = es.length := by omega
      have e0 : L.length = es.length := by rw [HL.out, sortF_len]
      gi_wp2
      rw [e0] at hown
      refine leaves_marks (G := fun _ W' => W'.ownsRow (w.heap.size + 1) 3 1 (.slice av es.length cv) es.length (ivals L) ∧ Below w.heap.size w W') (OwnFrom.and (Own.from (ownsRow_own _ _ _ _ (fun _ => es.length) (fun _ => ivals L)) _) (ownFrom_below (Nat.le_refl _) (Nat.le_refl _))) (fun W' h => ?_) ms _ _ hM ⟨hown, hB⟩
      have e1 := HL.out
      subst e1
      exact ⟨_, results_tmp rfl _ _ _, av, cv, rfl, h.2, ownsRow_base h.1 (by omega)⟩
end Go.Proofs.YtgpafnlkegmdoaaDoor

namespace Go.Proofs.YtgpafnlkegmdoaaDoor
open Go.RowKit Go.Shelf

set_option maxRecDepth 100000 in
set_option maxHeartbeats 1000000 in
theorem others_any (a : Option Addr) (cap : Nat) (us : List Nat) (n₀ : Nat) (hf : Fit us) (hl : us.length ≤ 16) (w : World) (hw : IsWords n₀ w a us) (hn₀ : n₀ ≤ w.heap.size) :
    Calls Tryd.prog 22 #[.slice a us.length cap] w fun e w' => e = .returned (.slice (some ⟨w.heap.size, 0, none⟩) us.length us.length) ∧ Below w.heap.size w w' ∧ Row w' w.heap.size 50 (wvals (othL us)) := by
  have hmk := run_make_row' (P := Tryd.prog) 22 50 (.int .u32 0) 4 Tryd.underlying22 info_u32 rfl .i64 .i64 us.length (by omega) (by omega)
  go_enter Tryd.func22, Tryd.ntmps22
  go_wp2
  go_loopw [11] (fun i wr => ∃ (k : Nat) (ds : List Nat), k ≤ us.length ∧ i = .int .i64 k ∧ ds.length = us.length ∧ (∀ j, j < k → wd ds j = andN (wd us j) (bitW j)) ∧ Row wr w.heap.size 50 (wvals ds) ∧ Below w.heap.size w wr) (fun i _ => us.length - (intOf i).toNat)
  case atStart =>
    have h1 := Row.new w 50 (wvals (List.replicate us.length 0))
    rw [← wvals_replicate] at h1
    exact ⟨0, _, Nat.zero_le _, rfl, by simp, fun j h => by omega, h1, (Below.refl _ _).alloc (Nat.le_refl _) _⟩
  case round =>
    clear hmk
    obtain ⟨k, ds, hk, rfl, hdl, hall, rD, hB⟩ := hrel
    by_cases hlt : k < us.length
    · obtain ⟨b, off, rfl, hb, hc⟩ := (hw.below (hB.mono hn₀)).at hlt
      have hck := hc k hlt
      clear hc
      have cK := rD.cell (wvals_at (us := ds) (i := k) (by omega))
      have fK := rD.frozen k
      have hbits := bits_andN32 (wd us k) (bitW k) (hf k) (bitW_lt (by omega))
      go_wp2_with (go_at_call 40; refine (bit_any _ (by omega) _).mono ?_; rintro e w' ⟨rfl, rfl⟩)
      refine ⟨⟨k + 1, ds.set k (andN (wd us k) (bitW k)), by omega, by go_num, by simp [hdl], fun j hj => ?_, by rw [← wvals_set]; exact rD.set k _, hB.setCell (p := ⟨w.heap.size, k, none⟩) (Nat.le_refl _) _⟩, by simp [intOf]; omega⟩
      rw [wd_set (by omega)]
      by_cases e : k = j
      · rw [if_pos e, e]
      · rw [if_neg e]; exact hall j (by omega)
    · obtain rfl : ds = othL us := wd_ext (by rw [othL_len]; exact hdl) fun i hi => by rw [hall i (by omega), wd_othL (by omega)]
      go_wp2
      go_ret
      exact ⟨rfl, hB, rD⟩
end Go.Proofs.YtgpafnlkegmdoaaDoor

namespace Go.Proofs.YtgpafnlkegmdoaaDoor
open Go.RowKit Go.Shelf

/-- all elements of an order, each time the least one that may come -/
def sortL (us : List Nat) : List Nat := sortF (underB us) us.length us.length
theorem ahead_below {us ds : List Nat} (hT : Tur us us.length [] ds) : ∀ i, i < us.length → ∀ x, x < us.length → underB us x i = aheadB (othL ds) x i := fun i hi x _ => by
  unfold aheadB; rw [hasB_below hT hi]

set_option maxRecDepth 100000 in
set_option maxHeartbeats 1000000 in
theorem Sorted_bad (n : Int) (a : Option Addr) (cap : Nat) (us : List Nat) (n₀ : Nat) (hf : Fit us) (w : World) (hT : TabAt w) (hw : IsWords n₀ w a us) (hg : 0 < n₀) (hn₀ : n₀ ≤ w.heap.size) (hc : codeOf n us ≠ 0) :
    Calls Tryd.prog 18 #[.agg #[.int .i64 n, .slice a us.length cap]] w fun e w' => e = .returned (.tuple #[.slice none 0 0, .int .i64 (codeOf n us)]) ∧ Below w.heap.size w w' := by
  have r0 := Row.new w 24 [.int .i64 n, .slice a us.length cap]
  have hb0 : Below w.heap.size w (w.alloc (.cells #[.int .i64 n, .slice a us.length cap] 24)) := (Below.refl _ _).alloc (Nat.le_refl _) _
  have hck := Check_any n a cap us n₀ hf _ (hT.below hb0 (by omega)) (hw.below (hb0.mono hn₀)) hg (by simp; omega)
  generalize codeOf n us = c at *
  have hne : (c != 0) = true := by rw [bne_iff_ne]; exact hc
  have Hb := hide hb0
  clear hb0 hc
  go_enter Tryd.func18, Tryd.ntmps18
  go_wp2_with (go_at_call 21; refine hck.mono ?_; rintro e w1 ⟨rfl, hb1⟩)
  go_ret2
  exact ⟨rfl, Hb.out.trans (hb1.mono (by simp))⟩

set_option maxRecDepth 100000 in
set_option maxHeartbeats 1000000 in
theorem Sorted_ok (n : Int) (a : Option Addr) (cap : Nat) (us : List Nat) (n₀ : Nat) (hf : Fit us) (w : World) (hT : TabAt w) (hw : IsWords n₀ w a us) (hg : 0 < n₀) (hn₀ : n₀ ≤ w.heap.size) (hc : codeOf n us = 0) :
    Calls Tryd.prog 18 #[.agg #[.int .i64 n, .slice a us.length cap]] w fun e w' => ∃ av cv, e = .returned (.tuple #[.slice av us.length cv, .int .i64 0]) ∧ Below w.heap.size w w' ∧ w'.ownsRow w.heap.size 3 1 (.slice av us.length cv) us.length (ivals (sortL us)) := by
  obtain ⟨_, h16, hlen, hin, hord⟩ := code_zero hc
  have hl16 : us.length ≤ 16 := by omega
  have r0 := Row.new w 24 [.int .i64 n, .slice a us.length cap]
  have hb0 : Below w.heap.size w (w.alloc (.cells #[.int .i64 n, .slice a us.length cap] 24)) := (Below.refl _ _).alloc (Nat.le_refl _) _
  have hck := Check_any n a cap us n₀ hf _ (hT.below hb0 (by omega)) (hw.below (hb0.mono hn₀)) hg (by simp; omega)
  rw [hc] at hck
  have c00 := r0.cell (i := 0) rfl
  have c01 := r0.cell (i := 1) rfl
  clear hlen hc
  go_enter Tryd.func18, Tryd.ntmps18
  go_wp2_with fail
  refine hck.mono ?_
  rintro e w1 ⟨rfl, hb1⟩
  have q0 := row_below r0 hb1 r0.lt
  have hB1 : Below w.heap.size w w1 := hb0.trans (hb1.mono (by simp))
  have hs1 := hB1.size
  have d00 := q0.cell (i := 0) rfl
  have d01 := q0.cell (i := 1) rfl
  clear hck c00 c01 r0 hb0 hb1
  go_wp2_with fail
  refine (turned_any a cap us n₀ hf hin hl16 w1 (hT.below hB1 (by omega)) (hw.below (hB1.mono hn₀)) hg (by omega)).mono ?_
  rintro e w2 ⟨ds, rfl, hb2, rT, hTur⟩
  have hs2 := hb2.size
  have hB2 : Below w.heap.size w w2 := hB1.trans (hb2.mono hs1)
  have ltT := rT.lt
  have hoth := others_any (some ⟨w1.heap.size, 0, none⟩) us.length ds w2.heap.size hTur.fit (by rw [hTur.len]; exact hl16) w2 (rT.words ltT) (Nat.le_refl _)
  rw [hTur.len] at hoth
  go_wp2_with fail
  refine hoth.mono ?_
  rintro e w3 ⟨rfl, hb3, rC⟩
  have hs3 := hb3.size
  have hB3 : Below w.heap.size w w3 := hB2.trans (hb3.mono (by omega))
  have ltC := rC.lt
  have hel : (othL ds).length = us.length := by rw [othL_len, hTur.len]
  have hso := sorted_any (some ⟨w2.heap.size, 0, none⟩) us.length (othL ds) w3.heap.size (othL_fit hTur.fit) (by rw [hel]; exact hl16) (by rw [hel]; exact acy_congr (ahead_below hTur) (acy_under hord)) w3 (hT.below hB3 (by omega)) (rC.words ltC) (by omega) (Nat.le_refl _)
  rw [hel, ← sortF_congr (ahead_below hTur)] at hso
  clear hoth d00 d01
  go_wp2_with fail
  refine hso.mono ?_
  rintro e w4 ⟨av, cv, rfl, hb4, hown⟩
  go_wp2
  go_ret2
  exact ⟨av, cv, rfl, hB3.trans (hb4.mono (by omega)), ownsRow_base hown (by omega)⟩
end Go.Proofs.YtgpafnlkegmdoaaDoor

namespace Go.Proofs.YtgpafnlkegmdoaaDoor
open Go.RowKit Go.Shelf

theorem invG_congr {n : Nat} {s s' : Mat} (h : EqN n s s') : ∀ {l : List Nat}, (∀ x ∈ l, x < n) → EqN n (invG s l) (invG s' l)
  | [], _ => EqN.refl _ _
  | c :: l, hl => fun r hr b hb => by
    have hc := hl c (by simp)
    have ih := invG_congr h (l := l) fun x hx => hl x (by simp [hx])
    have e1 : sl l (fun x => -(s c x) * invG s l x b) = sl l (fun x => -(s' c x) * invG s' l x b) := sl_congr fun x hx => by
      have hx' := hl x (by simp [hx])
      rw [h c hc x hx', ih x hx' b hb]
    simp only [invG]
    rw [e1, h c hc c hc, ih r hr b hb]
theorem IsInts.up {n₀ n₁ : Nat} (hn : n₀ ≤ n₁) {W : World} {a : Option Addr} {l : List Nat} (h : IsInts n₀ W a l) : IsInts n₁ W a l := by
  rcases h with h | ⟨b, off, h1, h2, h3⟩
  · exact .inl h
  · exact .inr ⟨b, off, h1, by omega, h3⟩
theorem sortL_line {us : List Nat} (ho : IsOrd us) : Line us (sortL us) := line_ord ho
theorem mu_tab {us : List Nat} (ho : IsOrd us) : tabL us.length (invG (mat us.length (tabL us.length (zet us))) (sortL us)) = tabL us.length (muM us) :=
  tabL_congr (invG_congr (mat_tabL _) fun x hx => ((sortL_line ho).mem x).1 hx)
theorem ownsRow_cap {W : World} {base : Nat} {t : TypeId} {av : Option Addr} {cv k : Nat} {xs : List Value} (h : W.ownsRow base t 1 (.slice av k cv) k xs) : k ≤ cv := by
  rcases h.2 with ⟨h1, h2⟩ | ⟨g, cap, cur, h1, h2, h3, h4, h5, h6, h7⟩
  · omega
  · cases h1; omega

set_option maxRecDepth 100000 in
set_option maxHeartbeats 1000000 in
theorem Mu_bad (n : Int) (a : Option Addr) (cap : Nat) (us : List Nat) (n₀ : Nat) (hf : Fit us) (w : World) (hT : TabAt w) (hw : IsWords n₀ w a us) (hg : 0 < n₀) (hn₀ : n₀ ≤ w.heap.size) (hc : codeOf n us ≠ 0) :
    Calls Tryd.prog 8 #[.agg #[.int .i64 n, .slice a us.length cap]] w fun e w' => e = mobErr (codeOf n us) ∧ Below w.heap.size w w' := by
  obtain ⟨r0, hb0, hs0⟩ := one_row w 24 (.int .i64 n) (.slice a us.length cap) rfl
  have hck := Sorted_bad n a cap us n₀ hf _ (hT.below hb0 (by omega)) (hw.below (hb0.mono hn₀)) hg (by omega) hc
  unfold mobErr
  generalize codeOf n us = c at *
  have hne : (c != 0) = true := by rw [bne_iff_ne]; exact hc
  have Hb := hide hb0
  clear hb0 hc hs0
  go_enter Tryd.func8, Tryd.ntmps8
  go_wp2_with (go_at_call 18; refine hck.mono ?_; rintro e w1 ⟨rfl, hb1⟩)
  go_ret2
  exact ⟨rfl, Hb.out.trans (hb1.mono (by simp))⟩

/-- what Sorted answers -/
def SortAns (n : Nat) (us : List Nat) (w : World) (e : Ending) (w' : World) : Prop := ∃ av cv, e = .returned (.tuple #[.slice av n cv, .int .i64 0]) ∧ Below w.heap.size w w' ∧ n ≤ cv ∧ IsInts w'.heap.size w' av (sortL us)
theorem sorted_ans (n : Nat) (a : Option Addr) (cap : Nat) (us : List Nat) (hn : n = us.length) (hf : Fit us) (hc : codeOf n us = 0) (w : World) (hT : TabAt w) (hw : IsWords w.heap.size w a us) (hg : 0 < w.heap.size) :
    Calls Tryd.prog 18 #[.agg #[.int .i64 n, .slice a n cap]] w (SortAns n us w) := by
  subst hn
  refine (Sorted_ok us.length a cap us w.heap.size hf w hT hw hg (Nat.le_refl _) hc).mono ?_
  rintro e w' ⟨av, cv, rfl, hb, hown⟩
  exact ⟨av, cv, rfl, hb, ownsRow_cap hown, ownsRow_ints hown⟩

set_option maxRecDepth 100000 in
set_option maxHeartbeats 1000000 in
theorem Mu_ok (n : Nat) (a : Option Addr) (cap : Nat) (us : List Nat) (n₀ : Nat) (hn : n = us.length) (hf : Fit us) (w : World) (hT : TabAt w) (hw : IsWords n₀ w a us) (hg : 0 < n₀) (hn₀ : n₀ ≤ w.heap.size) (hc : codeOf n us = 0) :
    Calls Tryd.prog 8 #[.agg #[.int .i64 n, .slice a n cap]] w fun e w' => ∃ p, e = .returned (.tuple #[.slice (some ⟨p, 0, none⟩) (n * n) (n * n), .int .i64 0]) ∧ w.heap.size ≤ p ∧ Below w.heap.size w w' ∧ Row w' p 2 (bvals (tabL n (muM us))) := by
  have hl : n ≤ 16 := by have := (code_zero hc).2.1; omega
  have ho : IsOrd us := (code_zero hc).2.2.2.2
  have hL := sortL_line ho
  have hlen : (sortL us).length = n := by rw [hL.len, hn]
  obtain ⟨r0, hb0, hs0⟩ := one_row w 24 (.int .i64 n) (.slice a n cap) rfl
  have hck := sorted_ans n a cap us hn hf hc _ (hT.below hb0 (by omega)) ((hw.below (hb0.mono hn₀)).mono (by omega)) (by omega)
  have hz := fun (W : World) (hW : IsWords n₀ W a us) (hs : n₀ ≤ W.heap.size) => zetaN n a cap us n₀ hn hf hl W hW hs
  have hinv := fun p av cv hcap W h1 h2 => inverse_any n p hl (tabL n (zet us)) (tabL_len _ _) av cv (sortL us) hlen hcap (fun x hx => by rw [hn]; exact (hL.mem x).1 hx) hL.nodup W.heap.size W h1 h2 (Nat.le_refl _)
  have hmu : tabL n (invG (mat n (tabL n (zet us))) (sortL us)) = tabL n (muM us) := by subst hn; exact mu_tab ho
  rw [hmu] at hinv
  unfold sqV at hz hinv
  have hw0 := hw.below (hb0.mono hn₀)
  have Hb := hide hb0
  clear hb0 hn hc hL ho
  go_enter Tryd.func8, Tryd.ntmps8
  go_wp2_with fail
  refine hck.mono ?_
  rintro e w1 ⟨av, cv, rfl, hb1, hcap, hil⟩
  have q0 := row_below r0 hb1 r0.lt
  have c0 := q0.cell (i := 0) rfl
  have c1 := q0.cell (i := 1) rfl
  have hB1 := Hb.out.trans (hb1.mono (by simp))
  have hs1 := hB1.size
  clear hck
  go_wp2_with fail
  refine (hz _ (hw.below (hB1.mono hn₀)) (by omega)).mono ?_
  rintro e w2 ⟨p, rfl, hp, hb2, hr⟩
  have hB2 := hB1.trans (hb2.mono hs1)
  have hs2 := hB2.size
  clear hz
  go_wp2_with fail
  refine (hinv _ _ _ hcap _ hr ((IsInts.below hil hb2).up hb2.size)).mono ?_
  rintro e w3 ⟨g, rfl, hg3, hb3, hr3⟩
  have hfr := run_field_at n (some ⟨g, 0, none⟩) (n * n) (n * n)
  go_wp2
  go_ret2
  exact ⟨g, rfl, by omega, hB2.trans (hb3.mono hs2), hr3⟩

end Go.Proofs.YtgpafnlkegmdoaaDoor

namespace Go.Proofs.YtgpafnlkegmdoaaDoor
open Go.RowKit Go.Shelf

def longsB (a b : List B64) : Bool := decide (a = b)
theorem longsB_true {a b : List B64} : longsB a b = true ↔ a = b := by unfold longsB; exact decide_eq_true_iff
theorem longsB_false {a b : List B64} : longsB a b = false ↔ a ≠ b := by unfold longsB; exact decide_eq_false_iff_not
theorem longsB_self (a : List B64) : longsB a a = true := longsB_true.2 rfl

end Go.Proofs.YtgpafnlkegmdoaaDoor

namespace Go.Proofs.YtgpafnlkegmdoaaDoor
open Go.RowKit Go.Shelf

theorem ownsRow_b {W : World} {base : Nat} {av : Option Addr} {cv k : Nat} {l : List B64} (h : W.ownsRow base 2 1 (.slice av k cv) k (bvals l)) : ZInts W.heap.size W av (tiL l) := by
  have hlen : (tiL l).length = k := by have := h.1; rw [bvals_len] at this; rw [tiL_len]; simpa using this
  rcases h.2 with ⟨h1, h2⟩ | ⟨g, cap, cur, h1, h2, h3, h4, h5, h6, h7⟩
  · exact .inl (List.length_eq_zero_iff.1 (by omega))
  · cases h1
    refine .inr ⟨g, 0, rfl, (Array.getElem?_eq_some_iff.1 h3).1, fun i hi => ?_⟩
    have hx : (cur.toList.take (k * 1))[i]? = (zvals (tiL l))[i]? := by rw [h7]; rfl
    rw [zvals_at hi, List.getElem?_take, if_pos (by omega)] at hx
    simp [World.cell?, h3, ← Array.getElem?_toList, hx]
/-- the first k rows of a table, and j places of the next one -/
def preL (n : Nat) (f : Mat) (k j : Nat) : List B64 := (List.range (k * n + j)).map fun i => f (i / n) (i % n)
theorem preL_len (n : Nat) (f : Mat) (k j : Nat) : (preL n f k j).length = k * n + j := by unfold preL; simp
theorem preL_zero (n : Nat) (f : Mat) : preL n f 0 0 = [] := by unfold preL; simp
theorem preL_full (n : Nat) (f : Mat) : preL n f n 0 = tabL n f := by unfold preL tabL; rw [Nat.add_zero]
theorem preL_next {n : Nat} (f : Mat) (k : Nat) : preL n f k n = preL n f (k + 1) 0 := by unfold preL; rw [Nat.succ_mul, Nat.add_zero]
theorem preL_snoc {n : Nat} (f : Mat) (k : Nat) {j : Nat} (hj : j < n) : preL n f k (j + 1) = preL n f k j ++ [f k j] := by
  unfold preL
  rw [← Nat.add_assoc, List.range_succ, List.map_append]
  simp only [List.map_cons, List.map_nil]
  rw [pair_div hj, pair_mod hj]
/-- the first k of a vector -/
theorem vecL_snoc (f : Nat → B64) (k : Nat) : vecL (k + 1) f = vecL k f ++ [f k] := by unfold vecL; rw [List.range_succ, List.map_append]; rfl
theorem vecL_zero (f : Nat → B64) : vecL 0 f = [] := rfl
theorem toInt_ite (b : Bool) : (if b = true then (1 : B64) else 0).toInt = if b = true then 1 else 0 := by cases b <;> rfl

end Go.Proofs.YtgpafnlkegmdoaaDoor

namespace Go.Proofs.YtgpafnlkegmdoaaDoor
open Go.RowKit Go.Shelf

set_option maxRecDepth 100000 in
set_option maxHeartbeats 1000000 in
theorem mweis_err (n : Int) (a : Option Addr) (len cap : Nat) (x : Int) (w : World) (ho : ∀ W, Below w.heap.size w W → Calls Tryd.prog 6 #[.agg #[.int .i64 n, .slice a len cap]] W fun e w' => e = .returned (.tuple #[.agg #[.int .i64 n, .slice a len cap, .slice none 0 0, .slice none 0 0, .int .i64 0, .int .i64 0, .bool false], .bool false]) ∧ Below W.heap.size W w') :
    Calls Tryd.prog 3 #[.agg #[.int .i64 n, .slice a len cap], .int .i64 x] w fun e w' => e = .returned (.bool true) ∧ Below w.heap.size w w' := by
  obtain ⟨r0, hb0, hs0⟩ := one_row w 24 (.int .i64 n) (.slice a len cap) rfl
  have h1 := ho _ hb0
  clear ho
  go_enter Tryd.func3, Tryd.ntmps3
  go_wp2_with (go_at_call 6; refine h1.mono ?_; rintro e w1 ⟨rfl, hb1⟩)
  go_ret
  exact ⟨rfl, (hb0.trans (hb1.mono (by omega))).alloc (by have := hb1.size; omega) _⟩
theorem allIn1 {n : Nat} {x : Int} : AllIn n [x] ↔ 0 ≤ x ∧ x < (n : Int) := by
  constructor
  · intro h; exact h 0 (by simp)
  · intro h i hi
    have : i = 0 := by simp at hi; omega
    subst this; exact h
theorem zints1 (W : World) (x : Int) {V : World} (h : W.alloc (.cells #[.int .i64 x] 3) = V) : ZInts V.heap.size V (some ⟨W.heap.size, 0, none⟩) [x] ∧ Below W.heap.size W V := by
  subst h
  have r := Row.new W 3 (zvals [x])
  exact ⟨Row.z r r.lt, (Below.refl _ _).alloc (Nat.le_refl _) _⟩
theorem board_row (W : World) (vs : List Value) {V : World} (h : W.alloc (.cells vs.toArray 29) = V) : Row V W.heap.size 29 vs ∧ Below W.heap.size W V := by
  subst h
  exact ⟨Row.new W _ vs, (Below.refl _ _).alloc (Nat.le_refl _) _⟩

set_option maxRecDepth 100000 in
set_option maxHeartbeats 2000000 in
theorem mweis_out (n : Nat) (a : Option Addr) (cap : Nat) (us ds : List Nat) (x : Int) (n₀ : Nat) (hn : n = us.length) (hf : Fit us) (w : World) (hT : TabAt w) (hw : IsWords n₀ w a us) (hg : 0 < n₀) (hn₀ : n₀ ≤ w.heap.size) (hc : codeOf n us = 0) (hD : Tur us us.length [] ds) (hl : latB us ds = true) (hin : allInB n [x] = false) :
    Calls Tryd.prog 3 #[.agg #[.int .i64 n, .slice a n cap], .int .i64 x] w fun e w' => e = .returned (.bool true) ∧ Below w.heap.size w w' := by
  subst hn
  obtain ⟨r0, hb0, hs0⟩ := one_row w 24 (.int .i64 us.length) (.slice a us.length cap) rfl
  have h1 := open_ok us.length a cap us ds n₀ hf _ (hT.below hb0 (by omega)) (hw.below (hb0.mono hn₀)) hg (by simp; omega) hc hD hl
  clear hc hl hD
  generalize us.length * us.length = qq at *
  go_enter Tryd.func3, Tryd.ntmps3
  go_wp2_with fail
  refine h1.mono ?_
  rintro e w1 ⟨aj, cj, am, cm, js, ms, rfl, hb1, i1, i2, n1, n2⟩
  generalize gath (at2 ms us.length) 0 us.length = bt at *
  generalize gath (at2 js us.length) 0 us.length = tp at *
  have hs1 := hb1.size
  have q0 := row_below r0 hb1 r0.lt
  have lt0 := q0.lt
  have c0 := q0.cell (i := 0) rfl
  go_wp2_with fail
  obtain ⟨V2, hV2⟩ : ∃ V, (w1.alloc (.cells #[.int .i64 us.length, .slice a us.length cap, .slice aj qq cj, .slice am qq cm, .int .i64 (bt : Nat), .int .i64 (tp : Nat), .bool false] 29)).alloc (.cells #[.int .i64 x] 3) = V := ⟨_, rfl⟩
  obtain ⟨rB, rX, hbB, hsB⟩ := rows_two w1 29 3 [.int .i64 us.length, .slice a us.length cap, .slice aj qq cj, .slice am qq cm, .int .i64 (bt : Nat), .int .i64 (tp : Nat), .bool false] [.int .i64 x] hV2
  have zz : ZInts V2.heap.size V2 (some ⟨w1.heap.size + 1, 0, none⟩) [x] := Row.z (l := [x]) rX rX.lt
  have h2 := kwithin_z us.length _ 1 [x] _ (by simp) V2 zz
  rw [hin] at h2
  rw [hV2]
  have p0 := row_below q0 hbB q0.lt
  have hB3 := (hb0.trans (hb1.mono (by omega))).trans (hbB.mono (by omega))
  clear hV2 zz c0 lt0 q0
  refine h2.mono ?_
  rintro e V3 ⟨rfl, rfl⟩
  clear h2
  go_wp2_with fail
  go_ret
  exact ⟨rfl, hB3⟩

set_option maxRecDepth 100000 in
set_option maxHeartbeats 8000000 in
theorem mweis_in (n : Nat) (a : Option Addr) (cap : Nat) (us ds : List Nat) (x : Nat) (n₀ : Nat) (hn : n = us.length) (hf : Fit us) (w : World) (hT : TabAt w) (hw : IsWords n₀ w a us) (hg : 0 < n₀) (hn₀ : n₀ ≤ w.heap.size) (hc : codeOf n us = 0) (hD : Tur us us.length [] ds) (hl : latB us ds = true) (hx : x < n) :
    Calls Tryd.prog 3 #[.agg #[.int .i64 n, .slice a n cap], .int .i64 x] w fun e w' => e = .returned (.bool true) ∧ Below w.heap.size w w' := by
  have hl16 : n ≤ 16 := by have := (code_zero hc).2.1; omega
  have hnn : n * n ≤ 256 := Nat.mul_le_mul hl16 hl16
  have hord : IsOrd us := (code_zero hc).2.2.2.2
  obtain ⟨r0, hb0, hs0⟩ := one_row w 24 (.int .i64 n) (.slice a n cap) rfl
  have h1 := open_ok n a cap us ds n₀ hf _ (hT.below hb0 (by omega)) (hw.below (hb0.mono hn₀)) hg (by simp; omega) hc hD hl
  have hin : allInB n [(x : Int)] = true := allInB_true.2 (allIn1.2 (by omega))
  have hL : ∀ js ms, NearTo us js (us.length * us.length) → NearTo ds ms (us.length * us.length) → Lat us.length (leW us) (at2 js us.length) (at2 ms us.length) (gath (at2 ms us.length) 0 us.length) (gath (at2 js us.length) 0 us.length) := fun js ms h1 h2 => lat_pre hord hD h1 h2 (by omega)
  have kmu := fun W hT hw hg => Mu_ok n a cap us W.heap.size hn hf W hT hw hg (Nat.le_refl _) hc
  have hwe : ∀ js ms bt tp, Lat us.length (leW us) js ms bt tp → x ≠ bt → sm n (fun y => if js y x = tp then bd (tabL n (muM us)) (bt * n + y) else 0) = 0 := fun js ms bt tp L hne => by
    subst hn
    refine Eq.trans (sm_congr fun y hy => ?_) (weisner hord L hx hne L.tlt)
    have h2 := mat_tabL (n := us.length) (muM us) bt L.blt y hy
    unfold mat at h2
    rw [h2]
  rw [← hn] at h1 hL hwe
  have hlm := tabL_len n (muM us)
  generalize tabL n (muM us) = Q at *
  clear hc hl hD hord hn
  go_enter Tryd.func3, Tryd.ntmps3
  go_wp2_with fail
  refine h1.mono ?_
  rintro e w1 ⟨aj, cj, am, cm, js, ms, rfl, hb1, i1, i2, n1, n2⟩
  have L := hL js ms n1 n2
  have hlj := n1.len
  have hww := hwe _ _ _ _ L
  have hjlt := fun y (hy : y < n) => L.jlt hy hx
  have hbt := L.blt
  have htp := L.tlt
  clear hL hwe n1 n2 h1 L
  generalize gath (at2 ms n) 0 n = bt at *
  generalize gath (at2 js n) 0 n = tp at *
  have hs1 := hb1.size
  have q0 := row_below r0 hb1 r0.lt
  have lt0 := q0.lt
  have c0 := q0.cell (i := 0) rfl
  go_wp2_with fail
  obtain ⟨V2, hV2⟩ : ∃ V, (w1.alloc (.cells #[.int .i64 n, .slice a n cap, .slice aj (n * n) cj, .slice am (n * n) cm, .int .i64 (bt : Nat), .int .i64 (tp : Nat), .bool false] 29)).alloc (.cells #[.int .i64 (x : Int)] 3) = V := ⟨_, rfl⟩
  obtain ⟨rB, rX, hbB, hsB⟩ := rows_two w1 29 3 [.int .i64 n, .slice a n cap, .slice aj (n * n) cj, .slice am (n * n) cm, .int .i64 (bt : Nat), .int .i64 (tp : Nat), .bool false] [.int .i64 (x : Int)] hV2
  have zz : ZInts V2.heap.size V2 (some ⟨w1.heap.size + 1, 0, none⟩) [(x : Int)] := Row.z (l := [(x : Int)]) rX rX.lt
  have h2 := kwithin_z n _ 1 [(x : Int)] _ (by simp) V2 zz
  rw [hin] at h2
  rw [hV2]
  have p0 := row_below q0 hbB q0.lt
  have hB3 := (hb0.trans (hb1.mono (by omega))).trans (hbB.mono (by omega))
  clear hV2 zz c0 lt0 q0
  refine h2.mono ?_
  rintro e V3 ⟨rfl, rfl⟩
  clear h2
  have hs3 := hB3.size
  have I1 := i1.below hbB
  have c0 := p0.cell (i := 0) rfl
  have c1 := p0.cell (i := 1) rfl
  have d4 := rB.cell (i := 4) rfl
  by_cases hxb : x = bt
  · have g1 : ((x : Int) == (bt : Int)) = true := by rw [hxb]; simp
    clear hxb
    go_wp2_with fail
    go_ret
    exact ⟨rfl, hB3⟩
  · have g1 : ((x : Int) == (bt : Int)) = false := by rw [beq_eq_false_iff_ne]; omega
    have hsum := hww hxb
    clear hww hxb
    go_wp2_with fail
    refine (kmu _ (hT.below hB3 (by omega)) ((hw.below (hB3.mono hn₀)).mono (by omega)) (by omega)).mono ?_
    rintro e w5 ⟨p, rfl, hp, hb5, hr5⟩
    have u0 := row_below p0 hb5 p0.lt
    have uB := row_below rB hb5 rB.lt
    have hB5 := hB3.trans (hb5.mono hs3)
    have I5 : IsInts w5.heap.size w5 aj js := IsInts.up (by have := hb5.size; omega) (IsInts.below I1 (hb5.mono (by omega)))
    have cor := bor_re n a cap aj cj am cm (bt : Nat) (tp : Nat) js w5 hl16 hlj I5
    have z5 := hr5.b hr5.lt
    clear c0 c1 d4 kmu I1 i1 i2 g1 hin
    have c0 := u0.cell (i := 0) rfl
    go_wp2_with fail
    clear c0
    have hrb : bt * n + n ≤ n * n := by
      have := Nat.mul_le_mul_right n (show bt + 1 ≤ n from hbt)
      rwa [Nat.succ_mul] at this
    go_loopw [10, 9] (fun i s wr => ∃ k : Nat, k ≤ n ∧ i = .int .i64 k ∧ s = .int .i64 (sm k (fun y => if at2 js n y x = tp then bd Q (bt * n + y) else 0)).toInt ∧ Below w5.heap.size w5 wr) (fun i _ _ => n - (intOf i).toNat)
    case atStart => exact ⟨0, Nat.zero_le _, rfl, rfl, Below.refl _ _⟩
    case round =>
      obtain ⟨k, hk, rfl, rfl, hb⟩ := hrel
      have v0 := row_below u0 hb u0.lt
      have vB := row_below uB hb uB.lt
      have c0 := v0.cell (i := 0) rfl
      have e0 := vB.cell (i := 0) rfl
      have e1 := vB.cell (i := 1) rfl
      have e2 := vB.cell (i := 2) rfl
      have e3 := vB.cell (i := 3) rfl
      have e4 := vB.cell (i := 4) rfl
      have e5 := vB.cell (i := 5) rfl
      have e6 := vB.cell (i := 6) rfl
      by_cases hlt : k < n
      · obtain ⟨J, eJ⟩ : ∃ r, at2 js n k x = r := ⟨_, rfl⟩
        have cj1 := cor wr hb k x J hlt hx eJ
        have hJ := hjlt k hlt
        rw [eJ] at hJ
        have HX := hide (show sm (k + 1) (fun y => if at2 js n y x = tp then bd Q (bt * n + y) else 0) = sm k (fun y => if at2 js n y x = tp then bd Q (bt * n + y) else 0) + (if at2 js n k x = tp then bd Q (bt * n + k) else 0) from rfl)
        rw [eJ] at HX
        generalize sm k (fun y => if at2 js n y x = tp then bd Q (bt * n + y) else 0) = S0 at *
        clear cor hsum
        have h0 := cell_regrown e0
        have h1 := cell_regrown e1
        have h2 := cell_regrown e2
        have h3 := cell_regrown e3
        have h4 := cell_regrown e4
        have h5 := cell_regrown e5
        have h6 := cell_regrown e6
        by_cases hJt : J = tp
        · have g2 : ((J : Int) == (tp : Int)) = true := by rw [hJt]; simp
          rw [if_pos hJt] at HX
          obtain ⟨fb, fo, ef, hfb, hfc⟩ := (z5.below hb).cellsB (i := bt * n + k) (by rw [hlm]; exact plc_lt hbt hlt)
          cases ef
          have kf := hfc (bt * n + k) (by rw [hlm]; exact plc_lt hbt hlt)
          rw [Nat.zero_add] at kf
          have hadd := wrap_add S0 (bd Q (bt * n + k))
          generalize hs1' : S0 + bd Q (bt * n + k) = s1 at *
          generalize (bd Q (bt * n + k)).toInt = qv at *
          have hpl := plc_lt hbt hlt
          clear hJt hfc z5
          go_wp2_with fail
          refine wp_region_quiet_below (by kernel_rfl) (by kernel_rfl) ?_
          repeat (go_big_quiet_step (first | with_reducible exact cj1 _ _))
          refine wpQuiet_nil ?_
          intro _ hw'
          obtain ⟨⟨dq, osq⟩, hw''⟩ := hw'
          subst hw''
          have c0 := cell_regrown c0
          have kf := cell_regrown kf
          go_wp2_with fail
          refine ⟨⟨k + 1, by omega, by go_num, by rw [HX.out, hadd], hb.trans ((below_regrown _ dq osq).mono hb.size)⟩, by simp [intOf]; omega⟩
        · have g2 : ((J : Int) == (tp : Int)) = false := by rw [beq_eq_false_iff_ne]; omega
          rw [if_neg hJt] at HX
          clear hJt
          go_wp2_with fail
          refine wp_region_quiet_below (by kernel_rfl) (by kernel_rfl) ?_
          repeat (go_big_quiet_step (first | with_reducible exact cj1 _ _))
          refine wpQuiet_nil ?_
          intro _ hw'
          obtain ⟨⟨dq, osq⟩, hw''⟩ := hw'
          subst hw''
          go_wp2_with fail
          refine ⟨⟨k + 1, by omega, by go_num, by rw [HX.out]; simp, hb.trans ((below_regrown _ dq osq).mono hb.size)⟩, by simp [intOf]; omega⟩
      · obtain rfl : k = n := by omega
        rw [hsum]
        have hB6 := hB5.trans (hb.mono hB5.size)
        go_wp2_with fail
        go_ret
        exact ⟨rfl, hB6⟩

/-- **MobiusWeisner answers true, for every order and any number, and writes nothing that was there** -/
theorem mweis_any (n : Int) (a : Option Addr) (cap : Nat) (us : List Nat) (x : Int) (n₀ : Nat) (hf : Fit us) (w : World) (hT : TabAt w) (hw : IsWords n₀ w a us) (hg : 0 < n₀) (hn₀ : n₀ ≤ w.heap.size) :
    Calls Tryd.prog 3 #[.agg #[.int .i64 n, .slice a us.length cap], .int .i64 x] w fun e w' => e = .returned (.bool true) ∧ Below w.heap.size w w' := by
  by_cases hc : codeOf n us = 0
  · obtain ⟨ds, hD⟩ := tur_ex hf (by have := code_zero hc; omega)
    cases hl : latB us ds with
    | true =>
      obtain rfl := (code_zero hc).2.2.1
      cases hin : allInB us.length [x] with
      | false => exact mweis_out us.length a cap us ds x n₀ rfl hf w hT hw hg hn₀ hc hD hl hin
      | true =>
        have h1 := allIn1.1 (allInB_true.1 hin)
        obtain ⟨x', rfl⟩ : ∃ x' : Nat, x = (x' : Int) := ⟨x.toNat, by omega⟩
        exact mweis_in us.length a cap us ds x' n₀ rfl hf w hT hw hg hn₀ hc hD hl (by omega)
    | false => exact mweis_err n a us.length cap x w fun W hW => open_err n a us.length cap 5 (by decide) W fun X hX hs => Make_none n a cap us ds n₀ hf X ((hT.below hW (by omega)).below hX (by have := hW.size; omega)) ((hw.below (hW.mono hn₀)).below (hX.mono (by have := hW.size; omega))) hg (by have := hW.size; omega) hc hD hl
  · exact mweis_err n a us.length cap x w fun W hW => open_err n a us.length cap _ hc W fun X hX hs => Make_bad n a cap us n₀ hf X ((hT.below hW (by omega)).below hX (by have := hW.size; omega)) ((hw.below (hW.mono hn₀)).below (hX.mono (by have := hW.size; omega))) hg (by have := hW.size; omega) hc
end Go.Proofs.YtgpafnlkegmdoaaDoor
