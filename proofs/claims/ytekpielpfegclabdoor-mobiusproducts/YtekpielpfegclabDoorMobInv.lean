/- Package mobius: inverse. -/
import Derived.Test.YtekpielpfegclabDoorMobStrict
import Derived.Test.YtekpielpfegclabDoorIntVals
namespace Go.Proofs.YtekpielpfegclabDoor
open Go.RowKit Go.Shelf

/-- what the rounds of inverse hold, but for the square that they write -/
structure InvSt (w : World) (n p g B : Nat) (S : List B64) (V : World) : Prop where
  s : Row V p 2 (bvals S)
  bel : Below w.heap.size w V
  rB : Row V B 48 [.int .i64 n, .slice (some ⟨g, 0, none⟩) (n * n) (n * n)]
  r3 : Row V w.heap.size 48 [.int .i64 n, .slice (some ⟨p, 0, none⟩) (n * n) (n * n)]
  r4 : Row V (w.heap.size + 1) 48 [.int .i64 0, .slice none 0 0]
theorem InvSt.drew {w : World} {n p g B : Nat} {S : List B64} {V : World} (h : InvSt w n p g B S V) : InvSt w n p g B S V.drew := ⟨h.s, h.bel.drew, h.rB, h.r3, h.r4⟩
theorem InvSt.keep {w : World} {n p g B : Nat} {S : List B64} {A V : World} (hb : Below A.heap.size A V) (h : InvSt w n p g B S A) : InvSt w n p g B S V :=
  ⟨h.s.keep hb, h.bel.trans (hb.mono h.bel.size), h.rB.keep hb, h.r3.keep hb, h.r4.keep hb⟩
theorem InvSt.grown {w : World} {n p g B : Nat} {S : List B64} {A V : World} (hp : p < w.heap.size) (hg1 : w.heap.size + 1 < g) (hB : B ≠ g) (hg : A.grownBy V (some g)) (h : InvSt w n p g B S A) : InvSt w n p g B S V :=
  ⟨h.s.kept hg (by simp; omega), h.bel.trans (grown_below hg (by omega) h.bel.size), h.rB.kept hg (by simp; omega), h.r3.kept hg (by simp; omega), h.r4.kept hg (by simp; omega)⟩
theorem InvSt.all {w : World} {n p g B i : Nat} {S : List B64} {V : World} {x : Int} (hi : i < S.length) (hx : (bd S i).toInt = x) (h : InvSt w n p g B S V) :
    V.cell? ⟨B, 0, none⟩ = some (.int .i64 n) ∧ V.cell? ⟨B, 1, none⟩ = some (.slice (some ⟨g, 0, none⟩) (n * n) (n * n)) ∧ V.cell? ⟨w.heap.size, 0, none⟩ = some (.int .i64 n) ∧ V.cell? ⟨w.heap.size, 1, none⟩ = some (.slice (some ⟨p, 0, none⟩) (n * n) (n * n)) ∧ V.cell? ⟨p, i, none⟩ = some (.int .i64 x) ∧ InvSt w n p g B S V :=
  ⟨h.rB.cell (i := 0) rfl, h.rB.cell (i := 1) rfl, h.r3.cell (i := 0) rfl, h.r3.cell (i := 1) rfl, by rw [← hx]; exact h.s.cell (bvals_at hi), h⟩
theorem Row.drew {W : World} {b : Nat} {t : TypeId} {vs : List Value} (h : Row W b t vs) : Row W.drew b t vs := h
theorem wrap_kind (x : Int) : IntKind.i64.wrap x = wrap64 x := by rw [IntKind.wrap_i64]; unfold wrap64; rfl
theorem drop_wd {l : List Nat} {i : Nat} (h : i < l.length) : l.drop i = wd l i :: l.drop (i + 1) := by
  rw [List.drop_eq_getElem_cons h]; congr 1; unfold wd; simp [List.getD_eq_getElem?_getD, List.getElem?_eq_getElem h]
theorem take_wd {l : List Nat} {i : Nat} (h : i < l.length) : l.take (i + 1) = l.take i ++ [wd l i] := by
  rw [List.take_succ_eq_append_getElem h]; congr 2; unfold wd; simp [List.getD_eq_getElem?_getD, List.getElem?_eq_getElem h]
theorem wd_drop {l : List Nat} {i j : Nat} : wd (l.drop i) j = wd l (i + j) := by
  unfold wd; rw [List.getD_eq_getElem?_getD, List.getD_eq_getElem?_getD, List.getElem?_drop]
/-- one row under way -/
def accM (s : Mat) (a : Nat) (l : List Nat) (j : Nat) : Mat := fun r b => if r = a then one a b + sl (l.take j) (fun x => -(s a x) * invG s l x b) else invG s l r b
theorem accM_succ {s : Mat} {a : Nat} {l : List Nat} {m : Nat} (hm : m < l.length) (hxa : wd l m ≠ a) (r b : Nat) : accM s a l (m + 1) r b = accM s a l m r b + if r = a then -(s a (wd l m)) * accM s a l m (wd l m) b else 0 := by
  unfold accM
  by_cases e : r = a
  · rw [if_pos e, if_pos e, if_pos e, if_neg hxa, take_wd hm, sl_snoc]; grind
  · rw [if_neg e, if_neg e, if_neg e]; simp
/-- the row's places below j are turned -/
def mulM (s : Mat) (a : Nat) (l : List Nat) (j : Nat) : Mat := fun r b => if r = a then (if b < j then (one a b + sl l (fun x => -(s a x) * invG s l x b)) * s a a else one a b + sl l (fun x => -(s a x) * invG s l x b)) else invG s l r b

set_option maxRecDepth 100000 in
set_option maxHeartbeats 8000000 in
theorem inverse_any (n p : Nat) (hn : n ≤ 16) (S : List B64) (hlS : S.length = n * n) (al : Option Addr) (cl : Nat) (L : List Nat) (hlL : L.length = n) (hcap : n ≤ cl) (hLn : ∀ x ∈ L, x < n) (hnd : L.Nodup) (n₀ : Nat) (w : World) (hs : Row w p 2 (bvals S)) (hL : IsInts n₀ w al L) (hn₀ : n₀ ≤ w.heap.size) :
    Calls Tryd.prog 27 #[.slice al n cl, sqV n p] w fun e w' => ∃ g, e = .returned (sqV n g) ∧ w.heap.size ≤ g ∧ Below w.heap.size w w' ∧ Row w' g 2 (bvals (tabL n (invG (mat n S) L))) := by
  have h2 : n * n ≤ 256 := Nat.mul_le_mul hn hn
  have hrow := row_any n
  have hone := ones_any n hn
  have ltp := hs.lt
  unfold sqV at hrow hone
  unfold sqV
  go_enter Tryd.func27, Tryd.ntmps27
  go_wp2_with fail
  obtain ⟨W0, hW0⟩ : ∃ W0, (w.alloc (.cells #[.int .i64 n, .slice (some ⟨p, 0, none⟩) (n * n) (n * n)] 48)).alloc (.cells #[.int .i64 0, .slice none 0 0] 48) = W0 := ⟨_, rfl⟩
  obtain ⟨r3, r4, hB0, hs0⟩ : Row W0 w.heap.size 48 [.int .i64 n, .slice (some ⟨p, 0, none⟩) (n * n) (n * n)] ∧ Row W0 (w.heap.size + 1) 48 [.int .i64 0, .slice none 0 0] ∧ Below w.heap.size w W0 ∧ W0.heap.size = w.heap.size + 1 + 1 := by
    subst hW0
    have r1 := Row.new (w.alloc (.cells #[.int .i64 n, .slice (some ⟨p, 0, none⟩) (n * n) (n * n)] 48)) 48 [.int .i64 0, .slice none 0 0]
    rw [World.size_alloc] at r1
    exact ⟨(Row.new w 48 [.int .i64 n, .slice (some ⟨p, 0, none⟩) (n * n) (n * n)]).alloc _, r1, ((Below.refl _ _).alloc (Nat.le_refl _) _).alloc (by simp) _, by simp⟩
  rw [hW0]
  refine (hone _).mono ?_
  rintro e w1 ⟨g, rfl, hg0, hb1, hr1⟩
  have hs1 := hb1.size
  have lt1 := hr1.lt
  rw [hs0] at hs1 hg0
  obtain ⟨W1, hW1⟩ : ∃ W1, w1.alloc (.cells #[.int .i64 n, .slice (some ⟨g, 0, none⟩) (n * n) (n * n)] 48) = W1 := ⟨_, rfl⟩
  obtain ⟨r5, hB1, hs2⟩ := sq_cells w1 _ _ hW1
  have q3 := row_below (row_below r3 hb1 r3.lt) hB1 (by omega)
  have q4 := row_below (row_below r4 hb1 r4.lt) hB1 (by omega)
  have p1 := row_below hr1 hB1 hr1.lt
  have hBW : Below w.heap.size w W1 := (hB0.trans (hb1.mono (by omega))).trans (hB1.mono (by omega))
  go_wp2_with fail
  have hst : InvSt w n p g w1.heap.size S W1 := ⟨row_below hs hBW ltp, hBW, r5, q3, q4⟩
  have hg1 : w.heap.size + 1 < g := by omega
  have hBg : w1.heap.size ≠ g := by omega
  clear hone hB0 hr1 hb1 hB1 r3 r4 r5 q3 q4 hBW
  generalize w1.heap.size = B at *
  clear hW1 hW0
  go_loopw [6] (fun i wr => ∃ (k : Nat) (P : List B64), k ≤ n ∧ i = .int .i64 ((k : Int) - 1) ∧ InvSt w n p g B S wr ∧ Row wr g 2 (bvals P) ∧ P.length = n * n ∧ EqN n (mat n P) (invG (mat n S) (L.drop k))) (fun i _ => (intOf i + 1).toNat)
  case atStart => exact ⟨n, _, Nat.le_refl _, rfl, hst, p1, tabL_len _ _, by rw [List.drop_of_length_le (by omega)]; exact mat_tabL _⟩
  case round =>
    obtain ⟨k, P, hk, rfl, hst, rG, hlP, hP⟩ := hrel
    clear p1
    by_cases hlt : 0 < k
    · obtain ⟨i, rfl⟩ : ∃ i, k = i + 1 := ⟨k - 1, by omega⟩
      have hi : i < L.length := by omega
      obtain ⟨lb, lo, rfl, hlb, hlc⟩ := (hL.below (hst.bel.mono hn₀)).at hi
      have hca := hlc i hi
      have ei : ((i + 1 : Nat) : Int) - 1 = (i : Nat) := by omega
      rw [ei]
      have ha := hLn _ (wd_mem hi)
      have HLC := hide hlc
      clear hlc ei
      generalize wa : wd L i = a at *
      obtain ⟨rest, hrest⟩ : ∃ rest, rest = L.drop (i + 1) := ⟨_, rfl⟩
      have hlr : rest.length = n - (i + 1) := by rw [hrest, List.length_drop, hlL]
      have hdrop : L.drop i = a :: rest := by rw [hrest, ← wa]; exact drop_wd hi
      have hnr : a ∉ rest := by
        have h1 : (L.drop i).Nodup := hnd.sublist (List.drop_sublist _ _)
        rw [hdrop, List.nodup_cons] at h1; exact h1.1
      have hrn : ∀ x ∈ rest, x < n := fun x hx => hLn x (by rw [hrest] at hx; exact List.mem_of_mem_drop hx)
      have hrc : ∀ j, j < n - (i + 1) → ∀ V, InvSt w n p g B S V → V.cell? ⟨lb, lo + (i + 1) + j, none⟩ = some (.int .i64 (wd rest j : Nat)) := fun j hj V hV => by
        rw [hrest, wd_drop]
        obtain ⟨b2, o2, e2, _, h2⟩ := (hL.below (hV.bel.mono hn₀)).at (i := i + 1 + j) (by omega)
        cases e2
        rw [show lo + (i + 1) + j = lo + (i + 1 + j) by omega]
        exact h2 _ (by omega)
      have hPr : EqN n (mat n P) (accM (mat n S) a rest 0) := hP.trans fun r hr b hb => by
        unfold accM
        rw [← hrest]
        by_cases e : r = a
        · subst e; rw [if_pos rfl, List.take_zero, invG_out hnr]; simp [sl]
        · rw [if_neg e]
      clear hP HLC hL
      by_cases hcl : cl = i + 1
      · subst hcl
        go_wp2_with fail
        go_loopw [30] (fun j wr => ∃ (m : Nat) (P : List B64), m ≤ n - (i + 1) ∧ j = .int .i64 m ∧ InvSt w n p g B S wr ∧ Row wr g 2 (bvals P) ∧ P.length = n * n ∧ EqN n (mat n P) (accM (mat n S) a rest m)) (fun j _ => n - (i + 1) - (intOf j).toNat)
        case atStart => exact ⟨0, P, Nat.zero_le _, rfl, hst, rG, hlP, hPr⟩
        case round =>
          clear hPr hlP rG hst
          obtain ⟨m, P, hm, rfl, hst, rG, hlP, hP⟩ := hrel
          have hmt : ¬ m < n - (i + 1) := by omega
          obtain rfl : m = n - (i + 1) := by omega
          have hPm : EqN n (mat n P) (mulM (mat n S) a rest 0) := hP.trans fun r _ b _ => by
            unfold accM mulM
            rw [List.take_of_length_le (by omega)]
            simp
          have c0 := hst.rB.cell (i := 0) rfl
          have c1 := hst.rB.cell (i := 1) rfl
          clear hP
          go_wp2_with fail
          refine (hrow _ _ hn ha _).mono ?_
          rintro e w2 ⟨rfl, hb2⟩
          have hst2 := hst.keep hb2
          have rG2 := Row.keep rG hb2
          clear c0 c1 hst rG hb2
          go_wp2_with fail
          go_loopw [53] (fun j wr => ∃ (m : Nat) (P : List B64), m ≤ n ∧ j = .int .i64 m ∧ InvSt w n p g B S wr ∧ Row wr g 2 (bvals P) ∧ P.length = n * n ∧ EqN n (mat n P) (mulM (mat n S) a rest m)) (fun j _ => n - (intOf j).toNat)
          case atStart => exact ⟨0, P, Nat.zero_le _, rfl, hst2, rG2, hlP, hPm⟩
          case round =>
            clear hst2 rG2 hlP hPm
            obtain ⟨m, P, hm, rfl, hst, rG, hlP, hP⟩ := hrel
            by_cases hmt : m < n
            · have hax : a * n + a < S.length := by rw [hlS]; exact plc_lt ha ha
              have ham := plc_lt ha hmt
              obtain ⟨sv, hsv⟩ : ∃ sv, (bd S (a * n + a)).toInt = sv := ⟨_, rfl⟩
              obtain ⟨y, hy⟩ : ∃ y, bd P (a * n + m) * bd S (a * n + a) = y := ⟨_, rfl⟩
              have hPn : EqN n (mulM (mat n S) a rest (m + 1)) (fun r b => if r = a ∧ b = m then mulM (mat n S) a rest m a m * mat n S a a else mulM (mat n S) a rest m r b) := fun r _ b _ => by
                show _ = if r = a ∧ b = m then mulM (mat n S) a rest m a m * mat n S a a else mulM (mat n S) a rest m r b
                unfold mulM
                by_cases e : r = a
                · subst e
                  by_cases e2 : b = m
                  · subst e2; simp
                  · by_cases e3 : b < m
                    · have e4 : b < m + 1 := by omega
                      simp [e2, e3, e4]
                    · have e4 : ¬ b < m + 1 := by omega
                      simp [e2, e3, e4]
                · simp [e]
              have gc := rG.cell (bvals_at (i := a * n + m) (by omega))
              have gf := rG.frozen (a * n + m)
              have hmul : wrap64 ((bd P (a * n + m)).toInt * sv) = y.toInt := by rw [← hsv, ← hy]; exact wrap_mul _ _
              obtain ⟨gv, hgv⟩ : ∃ gv, (bd P (a * n + m)).toInt = gv := ⟨_, rfl⟩
              rw [hgv] at gc hmul
              have hw1 : IntKind.i64.wrap (gv * sv) = y.toInt := (wrap_kind _).trans hmul
              have hrest := hide hrest
              have hdrop := hide hdrop
              clear hrn hlr hnr hLn hnd
              have HP := hide hP
              have HPN := hide hPn
              clear hP hPn
              go_wp2_with fail
              have rG := Row.drew rG
              have st := hst.drew
              obtain ⟨d0, d1, d2, d3, d4, _⟩ := InvSt.all hax hsv hst
              go_region_with (first
                  | (go_at_call 26; with_reducible refine (hrow _ a hn ha _).mono ?_; rintro e w' ⟨rfl, hb⟩; have st := InvSt.keep hb st; obtain ⟨d0, d1, d2, d3, d4, _⟩ := InvSt.all hax hsv st; have rG := Row.keep rG hb; have gc := rG.cell (bvals_at (i := a * n + m) (by omega)); have gf := rG.frozen (a * n + m); rw [hgv] at gc))
              all_goals
                have hT := InvSt.grown ltp hg1 hBg (grownBy_setCellAt _ g (a * n + m) (.int .i64 y.toInt)) st
                have hset := rG.set (a * n + m) (.int .i64 y.toInt)
                rw [bvals_set] at hset
                try rw [hw1] at hT
                try rw [hw1]
                clear hb rG gc gf hmul hw1 hrow hst
                go_wp2
                refine ⟨⟨m + 1, P.set (a * n + m) y, by omega, by go_num, hT, hset, by rw [List.length_set, hlP], fun r hr b hb => ?_⟩, by simp [intOf]; omega⟩
                have e0 : mulM (mat n S) a rest (m + 1) r b = if r = a ∧ b = m then mulM (mat n S) a rest m a m * mat n S a a else mulM (mat n S) a rest m r b := HPN.out r hr b hb
                rw [e0]
                have e1 := HP.out r hr b hb
                have e2 := HP.out a ha m hmt
                unfold mat at e1 e2 ⊢
                show bd (P.set (a * n + m) y) (r * n + b) = _
                rw [bd_set (by omega)]
                by_cases e : a * n + m = r * n + b
                · obtain ⟨e3, e4⟩ := plc_inj hmt hb e
                  subst e3; subst e4
                  rw [if_pos rfl, if_pos ⟨rfl, rfl⟩, ← hy, e2]
                · rw [if_neg e, if_neg (fun h => e (by rw [h.1, h.2])), e1]
            · obtain rfl : m = n := by omega
              have hPf : EqN m (mat m P) (invG (mat m S) (L.drop i)) := hP.trans fun r _ b hb => by
                rw [hdrop]
                unfold mulM
                show _ = if r = a then (one a b + sl rest (fun x => -(mat m S a x) * invG (mat m S) rest x b)) * mat m S a a else invG (mat m S) rest r b
                rw [if_pos hb]
              clear hP
              go_wp2_with fail
              exact ⟨⟨i, P, by omega, by go_num, hst, rG, hlP, hPf⟩, by simp [intOf] <;> omega⟩
      · go_wp2_with fail
        go_loopw [30] (fun j wr => ∃ (m : Nat) (P : List B64), m ≤ n - (i + 1) ∧ j = .int .i64 m ∧ InvSt w n p g B S wr ∧ Row wr g 2 (bvals P) ∧ P.length = n * n ∧ EqN n (mat n P) (accM (mat n S) a rest m)) (fun j _ => n - (i + 1) - (intOf j).toNat)
        case atStart => exact ⟨0, P, Nat.zero_le _, rfl, hst, rG, hlP, hPr⟩
        case round =>
          clear hPr hlP rG hst
          obtain ⟨m, P, hm, rfl, hst, rG, hlP, hP⟩ := hrel
          by_cases hmt : m < n - (i + 1)
          · have hcx := hrc m hmt _ hst
            have hxr : wd rest m ∈ rest := wd_mem (by omega)
            have hx := hrn _ hxr
            have hxa : wd rest m ≠ a := fun e => hnr (e ▸ hxr)
            have hPn : EqN n (accM (mat n S) a rest (m + 1)) (fun r b => accM (mat n S) a rest m r b + if r = a then -(mat n S a (wd rest m)) * accM (mat n S) a rest m (wd rest m) b else 0) := fun r _ b _ => accM_succ (by omega) hxa r b
            generalize wd rest m = x at *
            have hax : a * n + x < S.length := by rw [hlS]; exact plc_lt ha hx
            have hrows : ∀ y, y < n → y * n + n ≤ n * n := fun y hy => by
              have := Nat.mul_le_mul_right n (show y + 1 ≤ n from hy)
              rwa [Nat.succ_mul] at this
            have hapart : x * n + n ≤ a * n ∨ a * n + n ≤ x * n := by
              rcases Nat.lt_or_ge x a with h | h
              · have := Nat.mul_le_mul_right n (show x + 1 ≤ a from h)
                rw [Nat.succ_mul] at this; exact .inl this
              · have := Nat.mul_le_mul_right n (show a + 1 ≤ x by omega)
                rw [Nat.succ_mul] at this; exact .inr this
            have hra := hrows a ha
            have hrx := hrows x hx
            obtain ⟨sv, hsv⟩ : ∃ sv, (bd S (a * n + x)).toInt = sv := ⟨_, rfl⟩
            obtain ⟨y, hy⟩ : ∃ y, -(bd S (a * n + x)) = y := ⟨_, rfl⟩
            have hneg : wrap64 (-sv) = y.toInt := by rw [← hsv, ← hy]; exact wrap_neg _
            have hneg2 : IntKind.i64.wrap (-sv) = y.toInt := (wrap_kind _).trans hneg
            have HP := hide hP
            have HPN := hide hPn
            have hadd := fun V (hV : Row V g 2 (bvals P)) => add_any g (a * n) n (n * n - a * n) g (x * n) (n * n - x * n) P (fun i => bd P (x * n + i)) y (by omega) (by omega) (by rw [hlP]; exact hra) V hV (fun W' T' _ hT' hlT' hT => by
              intro i hi
              have := hT'.cell (bvals_at (i := x * n + i) (by omega))
              rw [hT (x * n + i) (by omega)] at this
              exact this)
            clear hrc hP hPn hxr
            have hrest := hide hrest
            have hdrop := hide hdrop
            clear hrn hlr hnr hLn hnd hrows
            go_wp2_with fail
            have rG := Row.drew rG
            go_region_held3 (fun V => V.cell? ⟨B, 0, none⟩ = some (.int .i64 n) ∧ V.cell? ⟨B, 1, none⟩ = some (.slice (some ⟨g, 0, none⟩) (n * n) (n * n)) ∧ V.cell? ⟨w.heap.size, 0, none⟩ = some (.int .i64 n) ∧ V.cell? ⟨w.heap.size, 1, none⟩ = some (.slice (some ⟨p, 0, none⟩) (n * n) (n * n)) ∧ V.cell? ⟨p, a * n + x, none⟩ = some (.int .i64 sv) ∧ InvSt w n p g B S V) ((go_split_ands; first | exact InvSt.all hax hsv hst | exact InvSt.all hax hsv hst.drew | exact InvSt.all hax hsv (by assumption) | exact InvSt.all hax hsv (InvSt.keep hb (by assumption)) | exact InvSt.all hax hsv (InvSt.grown ltp hg1 hBg hg (by assumption)) | fail))
              (first
                | (go_at_call 26; with_reducible refine (hrow _ a hn ha _).mono ?_; rintro e w' ⟨rfl, hb⟩; have rG := Row.keep rG hb)
                | (go_at_call 26; with_reducible refine (hrow _ x hn hx _).mono ?_; rintro e w' ⟨rfl, hb⟩; have rG := Row.keep rG hb)
                | (go_at_call 43; with_reducible refine (hadd _ rG).mono ?_; rintro e w' ⟨rfl, hg, T', hT', hlT', hout, hin⟩))
            go_split_ands
            have hT := ‹InvSt w n p g B S w'›
            clear hg hb hadd rG hrow hneg hst hcx
            go_wp2
            refine ⟨⟨m + 1, T', by omega, by go_num, hT, hT', by rw [hlT', hlP], fun r hr b hb => ?_⟩, by simp [intOf]; omega⟩
            have e0 : accM (mat n S) a rest (m + 1) r b = accM (mat n S) a rest m r b + if r = a then -(mat n S a x) * accM (mat n S) a rest m x b else 0 := HPN.out r hr b hb
            rw [e0]
            have e1 := HP.out r hr b hb
            have e2 := HP.out x hx b hb
            unfold mat at e1 e2 ⊢
            show bd T' (r * n + b) = _
            by_cases e : r = a
            · subst e
              rw [hin b hb, if_pos rfl, e1, e2, hy]
            · rw [if_neg e, hout (r * n + b) (by
                rcases Nat.lt_or_ge r a with h | h
                · have := Nat.mul_le_mul_right n (show r + 1 ≤ a from h)
                  rw [Nat.succ_mul] at this; exact .inl (by omega)
                · have := Nat.mul_le_mul_right n (show a + 1 ≤ r by omega)
                  rw [Nat.succ_mul] at this; exact .inr (by omega)), e1]; simp
          · obtain rfl : m = n - (i + 1) := by omega
            have hPm : EqN n (mat n P) (mulM (mat n S) a rest 0) := hP.trans fun r _ b _ => by
              unfold accM mulM
              rw [List.take_of_length_le (by omega)]
              simp
            have c0 := hst.rB.cell (i := 0) rfl
            have c1 := hst.rB.cell (i := 1) rfl
            clear hP
            go_wp2_with fail
            refine (hrow _ _ hn ha _).mono ?_
            rintro e w2 ⟨rfl, hb2⟩
            have hst2 := hst.keep hb2
            have rG2 := Row.keep rG hb2
            clear c0 c1 hst rG hb2
            go_wp2_with fail
            go_loopw [53] (fun j wr => ∃ (m : Nat) (P : List B64), m ≤ n ∧ j = .int .i64 m ∧ InvSt w n p g B S wr ∧ Row wr g 2 (bvals P) ∧ P.length = n * n ∧ EqN n (mat n P) (mulM (mat n S) a rest m)) (fun j _ => n - (intOf j).toNat)
            case atStart => exact ⟨0, P, Nat.zero_le _, rfl, hst2, rG2, hlP, hPm⟩
            case round =>
              clear hst2 rG2 hlP hPm
              obtain ⟨m, P, hm, rfl, hst, rG, hlP, hP⟩ := hrel
              by_cases hmt : m < n
              · have hax : a * n + a < S.length := by rw [hlS]; exact plc_lt ha ha
                have ham := plc_lt ha hmt
                obtain ⟨sv, hsv⟩ : ∃ sv, (bd S (a * n + a)).toInt = sv := ⟨_, rfl⟩
                obtain ⟨y, hy⟩ : ∃ y, bd P (a * n + m) * bd S (a * n + a) = y := ⟨_, rfl⟩
                have hPn : EqN n (mulM (mat n S) a rest (m + 1)) (fun r b => if r = a ∧ b = m then mulM (mat n S) a rest m a m * mat n S a a else mulM (mat n S) a rest m r b) := fun r _ b _ => by
                  show _ = if r = a ∧ b = m then mulM (mat n S) a rest m a m * mat n S a a else mulM (mat n S) a rest m r b
                  unfold mulM
                  by_cases e : r = a
                  · subst e
                    by_cases e2 : b = m
                    · subst e2; simp
                    · by_cases e3 : b < m
                      · have e4 : b < m + 1 := by omega
                        simp [e2, e3, e4]
                      · have e4 : ¬ b < m + 1 := by omega
                        simp [e2, e3, e4]
                  · simp [e]
                have gc := rG.cell (bvals_at (i := a * n + m) (by omega))
                have gf := rG.frozen (a * n + m)
                have hmul : wrap64 ((bd P (a * n + m)).toInt * sv) = y.toInt := by rw [← hsv, ← hy]; exact wrap_mul _ _
                obtain ⟨gv, hgv⟩ : ∃ gv, (bd P (a * n + m)).toInt = gv := ⟨_, rfl⟩
                rw [hgv] at gc hmul
                have hw1 : IntKind.i64.wrap (gv * sv) = y.toInt := (wrap_kind _).trans hmul
                have hrest := hide hrest
                have hdrop := hide hdrop
                clear hrn hlr hnr hLn hnd
                have HP := hide hP
                have HPN := hide hPn
                clear hP hPn
                go_wp2_with fail
                have rG := Row.drew rG
                have st := hst.drew
                obtain ⟨d0, d1, d2, d3, d4, _⟩ := InvSt.all hax hsv hst
                go_region_with (first
                    | (go_at_call 26; with_reducible refine (hrow _ a hn ha _).mono ?_; rintro e w' ⟨rfl, hb⟩; have st := InvSt.keep hb st; obtain ⟨d0, d1, d2, d3, d4, _⟩ := InvSt.all hax hsv st; have rG := Row.keep rG hb; have gc := rG.cell (bvals_at (i := a * n + m) (by omega)); have gf := rG.frozen (a * n + m); rw [hgv] at gc))
                all_goals
                  have hT := InvSt.grown ltp hg1 hBg (grownBy_setCellAt _ g (a * n + m) (.int .i64 y.toInt)) st
                  have hset := rG.set (a * n + m) (.int .i64 y.toInt)
                  rw [bvals_set] at hset
                  try rw [hw1] at hT
                  try rw [hw1]
                  clear hb rG gc gf hmul hw1 hrow hst
                  go_wp2
                  refine ⟨⟨m + 1, P.set (a * n + m) y, by omega, by go_num, hT, hset, by rw [List.length_set, hlP], fun r hr b hb => ?_⟩, by simp [intOf]; omega⟩
                  have e0 : mulM (mat n S) a rest (m + 1) r b = if r = a ∧ b = m then mulM (mat n S) a rest m a m * mat n S a a else mulM (mat n S) a rest m r b := HPN.out r hr b hb
                  rw [e0]
                  have e1 := HP.out r hr b hb
                  have e2 := HP.out a ha m hmt
                  unfold mat at e1 e2 ⊢
                  show bd (P.set (a * n + m) y) (r * n + b) = _
                  rw [bd_set (by omega)]
                  by_cases e : a * n + m = r * n + b
                  · obtain ⟨e3, e4⟩ := plc_inj hmt hb e
                    subst e3; subst e4
                    rw [if_pos rfl, if_pos ⟨rfl, rfl⟩, ← hy, e2]
                  · rw [if_neg e, if_neg (fun h => e (by rw [h.1, h.2])), e1]
              · obtain rfl : m = n := by omega
                have hPf : EqN m (mat m P) (invG (mat m S) (L.drop i)) := hP.trans fun r _ b hb => by
                  rw [hdrop]
                  unfold mulM
                  show _ = if r = a then (one a b + sl rest (fun x => -(mat m S a x) * invG (mat m S) rest x b)) * mat m S a a else invG (mat m S) rest r b
                  rw [if_pos hb]
                clear hP
                go_wp2_with fail
                exact ⟨⟨i, P, by omega, by go_num, hst, rG, hlP, hPf⟩, by simp [intOf] <;> omega⟩
    · obtain rfl : k = 0 := by omega
      have f0 := hst.r4.frozen 0
      have f1 := hst.r4.frozen 1
      have d0 := hst.r4.cell (i := 0) rfl
      have d1 := hst.r4.cell (i := 1) rfl
      have c0 := hst.rB.cell (i := 0) rfl
      have c1 := hst.rB.cell (i := 1) rfl
      have ltB := hst.rB.lt
      have lt4 := hst.r4.lt
      have ltP := rG.lt
      have e : P = tabL n (invG (mat n S) L) := mat_ext hlP (tabL_len _ _) (hP.trans (by rw [List.drop_zero]; exact (mat_tabL _).symm))
      subst e
      clear hP hlP hrow
      go_wp2
      have kk := (hst.r4.set 0 (.int .i64 n)).set 1 (.slice (some ⟨g, 0, none⟩) (n * n) (n * n))
      have e0 := kk.cell (i := 0) rfl
      have e1 := kk.cell (i := 1) rfl
      refine bodyPost_ret (v := .agg #[.int .i64 n, .slice (some ⟨g, 0, none⟩) (n * n) (n * n)]) (by simp [results, Tryd.results27, go_sem, e0, e1]) rfl ⟨_, rfl, by omega, ?_, ?_⟩
      · exact (hst.bel.setCell (p := ⟨w.heap.size + 1, 0, none⟩) (by simp) _).setCell (p := ⟨w.heap.size + 1, 1, none⟩) (by simp) _
      · exact (rG.other (by omega) _ _).other (by omega) _ _
end Go.Proofs.YtekpielpfegclabDoor
