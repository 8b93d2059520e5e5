/- The contract of the program's chains: the links followed from each element that nothing is linked to. -/
import Derived.Test.YtnlkjklcikolaaaDoorFolPlain
import Derived.Test.YtnlkjklcikolaaaDoorLinkAny
import Derived.Test.YtnlkjklcikolaaaDoorApart
import Derived.Laws.AppendOwn
namespace Go.Proofs.YtnlkjklcikolaaaDoor
open Go.RowKit Go.Shelf

theorem info_rows : (Tryd.prog.info? 27).map (fun i => (i.zero, i.size, i.bytes)) = some (some (.slice none 0 0), 1, 24) := by kernel_rfl
def zOf : Option Nat → Int
  | none => -1
  | some x => (x : Int)
theorem zd_opt {n : Nat} {zs : List Int} (h : LinkZ n zs) {x : Nat} (hx : x < n) : zd zs x = zOf (optZ zs x) := by
  rcases h.2 x hx with e | ⟨p, _, e⟩
  · rw [optZ_none e]; exact e
  · rw [optZ_some h hx e]; exact e
/-- the chains lie in memory, each in a row of its own -/
def Inn (W : World) (base : Nat) (xs : List Value) (cs : List (List Nat)) : Prop :=
  xs.length = cs.length ∧ ∀ j, j < cs.length → ∃ v, xs[j]? = some v ∧ W.ownsRow base 3 1 v (cs.getD j []).length (ivals (cs.getD j []))
theorem Inn.below {W W' : World} {base : Nat} {xs : List Value} {cs : List (List Nat)} (h : Inn W base xs cs) (hb : Below W.heap.size W W') : Inn W' base xs cs :=
  ⟨h.1, fun j hj => by obtain ⟨v, h1, h2⟩ := h.2 j hj; exact ⟨v, h1, ownsRow_below h2 hb⟩⟩
theorem own_slice' {W : World} {base : Nat} {e : TypeId} {size : Nat} {v : Value} {k : Nat} {xs : List Value} (h : W.ownsRow base e size v k xs) : ∃ a c, v = .slice a k c := by
  rcases h.2 with ⟨rfl, h0⟩ | ⟨g, cap, _, rfl, _⟩
  · exact ⟨none, 0, by rw [h0]⟩
  · exact ⟨_, _, rfl⟩
theorem own_other {W : World} {b1 b2 s1 s2 k1 k2 : Nat} {e1 e2 : TypeId} {v u : Value} {xs ys : List Value} (h : W.ownsRow b1 e1 s1 v k1 xs) (h' : W.ownsRow b2 e2 s2 u k2 ys) (hne : e1 ≠ e2) : ∀ b, u.ownBlock = some b → v.ownBlock ≠ some b := fun b hb hv => by
  rcases h.2 with ⟨rfl, _⟩ | ⟨g, cap, cur, rfl, _, hgb, _⟩
  · simp [Value.ownBlock] at hv
  · rcases h'.2 with ⟨rfl, _⟩ | ⟨g', cap', cur', rfl, _, hgb', _⟩
    · simp [Value.ownBlock] at hb
    · obtain rfl : g = b := by simpa [Value.ownBlock] using hv
      obtain rfl : g' = g := by simpa [Value.ownBlock] using hb
      rw [hgb] at hgb'
      simp at hgb'
      exact hne hgb'.2
theorem Inn.snoc {W W' : World} {base : Nat} {xs : List Value} {cs : List (List Nat)} {row : Option Nat} (h : Inn W base xs cs) (hg : W.grownBy W' row) (hrow : ∀ v k ys, W.ownsRow base 3 1 v k ys → ∀ b, row = some b → v.ownBlock ≠ some b) {v : Value} {c : List Nat} (hv : W.ownsRow base 3 1 v c.length (ivals c)) : Inn W' base (xs ++ [v]) (cs ++ [c]) := by
  refine ⟨by simp [h.1], fun j hj => ?_⟩
  by_cases q : j < cs.length
  · obtain ⟨u, h1, h2⟩ := h.2 j q
    refine ⟨u, by rw [List.getElem?_append_left (by rw [h.1]; exact q)]; exact h1, ?_⟩
    rw [show (cs ++ [c]).getD j [] = cs.getD j [] by rw [List.getD_eq_getElem?_getD, List.getD_eq_getElem?_getD, List.getElem?_append_left q]]
    exact own_kept h2 hg (hrow _ _ _ h2)
  · have hj' : j = cs.length := by simp at hj; omega
    subst hj'
    refine ⟨v, by rw [← h.1]; simp, ?_⟩
    rw [show (cs ++ [c]).getD cs.length [] = c by simp]
    exact own_kept hv hg (hrow _ _ _ hv)
theorem cntF_leN (p : Nat → Bool) (k : Nat) : cntF p k ≤ k := by unfold cntF; exact Nat.le_trans (List.length_filter_le _ _) (by simp)

set_option maxRecDepth 100000 in
set_option maxHeartbeats 2000000 in
theorem chains_any (gN gP n : Nat) (nz pz : List Int) (up : Nat → Nat → Prop) (rk : Nat → Nat) (M : Mat up (optZ nz) (optZ pz)) (R : Rise up n rk) (hl : n ≤ 16) (lN : LinkZ n nz) (lP : LinkZ n pz) (w : World) (rN : Row w gN 3 (zvals nz)) (rP : Row w gP 3 (zvals pz)) :
    Calls Tryd.prog 17 #[.agg #[.slice (some ⟨gN, 0, none⟩) n n, .slice (some ⟨gP, 0, none⟩) n n]] w fun e w' => ∃ v xs cs, e = .returned v ∧ Below w.heap.size w w' ∧ w'.ownsRow w.heap.size 27 1 v cs.length xs ∧ Inn w' w.heap.size xs cs ∧ Chs (optZ nz) (optZ pz) n cs := by
  obtain ⟨i0, hi, hz0, hz1, hz2⟩ := info_parts info_int
  obtain ⟨i1, hi1, hy0, hy1, hy2⟩ := info_parts info_rows
  have ltN := rN.lt
  have ltP := rP.lt
  have hnl := lN.1
  have hpl := lP.1
  have r0 : Row (w.alloc (.cells #[.slice (some ⟨gN, 0, none⟩) n n, .slice (some ⟨gP, 0, none⟩) n n] 43)) w.heap.size 43 [.slice (some ⟨gN, 0, none⟩) n n, .slice (some ⟨gP, 0, none⟩) n n] := Row.new w _ _
  have hb0 : Below w.heap.size w (w.alloc (.cells #[.slice (some ⟨gN, 0, none⟩) n n, .slice (some ⟨gP, 0, none⟩) n n] 43)) := (Below.refl _ _).alloc (Nat.le_refl _) _
  go_enter Tryd.func17, Tryd.ntmps17
  go_wp2
  go_loopw [3, 10] (fun ls i wr => ∃ (k : Nat) (v : Value) (xs : List Value) (cs : List (List Nat)), k ≤ n ∧ i = .int .i64 k ∧ ls = v ∧ Hid (Chs (optZ nz) (optZ pz) k cs) ∧ wr.ownsRow (w.heap.size + 1) 27 1 v cs.length xs ∧ Hid (Inn wr (w.heap.size + 1) xs cs) ∧ Row wr w.heap.size 43 [.slice (some ⟨gN, 0, none⟩) n n, .slice (some ⟨gP, 0, none⟩) n n] ∧ Below w.heap.size w wr) (fun _ i _ => n - (intOf i).toNat)
  case atStart => exact ⟨0, _, [], [], Nat.zero_le _, rfl, rfl, Chs.start _ _, World.ownsRow_nil .., ⟨rfl, fun j hj => by simp at hj⟩, r0, hb0⟩
  case round =>
    obtain ⟨k, v, xs, cs, hk, rfl, rfl, HC, hown, HI, rL, hB⟩ := hrel
    obtain ⟨U, hU⟩ : ∃ U, U = wr := ⟨_, rfl⟩
    subst hU
    have hsz := hB.size
    have ltl := rL.lt
    have c0 := rL.cell (i := 0) rfl
    have c1 := rL.cell (i := 1) rfl
    have hcl : cs.length ≤ 16 := by rw [HC.out.len]; exact Nat.le_trans (cntF_leN _ _) (by omega)
    obtain ⟨av, cv, rfl⟩ := own_slice' hown
    have rPw : Row U gP 3 (zvals pz) := row_below rP hB ltP
    by_cases hlt : k < n
    · have cP := rPw.cell (zvals_at (show k < pz.length by omega))
      rcases lP.2 k hlt with e0 | ⟨p, hp, e0⟩
      · rw [e0] at cP
        have hpv := optZ_none e0
        have HP := hide hpv
        clear e0 hpv
        go_wp2
        go_loopw [5, 6] (fun l at_ W => ∃ (L : List Nat) (z : Option Nat) (v2 : Value), l = v2 ∧ at_ = .int .i64 (zOf z) ∧ Hid (Fol (optZ nz) k L z) ∧ W.ownsRow U.heap.size 3 1 v2 L.length (ivals L) ∧ Below U.heap.size U W) (fun _ at_ _ => if intOf at_ < 0 then 0 else rk (intOf at_).toNat + 1)
        case atStart => exact ⟨[], some k, _, rfl, rfl, Fol.start, World.ownsRow_nil .., Below.refl _ _⟩
        case round =>
          obtain ⟨L, z, v2, rfl, rfl, HF, ho2, hB2⟩ := hrel
          have hinv := HF.out.inv M R hlt
          have hLl : L.length ≤ 16 := Nat.le_trans (nodup_lt (hinv.2.2.1.imp fun h => R.irr h) hinv.1) hl
          have hsz2 := hB2.size
          obtain ⟨a2, c2, rfl⟩ := own_slice' ho2
          have rL2 := row_below rL hB2 ltl
          have d0 := rL2.cell (i := 0) rfl
          clear c0 c1 cP
          cases z with
          | some x =>
            have hxn := hinv.2.1 x rfl
            have rNw : Row wr gN 3 (zvals nz) := row_below (row_below rN hB ltN) hB2 (row_below rN hB ltN).lt
            have cN := rNw.cell (zvals_at (show x < nz.length by omega))
            rw [zd_opt lN hxn] at cN
            have HS := hide (Fol.step HF.out)
            have hne : (((x : Nat) : Int) != (-1)) = true := by rw [bne_iff_ne]; omega
            have hmeas : Hid ((if zOf (optZ nz x) < 0 then 0 else rk (zOf (optZ nz x)).toNat + 1) < rk x + 1) := by
              unfold Hid
              cases e : optZ nz x with
              | none => simp [zOf]
              | some y =>
                have := R.fall (M.isUp e)
                have h1 : ¬ (y : Int) < 0 := by omega
                show (if ((y : Nat) : Int) < 0 then 0 else rk ((y : Nat) : Int).toNat + 1) < rk x + 1
                rw [if_neg h1, Int.toNat_natCast]
                omega
            clear hinv HF
            rw [show zOf (some x) = (x : Int) from rfl]
            have hxl : Hid (optZ nz x = optZ nz x) := rfl
            obtain ⟨z2, hz2'⟩ : ∃ z2, zOf (optZ nz x) = z2 := ⟨_, rfl⟩
            rw [hz2'] at cN hmeas
            have HZ := hide hz2'
            clear hz2' hxl
            go_wp2_with (at_builtin; refine wpList_append_own _ rfl _ _ 27 rfl U.heap.size 3 i0 (.int .i64 0) 1 8 Tryd.underlying27 hi hz0 hz1 hz2 rfl (by decide) _ _ _ rfl (ho2.alloc _) ⟨wr.heap.size, 0, none⟩ 1 1 [.int .i64 (x : Nat)] rfl rfl (cell_one_new _ _ _) (fun u hu => by simp at hu; subst hu; rfl) (by unfold maxLen; omega) (by omega) (by simp; omega) ?_; intro v' w3 ho3 hgrow3 _; obtain ⟨g', cap', rfl⟩ := ownsRow_succ ho3; have hB3 : Below U.heap.size U w3 := (hB2.alloc hsz2 (.cells #[.int .i64 (x : Nat)] 3)).grown hgrow3 (by simp; omega) (fun j ej => by apply Nat.le_of_not_lt; intro hjl; exact ownBlock_ge ho2 (b := j) hjl ej.symm); have rL3 := row_below rL hB3 ltl; have f0 := rL3.cell (i := 0) rfl; have rN3 : Row w3 gN 3 (zvals nz) := row_below (row_below rN hB ltN) hB3 (row_below rN hB ltN).lt; have cN3 := rN3.cell (zvals_at (show x < nz.length by omega)); rw [zd_opt lN hxn, HZ.out] at cN3)
            refine ⟨⟨L ++ [x], optZ nz x, _, rfl, by rw [HZ.out], HS, ?_, hB3⟩, ?_⟩
            · rw [ivals_snoc, show (L ++ [x]).length = L.length + 1 by simp]; exact ho3
            · simp only [intOf, Int.toNat_natCast]
              exact hmeas.out
          | none =>
            clear hinv
            rw [show zOf none = (-1 : Int) from rfl]
            have hownW := ownsRow_below hown hB2
            have HIW := hide (HI.out.below hB2)
            have HCa := hide (Chs.add M R hlt HC.out HP.out HF.out)
            have hBW : Below w.heap.size w wr := hB.trans (hB2.mono hsz)
            clear HF HC HI
            go_wp2_with (at_builtin; refine wpList_append_own _ rfl _ _ 28 rfl (w.heap.size + 1) 27 i1 (.slice none 0 0) 1 24 Tryd.underlying28 hi1 hy0 hy1 hy2 rfl (by decide) _ _ _ rfl (hownW.alloc _) ⟨wr.heap.size, 0, none⟩ 1 1 [.slice a2 L.length c2] rfl rfl (cell_one_new _ _ _) (fun u hu => by simp at hu; subst hu; rfl) (by unfold maxLen; omega) (by omega) (by simp; omega) ?_; intro v' w3 ho3 hgrow3 _; obtain ⟨g', cap', rfl⟩ := ownsRow_succ ho3)
            have e1 : (cs ++ [L]).length = cs.length + 1 := by simp
            have hB3 : Below w.heap.size w w3 := (hBW.alloc (by omega) (.cells #[.slice a2 L.length c2] 27)).grown hgrow3 (by simp; omega) (fun j ej => by apply Nat.le_of_not_lt; intro hjl; exact ownBlock_ge hownW (b := j) (by omega) ej.symm)
            have rL3 := row_below rL hB2 ltl
            have rL4 := (rL3.alloc (.cells #[.slice a2 L.length c2] 27)).kept hgrow3 (ownBlock_ge hownW (b := w.heap.size) (by omega))
            refine ⟨⟨k + 1, _, xs ++ [.slice a2 L.length c2], cs ++ [L], by omega, by go_num, rfl, HCa, by rw [e1]; exact ho3, ?_, rL4, hB3⟩, by simp [intOf]; omega⟩
            have hin2 : Inn (wr.alloc (.cells #[.slice a2 L.length c2] 27)) (w.heap.size + 1) xs cs := HIW.out.below ((Below.refl _ _).alloc (Nat.le_refl _) _)
            exact hin2.snoc hgrow3 (fun u m ys hu b hb => own_other hu (hownW.alloc _) (by decide) b hb) (ownsRow_base (ho2.alloc _) (by omega))
      · rw [e0] at cP
        have hnp : (((p : Nat) : Int) != (-1)) = true := by rw [bne_iff_ne]; omega
        have HS := hide (HC.out.skip (optZ_some lP hlt e0))
        clear e0
        go_wp2
        exact ⟨⟨k + 1, _, xs, cs, by omega, by go_num, rfl, HS, hown, HI, rL, hB⟩, by simp [intOf]; omega⟩
    · obtain rfl : k = n := by omega
      go_wp2
      go_ret
      refine ⟨.slice av cs.length cv, xs, cs, rfl, hB, ownsRow_base hown (by omega), ?_, HC.out⟩
      exact ⟨HI.out.1, fun j hj => by obtain ⟨u, h1, h2⟩ := HI.out.2 j hj; exact ⟨u, h1, ownsRow_base h2 (by omega)⟩⟩
end Go.Proofs.YtnlkjklcikolaaaDoor
