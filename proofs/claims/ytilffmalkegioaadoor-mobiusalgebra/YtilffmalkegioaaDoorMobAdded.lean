/- The law package's added. -/
import Derived.Test.YtilffmalkegioaaDoorMobRefZ
import Derived.Deep.RegionHeld3
namespace Go.Proofs.YtilffmalkegioaaDoor
open Go.RowKit Go.Shelf

theorem wrap_kindK (x : Int) : IntKind.i64.wrap x = wrap64 x := by rw [IntKind.wrap_i64]; unfold wrap64; rfl
theorem ownsRow_drew {W : World} {base : Nat} {e : TypeId} {size : Nat} {v : Value} {k : Nat} {xs : List Value} (h : W.ownsRow base e size v k xs) : W.drew.ownsRow base e size v k xs := ownsRow_below h (Below.refl _ _).drew
/-- append to a row of one's own, as a step of a region that draws its order -/
theorem step_append_o {P : Program} {ops : Array Oper} {o : Oper} {a : Act} {w : World} {K : Act → World → Prop} {Q : Exit → Act → World → Prop} {E : Prop}
    (hg : o.guard = none) (s x : Operand) (t : TypeId) (hop : o.op = Op.call { callee := Callee.builtin Builtin.append, args := #[s, x], argTypes := #[t, t] })
    (base : Nat) (e : TypeId) (i : TypeInfo) (z : Value) (size bytes : Nat) (h1 : P.underlying t = some (.slice e)) (h2 : P.info? e = some i) (h3 : i.zero = some z) (h4 : i.size = size) (h5 : i.bytes = bytes) (h6 : z.cells.size = size) (h7 : 0 < size)
    (v : Value) (k : Nat) (xs : List Value) (hs : a.eval s = v) (hown : w.ownsRow base e size v k xs)
    (ad : Addr) (m c : Nat) (news : List Value) (hx : a.eval x = .slice (some ad) m c) (hn : news.length = m * size) (hc : ∀ j u, news[j]? = some u → w.cell? (ad.add j) = some u) (h1c : ∀ u ∈ news, u.oneCell' = true)
    (b1 : k + m ≤ maxLen) (b2 : (k + m) * bytes ≤ 140737488355328) (hb : base ≤ w.heap.size)
    (hK : ∀ v' w', w'.ownsRow base e size v' (k + m) (xs ++ news) → w.grownBy w' v.ownBlock → K (a.put o.dst v') w') :
    if Region.wanted o (yielded ops a.tmps) = true then Oper.wp P o a w K Q else E := by
  have hw : Region.wanted o (yielded ops a.tmps) = true := by simp [Region.wanted, hg]
  rw [if_pos hw]
  obtain ⟨v', w', hrun, r1, r2, _⟩ := run_append_own (P := P) w base t o.type e i z size bytes h1 h2 h3 h4 h5 h6 h7 v k xs hown ad m c news hn hc h1c b1 b2 hb
  unfold Oper.wp
  simp [execOp, hop, resolve, invoke, builtin, hs, hx, hrun, Result.andThen]
  exact hK v' w' r1 r2
/-- two lists of one length, place by place -/
def addL (k l : List B64) : List B64 := (List.range k.length).map fun i => bd k i + bd l i
theorem addL_len (k l : List B64) : (addL k l).length = k.length := by unfold addL; simp
theorem addL_mat {n : Nat} {k l : List B64} (hk : k.length = n * n) : EqN n (mat n (addL k l)) (fun a b => mat n k a b + mat n l a b) := fun a ha b hb => by
  unfold mat addL
  rw [bd_range _ (by rw [hk]; exact plc_lt ha hb)]

set_option maxRecDepth 100000 in
set_option maxHeartbeats 4000000 in
theorem added_any (m : Nat) (hm : m ≤ 65536) (ak : Option Addr) (ck : Nat) (k : List B64) (al : Option Addr) (cl : Nat) (l : List B64) (hk : k.length = m) (hl : l.length = m) (n₀ : Nat) (w : World) (hvk : ZInts n₀ w ak (tiL k)) (hvl : ZInts n₀ w al (tiL l)) (hn₀ : n₀ ≤ w.heap.size) :
    Calls Tryd.prog 32 #[.slice ak m ck, .slice al m cl] w fun e w' => ∃ av cv, e = .returned (.slice av m cv) ∧ Below w.heap.size w w' ∧ w'.ownsRow w.heap.size 2 1 (.slice av m cv) m (bvals (addL k l)) := by
  obtain ⟨i0, hi, hz0, hz1, hz2⟩ := info_parts info_i64
  have hfull : addL k l = vecL m (fun i => bd k i + bd l i) := by unfold addL vecL; rw [hk]
  rw [hfull]
  clear hfull
  go_enter Tryd.func32, Tryd.ntmps32
  go_wp2_with fail
  go_loopw [6, 5] (fun i ls wr => ∃ (x : Nat) (av : Option Addr) (cv : Nat), x ≤ m ∧ i = .int .i64 x ∧ ls = .slice av x cv ∧ Below w.heap.size w wr ∧ wr.ownsRow w.heap.size 2 1 (.slice av x cv) x (bvals (vecL x (fun i => bd k i + bd l i)))) (fun i _ _ => m - (intOf i).toNat)
  case atStart => exact ⟨0, none, 0, Nat.zero_le _, rfl, rfl, Below.refl _ _, World.ownsRow_nil ..⟩
  case round =>
    obtain ⟨x, av, cv, hx, rfl, rfl, hB, hown⟩ := hrel
    by_cases hlt : x < m
    · obtain ⟨b1, o1, rfl, hb1, hc1⟩ := hvk.cellsB (i := x) (by omega)
      obtain ⟨b2, o2, rfl, hb2, hc2⟩ := hvl.cellsB (i := x) (by omega)
      have k1 := hc1 x (by omega)
      have k2 := hc2 x (by omega)
      have hBs := hB.size
      have hadd := wrap_add (bd k x) (bd l x)
      have HS := vecL_snoc (fun i => bd k i + bd l i) x
      generalize hs : bd k x + bd l x = s at *
      have HS := hide HS
      have hadd2 := (wrap_kindK _).trans hadd
      generalize (bd k x).toInt = kx at *
      generalize (bd l x).toInt = lx at *
      have hall : ∀ V, Below w.heap.size w V → V.cell? ⟨b1, o1 + x, none⟩ = some (.int .i64 kx) ∧ V.cell? ⟨b2, o2 + x, none⟩ = some (.int .i64 lx) ∧ Below w.heap.size w V := fun V hV =>
        ⟨(hV.cell (p := ⟨b1, o1 + x, none⟩) (by simp; omega)).trans k1, (hV.cell (p := ⟨b2, o2 + x, none⟩) (by simp; omega)).trans k2, hV⟩
      clear hc1 hc2 hs k1 k2 hvk hvl
      generalize vecL x (fun i => bd k i + bd l i) = S at *
      have hownd := ownsRow_drew hown
      go_wp2_with fail
      go_region_held3 (fun V => V.cell? ⟨b1, o1 + x, none⟩ = some (.int .i64 kx) ∧ V.cell? ⟨b2, o2 + x, none⟩ = some (.int .i64 lx) ∧ Below w.heap.size w V) ((go_split_ands; first | exact hall _ hB | exact hall _ hB.drew | exact hall _ (by assumption) | exact hall _ ((hB.drew).alloc hBs _) | exact hall _ hB3 | fail))
        ((refine step_append_o rfl _ _ 25 rfl w.heap.size 2 i0 (.int .i64 0) 1 8 Tryd.underlying25 hi hz0 hz1 hz2 rfl (by decide) (.slice av x cv) x (bvals S) rfl (hownd.alloc _) ⟨wr.heap.size, 0, none⟩ 1 1 [.int .i64 s.toInt] rfl rfl (cell_one_new wr.drew _ _) (fun u hu => by simp at hu; subst hu; rfl) (by unfold maxLen; omega) (by omega) (by simp; omega) ?_; intro v' w3 hown3 hgrow3; obtain ⟨g', cap', rfl⟩ := ownsRow_succ hown3; have hB3 : Below w.heap.size w w3 := ((hB.drew).alloc hBs (.cells #[.int .i64 s.toInt] 2)).grown hgrow3 (by simp; omega) (fun q eq => by apply Nat.le_of_not_lt; intro hql; exact ownBlock_ge hown (b := q) hql eq.symm)))
      go_wp2_with fail
      refine ⟨⟨x + 1, some ⟨g', 0, none⟩, cap', by omega, by go_num, rfl, hB3, ?_⟩, by simp [intOf]; omega⟩
      rw [HS.out, bvals_snoc]
      exact hown3
    · obtain rfl : x = m := by omega
      go_wp2_with fail
      go_ret
      exact ⟨av, cv, rfl, hB, hown⟩
end Go.Proofs.YtilffmalkegioaaDoor
