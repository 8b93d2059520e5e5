/- Two rows that a call has made and that grow, apart from each other. append onto a row of a call's own: what lay in the old row, as far as it was filled, lies there still. -/
import Derived.Test.YtdeglbmoiofpoaaDoorPart7
import Derived.Maps.AppendAt
namespace Go.Proofs.YtdeglbmoiofpoaaDoor
open Go.RowKit Go.Shelf

/-- two slices don't lie in one row -/
def Apart (v u : Value) : Prop := ∀ b, v.ownBlock = some b → u.ownBlock ≠ some b
theorem own_kept {W W' : World} {base : Nat} {e : TypeId} {size : Nat} {v : Value} {k : Nat} {xs : List Value} {row : Option Nat} (h : W.ownsRow base e size v k xs) (hg : W.grownBy W' row) (hne : ∀ b, row = some b → v.ownBlock ≠ some b) : W'.ownsRow base e size v k xs := by
  refine ⟨h.1, ?_⟩
  rcases h.2 with h2 | ⟨g, cap, cur, h1, h2, h3, h4⟩
  · exact .inl h2
  · exact .inr ⟨g, cap, cur, h1, h2, (hg.block g (Array.getElem?_eq_some_iff.1 h3).1 (fun e' => hne g e'.symm (by rw [h1]; rfl))).trans h3, h4⟩
theorem own_block_lt {W : World} {base : Nat} {e : TypeId} {size : Nat} {v : Value} {k : Nat} {xs : List Value} (h : W.ownsRow base e size v k xs) {b : Nat} (hb : v.ownBlock = some b) : b < W.heap.size := by
  rcases h.2 with ⟨h1, _⟩ | ⟨g, cap, cur, h1, h2, h3, h4⟩
  · rw [h1] at hb; simp [Value.ownBlock] at hb
  · rw [h1] at hb
    obtain rfl : g = b := by simpa [Value.ownBlock] using hb
    exact (Array.getElem?_eq_some_iff.1 h3).1
theorem own_block_ge {W : World} {base : Nat} {e : TypeId} {size : Nat} {v : Value} {k : Nat} {xs : List Value} (h : W.ownsRow base e size v k xs) {b : Nat} (hb : v.ownBlock = some b) : base ≤ b := by
  apply Nat.le_of_not_lt
  intro hlt
  exact ownBlock_ge h hlt hb.symm

theorem cell_one_new' (w : World) (t : TypeId) (v : Value) {n : Nat} (h : w.heap.size = n) : ∀ j u, [v][j]? = some u → (w.alloc (.cells #[v] t)).cell? ((⟨n, 0, none⟩ : Addr).add j) = some u := by
  subst h; exact cell_one_new w v t
theorem Apart.symm {v u : Value} (h : Apart v u) : Apart u v := fun b h1 h2 => h b h2 h1
/-- what an append to the one leaves of the other -/
theorem append_keep {V u u3 : World} {B m m' : Nat} {v x v' : Value} {t e : TypeId} {xs ys vs : List Value} (hbel : Below B V u) (hrow : Row u B t vs) (ov : u.ownsRow (B + 1) e 1 v m xs) (ox : u.ownsRow (B + 1) e 1 x m' ys) (ap : Apart v x) (obj : Obj) (g : (u.alloc obj).grownBy u3 v.ownBlock) (at3 : v'.ownBlock = v.ownBlock ∨ v'.ownBlock = some (u.alloc obj).heap.size) :
    Below B V u3 ∧ Row u3 B t vs ∧ u3.ownsRow (B + 1) e 1 x m' ys ∧ Apart v' x ∧ u.heap.size ≤ u3.heap.size := by
  have hlt := hrow.lt
  refine ⟨?_, ?_, own_kept (ox.alloc _) g ap, ?_, ?_⟩
  · exact (hbel.alloc (Nat.le_of_lt hlt) obj).grown g (by simp; omega) fun q eq => by
      have := own_block_ge ov eq
      omega
  · exact (hrow.alloc obj).kept g (fun e' => by have := own_block_ge ov e'.symm; omega)
  · intro b hb hx
    rcases at3 with h | h
    · exact ap b (h ▸ hb) hx
    · rw [h] at hb
      cases hb
      have := own_block_lt ox hx
      simp at this
      omega
  · have := g.size
    simp at this
    omega
/-- what an append to the one leaves of the other -/
theorem append_apart {V u u3 : World} {B m m' : Nat} {v x v' : Value} {e : TypeId} {xs ys : List Value} (hbel : Below B V u) (hB : B ≤ u.heap.size) (ov : u.ownsRow B e 1 v m xs) (ox : u.ownsRow B e 1 x m' ys) (ap : Apart v x) (obj : Obj) (g : (u.alloc obj).grownBy u3 v.ownBlock) (at3 : v'.ownBlock = v.ownBlock ∨ v'.ownBlock = some (u.alloc obj).heap.size) :
    Below B V u3 ∧ u3.ownsRow B e 1 x m' ys ∧ Apart v' x ∧ u.heap.size ≤ u3.heap.size := by
  refine ⟨?_, own_kept (ox.alloc _) g ap, ?_, ?_⟩
  · exact (hbel.alloc hB obj).grown g (by simp; omega) fun q eq => own_block_ge ov eq
  · intro b hb hx
    rcases at3 with h | h
    · exact ap b (h ▸ hb) hx
    · rw [h] at hb
      cases hb
      have := own_block_lt ox hx
      simp at this
      omega
  · have := g.size
    simp at this
    omega
end Go.Proofs.YtdeglbmoiofpoaaDoor

namespace Go.Proofs.YtdeglbmoiofpoaaDoor
open Go

section
variable {P : Program} {w : World}
theorem append_kept {base : Nat} {t ty e : TypeId} {i : TypeInfo} {z : Value} {bytes : Nat} (ht : P.underlying t = some (.slice e)) (hi : P.info? e = some i) (hz : i.zero = some z) (hsize : i.size = 1) (hby : i.bytes = bytes)
    {v : Value} {n : Nat} {xs : List Value} (hown : w.ownsRow base e 1 v n xs) {ad : Addr} {c : Nat} {x : Value} (hnews : ∀ j u, [x][j]? = some u → w.cell? (ad.add j) = some u) (h1 : x.oneCell' = true)
    (h63 : n + 1 ≤ maxLen) (hbytes : (n + 1) * bytes ≤ 140737488355328) {v' : Value} {w' : World} (hr : (Builtin.append_ #[t, t] ty #[v, .slice (some ad) 1 c]).run P w = .ok v' w') {g j : Nat} (hg : v.ownBlock = some g) (hj : j < n) : w'.cell? ⟨g, j, none⟩ = w.cell? ⟨g, j, none⟩ := by
  have hsmall : n + 1 ≤ 9223372036854775807 := by simp only [maxLen] at h63; omega
  rcases hown.2 with ⟨rfl, _⟩ | ⟨g', cap, cur, rfl, hbg, hb, hnc, hcm, hcs, htake⟩
  · simp [Value.ownBlock] at hg
  · obtain rfl : g' = g := by simpa [Value.ownBlock] using hg
    have hl : [x].length = 1 * i.size := by rw [hsize]; rfl
    by_cases hroom : n + 1 ≤ cap
    · have hfit : n * i.size + [x].length ≤ cur.size := by rw [hcs, hsize]; simp; omega
      have hr2 := run_append_room (P := P) w t ty e i ht hi g' n cap cur hb ad 1 c [x] hl hnews (fun u hu => by simp at hu; subst hu; exact h1) hroom hfit
      rw [hr2] at hr
      injection hr with _ hw
      rw [← hw]
      have hnew := setRow_heap w g' cur (cur.toList.take (n * i.size) ++ [x] ++ cur.toList.drop (n * i.size + [x].length)).toArray e (0, 0) hb
      simp only [World.cell?, hnew, hb]
      have hjs : j < cur.toList.length := by simp only [Array.length_toList]; rw [hcs]; omega
      have : (cur.toList.take (n * i.size) ++ [x] ++ cur.toList.drop (n * i.size + [x].length)).toArray[j]? = cur[j]? := by
        rw [List.getElem?_toArray, List.append_assoc, List.getElem?_append_left (by rw [List.length_take, hsize]; simp at hjs ⊢; omega), List.getElem?_take_of_lt (by rw [hsize]; omega), Array.getElem?_toList]
      rw [this]
    · have holds : ∀ j u, xs[j]? = some u → w.cell? ((⟨g', 0, none⟩ : Addr).add j) = some u := hown.cells (g := g') rfl
      have hlo : xs.length = n * i.size := by rw [hsize]; exact hown.1
      have hr2 := run_append_grow (P := P) w t ty e i z ht hi hz ⟨g', 0, none⟩ n cap xs hlo holds ad 1 c [x] hl hnews (by omega) (by omega) (growslice_fits (by omega) (by rw [hby]; exact hbytes))
      rw [hr2] at hr
      injection hr with _ hw
      rw [← hw]
      have hlt : g' < w.heap.size := (Array.getElem?_eq_some_iff.1 hb).1
      exact World.cell?_alloc_lt w.drew _ ⟨g', j, none⟩ hlt

theorem wpList_append_keep {ops : Array Oper} {rest : List Oper} {o : Oper} {a : Act} {Q : Exit → Act → World → Prop} (hgd : o.guard = none) (s y : Operand) (t : TypeId)
    (ho : o.op = .call { callee := .builtin .append, args := #[s, y], argTypes := #[t, t] })
    (base : Nat) (e : TypeId) (i : TypeInfo) (z : Value) (bytes : Nat) (ht : P.underlying t = some (.slice e)) (hi : P.info? e = some i) (hz : i.zero = some z)
    (hsize : i.size = 1) (hby : i.bytes = bytes) (hzs : z.cells.size = 1)
    (v : Value) (n : Nat) (xs : List Value) (hs : a.eval s = v) (hown : w.ownsRow base e 1 v n xs)
    (ad : Addr) (c : Nat) (x : Value) (hx : a.eval y = .slice (some ad) 1 c) (hnews : ∀ j u, [x][j]? = some u → w.cell? (ad.add j) = some u) (h1 : x.oneCell' = true)
    (h63 : n + 1 ≤ maxLen) (hbytes : (n + 1) * bytes ≤ 140737488355328) (hbase : base ≤ w.heap.size)
    (h : ∀ v' w', w'.ownsRow base e 1 v' (n + 1) (xs ++ [x]) → w.grownBy w' v.ownBlock → (v'.ownBlock = v.ownBlock ∨ v'.ownBlock = some w.heap.size) → (∀ g j, v.ownBlock = some g → j < n → w'.cell? ⟨g, j, none⟩ = w.cell? ⟨g, j, none⟩) → wpList P ops Q rest (a.put o.dst v') w') :
    wpList P ops Q (o :: rest) a w := by
  refine wpList_plain hgd fun K hK => ?_
  obtain ⟨v', w', hr, h2, h3, _, h5⟩ := run_append_own_at (P := P) w base t o.type e i z 1 bytes ht hi hz hsize hby hzs (by decide) v n xs hown ad 1 c [x] rfl hnews (fun u hu => by simp at hu; subst hu; exact h1) h63 hbytes hbase
  have hk := fun g j hg hj => append_kept ht hi hz hsize hby hown hnews h1 h63 hbytes hr (g := g) (j := j) hg hj
  unfold Oper.wp execOp
  simp only [ho, resolve, invoke, builtin, Sem.run_bind, Sem.run_pure, Result.andThen_ok, List.map_toArray, List.map_cons, List.map_nil, hs, hx, hr]
  exact hK _ _ (h v' w' h2 h3 h5 hk)
end
end Go.Proofs.YtdeglbmoiofpoaaDoor
