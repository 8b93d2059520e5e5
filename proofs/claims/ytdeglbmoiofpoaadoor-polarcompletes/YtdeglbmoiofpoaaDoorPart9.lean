/- The contract of package polar's closed: the sets of rows of all concepts, each once, gathered column by column; a map tells what is there. A contract of the library is laid at this program. -/
import Derived.Test.YtdeglbmoiofpoaaDoorPart6
import Derived.Test.YtdeglbmoiofpoaaDoorPart7
import Derived.Test.YtdeglbmoiofpoaaDoorPart8
import Derived.Maps.OwnSet
import Derived.Laws.OwnMore
import Derived.Shelf.SlSortCmp.WholeK
import Derived.Test.YtdeglbmoiofpoaaDoorProg
namespace Go.Proofs.YtdeglbmoiofpoaaDoor
open Go.RowKit Go.Shelf Go.Maps

theorem lawU : Keyed Tryd.prog 65 := int_keyed Tryd.underlying65
theorem zeroI (w : World) : (zeroValue 3).run Tryd.prog w = .ok (.int .i64 0) w := by kernel_rfl
theorem wf_u32 {x : Nat} (h : x < 4294967296) : (Lit.int .u32 (x : Int)).wf = true := by
  have h1 : IntKind.u32.min = 0 := by decide
  have h2 : IntKind.u32.max = 4294967295 := by decide
  simp [Lit.wf, h1, h2]
  omega
theorem wf_i64N {x : Nat} (h : x < 4294967296) : (Lit.int .i64 (x : Int)).wf = true := WalkArith.wf_i64 (by omega)
theorem keyU {x : Nat} (h : x < 4294967296) : keyOf Tryd.prog 65 (.int .u32 (x : Int)) = some (.int .u32 (x : Int)) := keyOf_int_mk Tryd.underlying65 (wf_u32 h)
theorem ownsMap_below {H : Type} {W W' : World} {P : Program} {k : TypeId} {R : Value → Option (DataW H × List MemPlace)} {b n : Nat} {D : DataW H} (h : W.ownsMap P k R b n D) (hb : Below W.heap.size W W') : W'.ownsMap P k R b n D := by
  have hlt := h.lt
  obtain ⟨es, clock, h1, h2⟩ := h
  exact ⟨es, clock, (hb.block b hlt).trans h1, h2⟩
theorem row_map {H : Type} {W : World} {P : Program} {k : TypeId} {R : Value → Option (DataW H × List MemPlace)} {b n : Nat} {D : DataW H} (h : W.ownsMap P k R b n D) {base : Nat} {e : TypeId} {size : Nat} {v : Value} {m : Nat} {xs : List Value} (ho : W.ownsRow base e size v m xs) : some b ≠ v.ownBlock := by
  obtain ⟨es, clock, h1, _⟩ := h
  rcases ho.2 with ⟨h2, _⟩ | ⟨g, cap, cur, h2, _, h3, _⟩
  · rw [h2]; simp [Value.ownBlock]
  · rw [h2]
    intro e
    have : b = g := by simpa [Value.ownBlock] using e
    subst this
    rw [h1] at h3; cases h3
/-- the map has just what is on the list -/
def HasL (D : DataW Unit) (L : List Nat) : Prop := ∀ x : Nat, Maps.has D (.int .u32 (x : Int)) = decide (x ∈ L)
theorem HasL.put {D : DataW Unit} {L : List Nat} (h : HasL D L) (hD : IsMap D) (y : Nat) (d : DataW Unit) : HasL (D.put (.int .u32 (y : Int)) d) (L ++ [y]) := fun x => by
  by_cases e : x = y
  · subst e
    rw [has_put_same (k := Lit.int .u32 (x : Int)) hD trivial, decide_eq_true (by simp)]
  · rw [has_put_other (fun h' => e (by injection h' with _ h2; omega)), h x]
    simp [e]

/-- the list and the map, as they lie in a round -/
structure CSt (w : World) (C : List Value) (v : Value) (L : List Nat) (W : World) : Prop where
  box : Row W w.heap.size 62 C
  own : W.ownsRow (w.heap.size + 1) 65 1 v L.length (wvals L)
  map : ∃ D : DataW Unit, W.ownsMap Tryd.prog 65 (plainElem Tryd.prog 3) (w.heap.size + 1 + 1) L.length D ∧ HasL D L
  bel : Below w.heap.size w W
  big : w.heap.size + 1 + 1 + 1 ≤ W.heap.size
theorem CSt.below {w : World} {C : List Value} {v : Value} {L : List Nat} {W W' : World} (h : CSt w C v L W) (hb : Below W.heap.size W W') : CSt w C v L W' :=
  ⟨row_below h.box hb h.box.lt, ownsRow_below h.own hb, let ⟨D, h1, h2⟩ := h.map; ⟨D, ownsMap_below h1 hb, h2⟩, h.bel.trans (hb.mono h.bel.size), Nat.le_trans h.big hb.size⟩

theorem Rdy.step' {a : Option Addr} {us : List Nat} {n₀ : Nat} {w w' : World} (h : Rdy a us n₀ w) (hb : Below w.heap.size w w') : Rdy a us n₀ w' := h.step hb
theorem own_form {W : World} {base m : Nat} {e : TypeId} {v : Value} {xs : List Value} (h : W.ownsRow base e 1 v m xs) (hm : 0 < m) : ∃ g cv, v = .slice (some ⟨g, 0, none⟩) m cv ∧ base ≤ g ∧ g < W.heap.size := by
  rcases h.2 with ⟨_, h0⟩ | ⟨g, cap, cur, h1, h2, h3, _⟩
  · omega
  · exact ⟨g, cap, h1, h2, (Array.getElem?_eq_some_iff.1 h3).1⟩
theorem cell_of_block {A B : World} {g : Nat} (h : B.heap[g]? = A.heap[g]?) (i : Nat) : B.cell? ⟨g, i, none⟩ = A.cell? ⟨g, i, none⟩ := by simp only [World.cell?, h]
theorem pbit_re (i : Nat) (hi : i < 32) (W : World) (d : Nat) (os : Array Obj) :
    Calls Tryd.prog 66 #[.int .i64 i] (Go.Sort.grow (redrawn W d) os) fun e w'' => e = .returned (.int .u32 (bitW i : Nat)) ∧ ∃ p : Regrown, w'' = Go.Sort.grow (redrawn W p.d) p.os :=
  Calls.regrown_of ((pbit_any i hi _).mono fun _ _ h => ⟨h.1, h.2 ▸ Below.refl _ _⟩)

set_option maxRecDepth 100000 in
set_option maxHeartbeats 4000000 in
theorem closed_any (n : Nat) (hn : n ≤ 16) (a : Option Addr) (cap : Nat) (us : List Nat) (hl : us.length ≤ 16) (n₀ : Nat) (w : World) (hR : Rdy a us n₀ w) :
    Calls Tryd.prog 61 #[.agg #[.slice a us.length cap, .int .i64 n]] w fun e w' => Below w.heap.size w w' ∧
      ((∃ L a' c', e = .returned (.tuple #[.slice a' (List.length L) c', .bool true]) ∧ w'.ownsRow w.heap.size 65 1 (.slice a' (List.length L) c') (List.length L) (wvals L) ∧ L.Nodup ∧ (∀ x, x ∈ L ↔ Ext us n x) ∧ L.length ≤ 256) ∨
       (256 < (conL n us).length ∧ e = .returned (.tuple #[.slice none 0 0, .bool false]))) := by
  obtain ⟨C, hC⟩ : ∃ C, C = [Value.slice a us.length cap, .int .i64 (n : Int)] := ⟨_, rfl⟩
  obtain ⟨z, hz⟩ : ∃ z, z = allW us.length := ⟨_, rfl⟩
  have lz : z < 4294967296 := hz ▸ allW_lt (by omega)
  obtain ⟨W0, hW0⟩ : ∃ W0, W0 = ((w.alloc (.cells #[.slice a us.length cap, .int .i64 (n : Int)] 62)).alloc (.cells #[.int .u32 (z : Int)] 65)).alloc (.map #[] 0) := ⟨_, rfl⟩
  have hsz0 : W0.heap.size = w.heap.size + 1 + 1 + 1 := by rw [hW0]; simp
  have hm0 : W0.ownsMap (H := Unit) Tryd.prog 65 (plainElem Tryd.prog 3) (w.heap.size + 1 + 1) 0 (.map []) := by
    have := World.ownsMap_made (H := Unit) ((w.alloc (.cells #[.slice a us.length cap, .int .i64 (n : Int)] 62)).alloc (.cells #[.int .u32 (z : Int)] 65)) Tryd.prog 65 (plainElem Tryd.prog 3)
    rw [hW0]; simpa using this
  obtain ⟨WI, hins, hmI, hgI⟩ := hm0.update lawU Tryd.underlying99 (by decide) (keyU lz) (plainElem_int Tryd.underlying3 (show (Lit.int .i64 0).wf = true by decide))
  have r0 : Row W0 w.heap.size 62 C := by rw [hW0, hC]; exact ((Row.new w _ _).alloc _).alloc _
  have o0 : W0.ownsRow (w.heap.size + 1) 65 1 (.slice (some ⟨w.heap.size + 1, 0, none⟩) 1 1) 1 (wvals [z]) := by
    have := (World.ownsRow_lit (base := w.heap.size + 1) (e := 65) (size := 1) (w.alloc (.cells #[.slice a us.length cap, .int .i64 (n : Int)] 62)) #[.int .u32 (z : Int)] 1 (by simp) (by decide) rfl).alloc (.map #[] 0)
    rw [hW0]; simpa [wvals] using this
  have b0 : Below w.heap.size w W0 := by
    rw [hW0]
    exact (((Below.refl _ _).alloc (Nat.le_refl _) _).alloc (by simp) _).alloc (by simp; omega) _
  have hstI : CSt w C (.slice (some ⟨w.heap.size + 1, 0, none⟩) (List.length [z]) 1) [z] WI := by
    refine ⟨r0.kept hgI (by simp; omega), o0.kept hgI (.inr (by simp [Value.ownBlock])), ⟨_, hmI, ?_⟩, b0.grown hgI (by omega) (fun j hj => by cases hj; omega), by have := hgI.size; omega⟩
    have : HasL (.map [] : DataW Unit) [] := fun x => rfl
    exact this.put isMap_empty z _
  have hall0 : ∀ x, x ∈ [z] ↔ Ext us 0 x := fun x => by rw [ext_zero, ← hz, List.mem_singleton]
  have hins2 := hins
  rw [hW0] at hins2
  have c1 : W0.cell? ⟨w.heap.size + 1, 0, none⟩ = some (.int .u32 (z : Int)) := o0.cellAt 0 (by decide)
  rw [hW0] at c1
  have hmm := @run_makeMap Tryd.prog
  obtain ⟨i0, hi, hz0, hz1, hz2⟩ := info_parts info_u32
  have k1 := hstI.box.cell (i := 1) (v := .int .i64 (n : Int)) (by rw [hC]; rfl)
  have hal := pall_any us.length (by omega)
  rw [← hz] at hal
  clear hz hm0 hmI hgI r0 o0 b0 hins
  go_enter Tryd.func61, Tryd.ntmps61
  go_wp2_with (go_at_call 83; refine (hal _).mono ?_; rintro e w' ⟨rfl, hww⟩; rw [hww]; clear hww w')
  clear c1 hins2 hW0 hsz0 hal hmm
  go_loopw [4, 25] (fun vv i wr => ∃ (j : Nat) (L : List Nat), j ≤ n ∧ i = .int .i64 j ∧ CSt w C vv L wr ∧ L.Nodup ∧ (∀ x, x ∈ L ↔ Ext us j x) ∧ L.length ≤ 256) (fun _ i _ => n - (intOf i).toNat)
  case atStart => exact ⟨0, [z], Nat.zero_le _, rfl, hstI, by simp, hall0, by simp⟩
  case round =>
    clear hstI hall0 k1 lz
    obtain ⟨j, L, hj, rfl, hst, hnd, hmem, h256⟩ := hrel
    obtain ⟨V, hV⟩ : ∃ V, V = wr := ⟨_, rfl⟩
    rw [← hV] at hst ⊢
    clear hV
    by_cases hlt : j < n
    · have hRV : Rdy a us n₀ V := hR.step' hst.bel
      have hpos : 0 < L.length := List.length_pos_of_mem ((hmem _).2 ((ext_zero.2 rfl).mono (Nat.zero_le _)))
      obtain ⟨g, cv, rfl, hg1, hg2⟩ := own_form hst.own hpos
      obtain ⟨col, hcol⟩ : ∃ c, dnW us (bitW j) = c := ⟨_, rfl⟩
      have lcol : col < 4294967296 := hcol ▸ dnW_lt hl _
      have d1 := pbit_re j (by omega) V
      have d2 := prows_re n a cap us hl (bitW j) (bitW_lt (by omega)) n₀ V hRV col hcol
      have hgB : g ≠ w.heap.size + 1 + 1 := fun e => by
        obtain ⟨D, h1, _⟩ := hst.map
        exact row_map h1 hst.own (by rw [← e]; rfl)
      have k0 := cell_regrown (hst.box.cell (i := 0) (v := .slice a us.length cap) (by rw [hC]; rfl))
      have k1 := cell_regrown (hst.box.cell (i := 1) (v := .int .i64 (n : Int)) (by rw [hC]; rfl))
      go_wp2_with fail
      refine wp_region_quiet_below (by kernel_rfl) (by kernel_rfl) ?_
      repeat (go_big_quiet_step (first | with_reducible exact d1 _ _ | with_reducible exact d2 _ _))
      refine wpQuiet_nil ?_
      intro _ hw'
      obtain ⟨⟨dq, osq⟩, hw''⟩ := hw'
      subst hw''
      obtain ⟨W1, hW1⟩ : ∃ W1, W1 = Go.Sort.grow (redrawn V dq) osq := ⟨_, rfl⟩
      have hbW : Below V.heap.size V W1 := by rw [hW1]; exact below_regrown _ _ _
      rw [← hW1]
      have hst1 := hst.below hbW
      have hgl1 : g < W1.heap.size := Nat.lt_of_lt_of_le hg2 hbW.size
      have hold1 : ∀ i, i < L.length → W1.cell? ⟨g, i, none⟩ = some (.int .u32 (wd L i : Nat)) := fun i hi => by
        rw [hst1.own.cellAt i (by omega), wvals_at hi]
      have hfL : ∀ i, i < L.length → wd L i < 4294967296 := fun i hi => ((hmem _).1 (wd_memL hi)).lt hl
      clear hW1 hst d1 d2 k0 k1 hbW hg2 hRV
      go_wp2_with fail
      go_loopw [4, 34] (fun vv i wr => ∃ (k : Nat) (M : List Nat), k ≤ L.length ∧ i = .int .i64 k ∧ CSt w C vv M wr ∧ Gath us j k L M ∧ M.length ≤ 256 ∧ g < wr.heap.size ∧ (∀ i, i < L.length → wr.cell? ⟨g, i, none⟩ = some (.int .u32 (wd L i : Nat)))) (fun _ i _ => L.length - (intOf i).toNat)
      case atStart => exact ⟨0, L, Nat.zero_le _, rfl, hst1, Gath.start us hnd hmem, h256, hgl1, hold1⟩
      case round =>
        clear hst1 hgl1 hold1
        obtain ⟨k, M, hk, rfl, hs, hG, hM, hgl, hold⟩ := hrel
        have hLM : L.length ≤ M.length := by obtain ⟨T, e⟩ := hG.pre; rw [e, List.length_append]; omega
        by_cases hk2 : k < L.length
        · obtain ⟨gM, cM, rfl, hm1, hm2⟩ := own_form hs.own (by omega)
          have hck := hold k hk2
          have hand := bits_and32 (wd L k) col (hfL k hk2) lcol
          obtain ⟨x, hx⟩ : ∃ x, andW (wd L k) col = x := ⟨_, rfl⟩
          have lxx : x < 4294967296 := hx ▸ andW_lt (hfL k hk2)
          obtain ⟨D, hmap, hD⟩ := hs.map
          have hhas := hD x
          rw [hx] at hand
          by_cases hin : x ∈ M
          · rw [decide_eq_true hin] at hhas
            have HG := hide (hG.old (by rw [hcol, hx]; exact hin))
            clear hin hx hD hG hmem hnd
            go_wp2_with (at_lookup; refine wpList_lookup_own_ok_int _ rfl _ _ 99 rfl 65 3 .i64 lawU Tryd.underlying99 Tryd.underlying3 (zeroI _) (w.heap.size + 1 + 1) M.length _ rfl hmap _ _ rfl (keyU lxx) ?_; intro c hatc hwc)
            exact ⟨⟨k + 1, M, by omega, by go_num, hs, HG.out, hM, hgl, hold⟩, by simp [intOf]; omega⟩
          · rw [decide_eq_false hin] at hhas
            have hin2 : ¬ andW (wd L k) (dnW us (bitW j)) ∈ M := by rw [hcol, hx]; exact hin
            by_cases hfull : M.length = 256
            · have hd : ((M.length : Int) == 256) = true := by rw [hfull]; rfl
              have HT := hide (too_many hn hG hlt hk2 hin2)
              have HF := hide hfull
              clear hin hin2 hx hD hG hmem hnd hfull
              go_wp2_with (at_lookup; refine wpList_lookup_own_ok_int _ rfl _ _ 99 rfl 65 3 .i64 lawU Tryd.underlying99 Tryd.underlying3 (zeroI _) (w.heap.size + 1 + 1) M.length _ rfl hmap _ _ rfl (keyU lxx) ?_; intro c hatc hwc)
              go_ret2
              exact ⟨hs.bel, .inr ⟨by have := HT.out; have := HF.out; omega, rfl⟩⟩
            · have hd : ((M.length : Int) == 256) = false := by rw [beq_eq_false_iff_ne]; omega
              have HG := hide (hG.new hin2)
              rw [hcol, hx] at HG
              have HD := hide (hD.put hmap.isMap x (.lit (.int .i64 (M.length : Int))))
              have HF := hide hfull
              clear hin hin2 hx hD hG hmem hnd hfull
              go_wp2_with (first | (at_lookup; refine wpList_lookup_own_ok_int _ rfl _ _ 99 rfl 65 3 .i64 lawU Tryd.underlying99 Tryd.underlying3 (zeroI _) (w.heap.size + 1 + 1) M.length _ rfl hmap _ _ rfl (keyU lxx) ?_; intro c hatc hwc) | (at_mapUpdate; refine wpList_mapUpdate_own _ rfl _ _ _ 99 rfl 65 3 lawU Tryd.underlying99 _ (w.heap.size + 1 + 1) M.length _ rfl hmap (by unfold maxLen; omega) _ _ _ rfl rfl (keyU lxx) _ [] (plainElem_int Tryd.underlying3 (wf_i64N (by omega))) ?_; intro w1 hmap1 hgrow1; have own1 := hs.own.kept hgrow1 (.inr (row_map hmap hs.own).symm); have sz1 := hgrow1.size) | (at_builtin; refine wpList_append_keep rfl _ _ 22 rfl (w.heap.size + 1) 65 i0 (.int .u32 0) 4 Tryd.underlying22 hi hz0 hz1 hz2 rfl _ _ _ rfl (own1.alloc _) ⟨w1.heap.size, 0, none⟩ 1 (.int .u32 (x : Int)) rfl (cell_one_new _ _ _) rfl (by unfold maxLen; omega) (by omega) (by simp; omega) ?_; intro v' w2 hown2 hgrow2 hat2 hkeep2))
              have szA : w1.heap.size + 1 ≤ w2.heap.size := by have := hgrow2.size; simpa using this
              have hfull := HF.out
              have rb : Row (w1.alloc (.cells #[.int .u32 (x : Int)] 65)) w.heap.size 62 C := (hs.box.kept hgrow1 (by simp; omega)).alloc _
              have hbig := hs.big
              have nb : ∀ b, b < w.heap.size + 1 → some b ≠ (Value.slice (some ⟨gM, 0, none⟩) M.length cM).ownBlock := fun b hb => ownBlock_ge hs.own hb
              have hxs : wvals M ++ [.int .u32 (x : Int)] = wvals (M ++ [x]) := by simp [wvals]
              have hst2 : CSt w C v' (M ++ [x]) w2 := by
                refine ⟨rb.kept hgrow2 (nb _ (by omega)), ?_, ⟨_, ?_, HD.out⟩, ?_, by omega⟩
                · rw [← hxs, List.length_append]; exact hown2
                · rw [List.length_append]; exact (hmap1.alloc _).kept hgrow2 (row_map (hmap1.alloc (.cells #[.int .u32 (x : Int)] 65)) (own1.alloc (.cells #[.int .u32 (x : Int)] 65)))
                · exact (((hs.bel.grown hgrow1 hs.bel.size (fun b hb => by cases hb; omega)).alloc (by have := hs.bel.size; omega) _).grown hgrow2 (by simp; have := hs.bel.size; omega) (fun b hb => by
                    apply Nat.le_of_not_lt; intro hlt'
                    exact nb b (by omega) hb.symm))
              have hold2 : ∀ i, i < L.length → w2.cell? ⟨g, i, none⟩ = some (.int .u32 (wd L i : Nat)) := fun i hi => by
                have e1 : w1.cell? ⟨g, i, none⟩ = some (.int .u32 (wd L i : Nat)) := by
                  rw [← hold i hi]
                  exact cell_of_block (hgrow1.block g hgl (by simp; omega)) i
                have e2 : (w1.alloc (.cells #[.int .u32 (x : Int)] 65)).cell? ⟨g, i, none⟩ = some (.int .u32 (wd L i : Nat)) := by
                  rw [← e1]; exact World.cell?_alloc_lt w1 _ ⟨g, i, none⟩ (by show g < w1.heap.size; omega)
                by_cases eg : g = gM
                · rw [← e2]; exact hkeep2 g i (by rw [eg]; rfl) (by omega)
                · rw [← e2]; exact cell_of_block (hgrow2.block g (by simp; omega) (show some g ≠ some gM from fun h' => eg (Option.some.inj h'))) i
              exact ⟨⟨k + 1, M ++ [x], by omega, by go_num, hst2, HG.out, by simp; omega, by omega, hold2⟩, by simp [intOf]; omega⟩
        · obtain rfl : k = L.length := by omega
          have HN := hide (hG.next (by omega))
          have HD := hide hG.nodup
          clear hG hmem hnd
          go_wp2
          exact ⟨⟨j + 1, M, by omega, by go_num, hs, HD.out, HN.out, hM⟩, by simp [intOf]; omega⟩
    · obtain rfl : j = n := by omega
      have hown := hst.own
      obtain ⟨a', c', hv, _⟩ := ownsRow_words hown
      subst hv
      have k1 := hst.box.cell (i := 1) (v := .int .i64 (j : Int)) (by rw [hC]; rfl)
      have HM := hide hmem
      clear hmem
      go_wp2
      go_ret2
      exact ⟨hst.bel, .inl ⟨L, a', c', rfl, ownsRow_base hown (by omega), hnd, HM.out, h256⟩⟩
end Go.Proofs.YtdeglbmoiofpoaaDoor

namespace Go.Proofs
open Go.Shelf
def Tryd.sortCon_ren : Go.Shelf.Ren := ⟨fun | 6 => 63 | 15 => 86 | 14 => 85 | 28 => 103 | 29 => 104 | 20 => 95 | 21 => 96 | 22 => 97 | 23 => 98 | 24 => 99 | 25 => 100 | 26 => 101 | 27 => 102 | 46 => 105 | 47 => 106 | 48 => 107 | 49 => 108 | 50 => 109 | 57 => 110 | n => n, fun | 22 => 58 | 24 => 67 | 25 => 97 | 3 => 3 | 39 => 74 | 0 => 0 | 53 => 65 | 55 => 117 | 4 => 4 | 46 => 121 | 45 => 120 | 50 => 111 | 5 => 5 | 9 => 9 | 66 => 128 | 70 => 132 | 76 => 134 | 77 => 106 | n => n, fun | n => n⟩
theorem Tryd.sortCon : Go.Proofs.SlLaysF0.n6 Tryd.prog Tryd.sortCon_ren := {
  mixed := by kernel_rfl
  f6 := ⟨Tryd.f63.name, by decide, Tryd.func63.trans (congrArg some (by kernel_rfl))⟩
  f14 := ⟨Tryd.f85.name, by decide, Tryd.func85.trans (congrArg some (by kernel_rfl))⟩
  f15 := Tryd.func86.trans (congrArg some (by kernel_rfl))
  f20 := ⟨Tryd.f95.name, by decide, Tryd.func95.trans (congrArg some (by kernel_rfl))⟩
  f21 := ⟨Tryd.f96.name, by decide, Tryd.func96.trans (congrArg some (by kernel_rfl))⟩
  f22 := ⟨Tryd.f97.name, by decide, Tryd.func97.trans (congrArg some (by kernel_rfl))⟩
  f23 := ⟨Tryd.f98.name, by decide, Tryd.func98.trans (congrArg some (by kernel_rfl))⟩
  f24 := ⟨Tryd.f99.name, by decide, Tryd.func99.trans (congrArg some (by kernel_rfl))⟩
  f25 := ⟨Tryd.f100.name, by decide, Tryd.func100.trans (congrArg some (by kernel_rfl))⟩
  f26 := ⟨Tryd.f101.name, by decide, Tryd.func101.trans (congrArg some (by kernel_rfl))⟩
  f27 := ⟨Tryd.f102.name, by decide, Tryd.func102.trans (congrArg some (by kernel_rfl))⟩
  f28 := Tryd.func103.trans (congrArg some (by kernel_rfl))
  f29 := Tryd.func104.trans (congrArg some (by kernel_rfl))
  f46 := ⟨Tryd.f105.name, by decide, Tryd.func105.trans (congrArg some (by kernel_rfl))⟩
  f47 := Tryd.func106.trans (congrArg some (by kernel_rfl))
  f48 := Tryd.func107.trans (congrArg some (by kernel_rfl))
  f49 := ⟨Tryd.f108.name, by decide, Tryd.func108.trans (congrArg some (by kernel_rfl))⟩
  f50 := ⟨Tryd.f109.name, by decide, Tryd.func109.trans (congrArg some (by kernel_rfl))⟩
  f57 := ⟨Tryd.f110.name, by decide, Tryd.func110.trans (congrArg some (by kernel_rfl))⟩
  t0 := Tryd.underlying0
  a0 := Tryd.isAgg0
  z0 := Tryd.sizeOf0
  v0 := Tryd.zeroValue0
  t3 := Tryd.underlying3
  a3 := Tryd.isAgg3
  z3 := Tryd.sizeOf3
  v3 := Tryd.zeroValue3
  t4 := Tryd.underlying4
  a4 := Tryd.isAgg4
  z4 := Tryd.sizeOf4
  v4 := Tryd.zeroValue4
  t5 := Tryd.underlying5
  a5 := Tryd.isAgg5
  z5 := Tryd.sizeOf5
  v5 := Tryd.zeroValue5
  t9 := Tryd.underlying9
  a9 := Tryd.isAgg9
  z9 := Tryd.sizeOf9
  v9 := Tryd.zeroValue9
  t22 := Tryd.underlying58
  a22 := Tryd.isAgg58
  z22 := Tryd.sizeOf58
  v22 := Tryd.zeroValue58
  t25 := Tryd.underlying97
  a25 := Tryd.isAgg97
  z25 := Tryd.sizeOf97
  v25 := Tryd.zeroValue97
  t39 := Tryd.underlying74
  a39 := Tryd.isAgg74
  z39 := Tryd.sizeOf74
  v39 := Tryd.zeroValue74
  t45 := Tryd.underlying120
  a45 := Tryd.isAgg120
  z45 := Tryd.sizeOf120
  v45 := Tryd.zeroValue120
  t46 := Tryd.underlying121
  a46 := Tryd.isAgg121
  z46 := Tryd.sizeOf121
  v46 := Tryd.zeroValue121
  t50 := Tryd.underlying111
  a50 := Tryd.isAgg111
  z50 := Tryd.sizeOf111
  v50 := Tryd.zeroValue111
  t53 := Tryd.underlying65
  a53 := Tryd.isAgg65
  z53 := Tryd.sizeOf65
  v53 := Tryd.zeroValue65
  t55 := Tryd.underlying117
  a55 := Tryd.isAgg117
  z55 := Tryd.sizeOf117
  v55 := Tryd.zeroValue117
  t66 := Tryd.underlying128
  a66 := Tryd.isAgg128
  z66 := Tryd.sizeOf128
  v66 := Tryd.zeroValue128
  t70 := Tryd.underlying132
  a70 := Tryd.isAgg132
  z70 := Tryd.sizeOf132
  v70 := Tryd.zeroValue132
  t76 := Tryd.underlying134
  a76 := Tryd.isAgg134
  z76 := Tryd.sizeOf134
  v76 := Tryd.zeroValue134
  t77 := Tryd.underlying106
  a77 := Tryd.isAgg106
  z77 := Tryd.sizeOf106
  v77 := Tryd.zeroValue106 }
end Go.Proofs
