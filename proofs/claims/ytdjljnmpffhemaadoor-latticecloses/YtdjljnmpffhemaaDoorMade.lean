/- The contract of a table's made: all that can be made of elements by joins and meets, by their numbers. -/
import Derived.Test.YtdjljnmpffhemaaDoorSubLow
import Derived.Test.YtdjljnmpffhemaaDoorShelf
import Derived.Test.YtdjljnmpffhemaaDoorLatErr
import Derived.Deep.RegionWith
import Derived.Sort.OwnSortedInts
namespace Go.Proofs.YtdjljnmpffhemaaDoor
open Go.RowKit Go.Shelf

/-- the table and the list, as they lie in a round of made -/
structure MSt (w : World) (T : List Value) (av : Option Addr) (cv : Nat) (l : List Nat) (W : World) : Prop where
  tbl : Row W w.heap.size 64 T
  box : Row W (w.heap.size + 1) 27 [.slice av l.length cv]
  own : W.ownsRow (w.heap.size + 1 + 1) 3 1 (.slice av l.length cv) l.length (ivals l)
  bel : Below w.heap.size w W
theorem MSt.drew {w : World} {T : List Value} {av : Option Addr} {cv : Nat} {l : List Nat} {W : World} (h : MSt w T av cv l W) : MSt w T av cv l W.drew := ⟨h.tbl, h.box, h.own, h.bel.drew⟩
theorem MSt.below {w : World} {T : List Value} {av : Option Addr} {cv : Nat} {l : List Nat} {W W' : World} (h : MSt w T av cv l W) (hb : Below W.heap.size W W') : MSt w T av cv l W' :=
  ⟨row_below h.tbl hb h.tbl.lt, row_below h.box hb h.box.lt, ownsRow_below h.own hb, h.bel.trans (hb.mono h.bel.size)⟩
theorem MSt.added {w : World} {T : List Value} {av av' : Option Addr} {cv cv' : Nat} {l l' : List Nat} {W W' : World} (h : MSt w T av cv l W) {v : Value} {k : Nat} (hb : Added (w.heap.size + 1) v k W W') (h1 : Row W' (w.heap.size + 1) 27 [.slice av' l'.length cv']) (h2 : W'.ownsRow (w.heap.size + 1 + 1) 3 1 (.slice av' l'.length cv') l'.length (ivals l')) : MSt w T av' cv' l' W' :=
  ⟨row_below h.tbl hb.bel (by omega), h1, h2, h.bel.trans (hb.bel.mono (by omega))⟩
theorem MSt.elem {w : World} {T : List Value} {av : Option Addr} {cv : Nat} {l : List Nat} {W : World} (h : MSt w T av cv l W) {k : Nat} (hk : k < l.length) : ∃ g, av = some ⟨g, 0, none⟩ ∧ w.heap.size + 1 + 1 ≤ g ∧ g < W.heap.size ∧ l.length ≤ cv ∧ cv ≤ maxLen ∧ ∀ i, i < l.length → W.cell? ⟨g, i, none⟩ = some (.int .i64 (wd l i : Nat)) := by
  rcases h.own.2 with ⟨_, h0⟩ | ⟨g, cap, cur, h1, h2, h3, h4, h5, _, _⟩
  · omega
  · cases h1
    obtain ⟨b, off, e, hb, hc⟩ := (ownsRow_ints h.own).at hk
    cases e
    exact ⟨g, rfl, h2, (Array.getElem?_eq_some_iff.1 h3).1, h4, h5, fun i hi => by have := hc i hi; rw [Nat.zero_add] at this; exact this⟩
/-- the numbers sorted by the library are the list that rises -/
theorem sort_nat (l : List Nat) (hn : l.Nodup) : ∃ s : List Nat, ((l.map fun x : Nat => (x : Int)).mergeSort fun x y => decide (x ≤ y)) = s.map (fun x : Nat => (x : Int)) ∧ s.length = l.length ∧ s.Pairwise (· < ·) ∧ ∀ x, x ∈ s ↔ x ∈ l := by
  obtain ⟨ts, hts⟩ : ∃ ts, ts = (l.map fun x : Nat => (x : Int)).mergeSort fun x y => decide (x ≤ y) := ⟨_, rfl⟩
  have hp : ts.Perm (l.map fun x : Nat => (x : Int)) := by rw [hts]; exact List.mergeSort_perm _ _
  have hs : ts.Pairwise (fun a b => decide (a ≤ b) = true) := by
    rw [hts]
    exact List.pairwise_mergeSort (fun a b c h1 h2 => by simp at *; omega) (fun a b => by simp; omega) _
  have hnn : ∀ x ∈ ts, 0 ≤ x := fun x hx => by
    have := hp.mem_iff.1 hx
    rw [List.mem_map] at this
    obtain ⟨y, _, rfl⟩ := this
    omega
  have hback : (ts.map Int.toNat).map (fun x : Nat => (x : Int)) = ts := by
    rw [List.map_map]
    have : ∀ x ∈ ts, ((fun x : Nat => (x : Int)) ∘ Int.toNat) x = id x := fun x hx => by have := hnn x hx; simp; omega
    rw [List.map_congr_left this]; simp
  have hmem : ∀ x : Nat, x ∈ ts.map Int.toNat ↔ x ∈ l := fun x => by
    rw [List.mem_map]
    constructor
    · rintro ⟨y, hy, rfl⟩
      have := hp.mem_iff.1 hy
      rw [List.mem_map] at this
      obtain ⟨z, hz, rfl⟩ := this
      simpa using hz
    · intro hx
      exact ⟨(x : Int), hp.mem_iff.2 (List.mem_map.2 ⟨x, hx, rfl⟩), by simp⟩
  have hnd : ts.Nodup := hp.nodup_iff.2 (by
    rw [List.nodup_iff_pairwise_ne, List.pairwise_map]
    exact (List.nodup_iff_pairwise_ne.1 hn).imp fun h e => h (by omega))
  refine ⟨ts.map Int.toNat, by rw [← hts, hback], by rw [List.length_map, hp.length_eq, List.length_map], ?_, hmem⟩
  rw [List.pairwise_map]
  have h2 := List.nodup_iff_pairwise_ne.1 hnd
  have h3 := hs.and h2
  refine h3.imp_of_mem fun ha hb h => ?_
  have h1 := of_decide_eq_true h.1
  have := hnn _ ha
  have := hnn _ hb
  have := h.2
  omega
/-- the first k numbers lie in block g still -/
structure Old (B g k : Nat) (l : List Nat) (W : World) : Prop where
  ne : g ≠ B
  lt : g < W.heap.size
  at_ : ∀ i, i < k → W.cell? ⟨g, i, none⟩ = some (.int .i64 (wd l i : Nat))
theorem Old.below {B g k : Nat} {l : List Nat} {W W' : World} (h : Old B g k l W) (hb : Below W.heap.size W W') : Old B g k l W' :=
  ⟨h.ne, Nat.lt_of_lt_of_le h.lt hb.size, fun i hi => (hb.cell (p := ⟨g, i, none⟩) h.lt).trans (h.at_ i hi)⟩
theorem Old.drew {B g k : Nat} {l : List Nat} {W : World} (h : Old B g k l W) : Old B g k l W.drew := ⟨h.ne, h.lt, fun i hi => h.at_ i hi⟩
theorem Old.added {B g k x : Nat} {l : List Nat} {v : Value} {W W' : World} (h : Old B g k l W) (hk : k ≤ l.length) (hb : Added B v l.length W W') : Old B g k (addL l x) W' := by
  obtain ⟨t, ht⟩ := addL_pre l x
  refine ⟨h.ne, Nat.lt_of_lt_of_le h.lt hb.size, fun i hi => ?_⟩
  rw [hb.old g i h.ne h.lt (.inl (by omega)), h.at_ i hi, ht, wd_append_left (by omega)]
theorem addL_len (l : List Nat) (x : Nat) : l.length ≤ (addL l x).length := by
  obtain ⟨t, ht⟩ := addL_pre l x
  rw [ht, List.length_append]; omega
theorem wd_addL {l : List Nat} {x i : Nat} (h : i < l.length) : wd (addL l x) i = wd l i := by
  obtain ⟨t, ht⟩ := addL_pre l x
  rw [ht]; exact wd_append_left h
theorem addL_mem (l : List Nat) (x : Nat) : x ∈ addL l x := mem_addL.2 (.inr rfl)

set_option maxRecDepth 100000 in
set_option maxHeartbeats 4000000 in
theorem made_any (n : Nat) (ca : Option Addr) (cc : Nat) (aj : Option Addr) (cj : Nat) (am : Option Addr) (cm : Nat) (bt tp : Int) (js ms : List Nat) (ag : Option Addr) (cg : Nat) (gs : List Nat) (n₀ : Nat) (hn : n ≤ 16) (hlj : js.length = n * n) (hlm : ms.length = n * n) {le : Nat → Nat → Prop} {b0 t0 : Nat} (L : Lat n le (at2 js n) (at2 ms n) b0 t0)
    (hgs : ∀ x ∈ gs, x < n) (hgl : gs.length ≤ 16) (w : World) (hwj : IsInts n₀ w aj js) (hwm : IsInts n₀ w am ms) (hwg : IsInts n₀ w ag gs) (hn₀ : n₀ ≤ w.heap.size) :
    Calls Tryd.prog 32 #[.agg #[.int .i64 n, .slice ca n cc, .slice aj (n * n) cj, .slice am (n * n) cm, .int .i64 bt, .int .i64 tp], .slice ag gs.length cg] w fun e w' => ∃ av cv s, e = .returned (.slice av (List.length s) cv) ∧ Below w.heap.size w w' ∧ w'.ownsRow w.heap.size 3 1 (.slice av (List.length s) cv) (List.length s) (ivals s) ∧ s.Pairwise (· < ·) ∧ ∀ x, x ∈ s ↔ Gen (at2 js n) (at2 ms n) (fun x => x ∈ gs) x := by
  obtain ⟨V, hV⟩ : ∃ V, V = (w.alloc (.cells #[.int .i64 n, .slice ca n cc, .slice aj (n * n) cj, .slice am (n * n) cm, .int .i64 bt, .int .i64 tp] 64)).alloc (.cells #[.slice none 0 0] 27) := ⟨_, rfl⟩
  obtain ⟨rT, rB, hbV, hsV⟩ := rows_two w 64 27 [.int .i64 n, .slice ca n cc, .slice aj (n * n) cj, .slice am (n * n) cm, .int .i64 bt, .int .i64 tp] [.slice none 0 0] hV.symm
  have hst0 : MSt w [.int .i64 n, .slice ca n cc, .slice aj (n * n) cj, .slice am (n * n) cm, .int .i64 bt, .int .i64 tp] none 0 [] V := ⟨rT, rB, World.ownsRow_nil .., hbV⟩
  have hjl : ∀ {x y}, x < n → y < n → at2 js n x y < n := fun hx hy => L.jlt hx hy
  have hml : ∀ {x y}, x < n → y < n → at2 ms n x y < n := fun hx hy => L.mlt hx hy
  have HL := hide L
  clear L rT rB
  go_enter Tryd.func32, Tryd.ntmps32
  go_wp2
  rw [← hV]
  clear hV
  go_loopw [15] (fun i wr => ∃ (k : Nat) (av : Option Addr) (cv : Nat) (l : List Nat), k ≤ gs.length ∧ i = .int .i64 k ∧ MSt w [.int .i64 n, .slice ca n cc, .slice aj (n * n) cj, .slice am (n * n) cm, .int .i64 bt, .int .i64 tp] av cv l wr ∧ l.Nodup ∧ (∀ x ∈ l, x ∈ gs) ∧ (∀ j, j < k → wd gs j ∈ l)) (fun i _ => gs.length - (intOf i).toNat)
  case atStart => exact ⟨0, none, 0, [], Nat.zero_le _, rfl, hst0, by simp, by simp, fun j hj => by omega⟩
  case round =>
    clear hst0 hbV hsV
    obtain ⟨k, av, cv, l, hk, rfl, hst, hnd, hsub, hhas⟩ := hrel
    have hll : l.length ≤ 16 := Nat.le_trans (nodup_lt hnd fun x hx => hgs x (hsub x hx)) hn
    by_cases hlt : k < gs.length
    · obtain ⟨b, off, rfl, hb, hc⟩ := (hwg.below (hst.bel.mono hn₀)).at hlt
      have hck := hc k hlt
      have hgk := wd_memN hlt
      generalize hx : wd gs k = x at *
      have HX := hide hx
      have had := add_any (w.heap.size + 1) x av cv l hll wr hst.box hst.own
      clear hc hx
      go_wp2_with (go_at_call 53; refine had.mono ?_; rintro e w3 ⟨rfl, av', cv', box', own', ad⟩)
      refine ⟨⟨k + 1, av', cv', addL l x, by omega, by go_num, hst.added ad box' own', nodup_addL hnd x, fun y hy => ?_, fun j hj => ?_⟩, by simp [intOf]; omega⟩
      · rcases mem_addL.1 hy with h | rfl
        · exact hsub y h
        · exact hgk
      · by_cases e : j = k
        · subst e; rw [HX.out]; exact addL_mem l x
        · exact mem_addL.2 (.inl (hhas j (by omega)))
    · obtain rfl : k = gs.length := by omega
      have hM : MadeTo (at2 js n) (at2 ms n) n (fun x => x ∈ gs) l 0 0 := ⟨hnd, fun x hx => hgs x (hsub x hx), fun x hx => by
        obtain ⟨i, hi, e⟩ := mem_wdN hx
        rw [← e]; exact hhas i hi, fun x hx => Gen.base (hsub x hx), fun p q h1 h2 => by omega, fun p hp => by omega⟩
      clear hnd hsub hhas hll
      go_wp2
      go_loopw [9] (fun i wr => ∃ (k : Nat) (av : Option Addr) (cv : Nat) (l : List Nat), k ≤ l.length ∧ i = .int .i64 k ∧ MSt w [.int .i64 n, .slice ca n cc, .slice aj (n * n) cj, .slice am (n * n) cm, .int .i64 bt, .int .i64 tp] av cv l wr ∧ MadeTo (at2 js n) (at2 ms n) n (fun x => x ∈ gs) l k 0) (fun i _ => n - (intOf i).toNat)
      case atStart => exact ⟨0, av, cv, l, Nat.zero_le _, rfl, hst, hM⟩
      case round =>
        clear hst hM
        obtain ⟨k, av, cv, l, hk, rfl, hst, hM⟩ := hrel
        have hln := hM.len
        have c0 := hst.box.cell (i := 0) rfl
        by_cases hlt : k < l.length
        · obtain ⟨g, rfl, hg1, hg2, hcap, hcm, hcell⟩ := hst.elem hlt
          have hold : Old (w.heap.size + 1) g k l wr := ⟨by omega, hg2, fun i hi => hcell i (by omega)⟩
          unfold maxLen at hcm
          go_wp2
          go_loopw [33] (fun i wr => ∃ (p : Nat) (av : Option Addr) (cv : Nat) (l : List Nat), p ≤ k ∧ i = .int .i64 p ∧ k < l.length ∧ MSt w [.int .i64 n, .slice ca n cc, .slice aj (n * n) cj, .slice am (n * n) cm, .int .i64 bt, .int .i64 tp] av cv l wr ∧ MadeTo (at2 js n) (at2 ms n) n (fun x => x ∈ gs) l k p ∧ Old (w.heap.size + 1) g k l wr) (fun i _ => k - (intOf i).toNat)
          case atStart => exact ⟨0, _, cv, l, Nat.zero_le _, rfl, hlt, hst, hM, hold⟩
          case round =>
            clear hst hM hold hln c0 hlt hcell hg1 hg2 hcap hcm hk
            obtain ⟨p, av, cv, l, hp, rfl, hlt, hst, hM, hold⟩ := hrel
            have hln := hM.len
            by_cases hpk : p < k
            · obtain ⟨g2, rfl, hg1, hg2, hcap, hcm, hcell⟩ := hst.elem hlt
              have hop := hold.at_ p hpk
              have hck := hcell k hlt
              have hx := hM.lt _ (wd_memN (show p < l.length by omega))
              have hy := hM.lt _ (wd_memN hlt)
              have hgx := hM.gen _ (wd_memN (show p < l.length by omega))
              have hgy := hM.gen _ (wd_memN hlt)
              generalize hex : wd l p = x at *
              generalize hey : wd l k = y at *
              have HX := hide hex
              have HY := hide hey
              have t0 := hst.tbl.cell (i := 0) rfl
              have t1 := hst.tbl.cell (i := 1) rfl
              have t2 := hst.tbl.cell (i := 2) rfl
              have t3 := hst.tbl.cell (i := 3) rfl
              have t4 := hst.tbl.cell (i := 4) rfl
              have t5 := hst.tbl.cell (i := 5) rfl
              have c0 := hst.box.cell (i := 0) rfl
              have lt1 := hst.tbl.lt
              have lt2 := hst.box.lt
              have lt3 := hold.lt
              have hjn := tjoin_any n ca cc aj cj am cm bt tp js x y n₀ hn hx hy hlj wr.drew (show IsInts n₀ wr.drew aj js from hwj.below (hst.bel.drew.mono hn₀)) (show n₀ ≤ wr.heap.size by have := hst.bel.size; omega)
              have hr1 := hjl hx hy
              have hr2 := hml hx hy
              have hq1 := (Gen.two hgx hgy).1
              have hq2 := (Gen.two hgx hgy).2
              generalize he1 : at2 js n x y = r1 at *
              generalize he2 : at2 ms n x y = r2 at *
              have HR1 := hide he1
              have HR2 := hide he2
              have hmx : Tryd.prog.follows .mixedOrders = true := by kernel_rfl
              have hki : (k : Int) < (l.length : Int) := by omega
              unfold maxLen at hcm
              clear hcell hex hey he1 he2 hgx hgy
              go_wp2
              first | go_region_with (first
                | (go_at_call 55; refine hjn.mono ?_; rintro e w3 ⟨rfl, hb3⟩; have st3 := hst.drew.below hb3; have had := add_any (w.heap.size + 1) r1 _ cv l (by omega) w3 st3.box st3.own)
                | (go_at_call 53; refine had.mono ?_; rintro e w4 ⟨rfl, av4, cv4, box4, own4, ad4⟩)) | fail
              all_goals
                have st4 := st3.added ad4 box4 own4
                have old4 := (hold.drew.below hb3).added (x := r1) (by omega) ad4
                have hM4 := hM.grow hlt (by omega) hr1 hq1
                have hlt4 : k < (addL l r1).length := by have := addL_len l r1; omega
                have hwp : wd (addL l r1) p = x := (wd_addL (by omega)).trans HX.out
                have hwk : wd (addL l r1) k = y := (wd_addL hlt).trans HY.out
                have hm1 := addL_mem l r1
                clear t0 t1 t2 t3 t4 t5 c0 lt1 lt2 lt3 hop hck had box4 own4 ad4 st3 hb3 hst hM hold hki hcm hcap hg1 hg2 hln hlt HX HY hjn
                generalize addL l r1 = l4 at *
                have hln4 := hM4.len
                obtain ⟨g4, rfl, hg14, hg24, hcap4, hcm4, hcell4⟩ := st4.elem hlt4
                have hck4 := hcell4 k hlt4
                rw [hwk] at hck4
                have HWP := hide hwp
                have HWK := hide hwk
                have t0 := st4.tbl.cell (i := 0) rfl
                have t1 := st4.tbl.cell (i := 1) rfl
                have t2 := st4.tbl.cell (i := 2) rfl
                have t3 := st4.tbl.cell (i := 3) rfl
                have t4 := st4.tbl.cell (i := 4) rfl
                have t5 := st4.tbl.cell (i := 5) rfl
                have c0 := st4.box.cell (i := 0) rfl
                have lt1 := st4.tbl.lt
                have lt2 := st4.box.lt
                have hmt := tmeet_any n ca cc aj cj am cm bt tp ms x y n₀ hn hx hy hlm w4.drew (show IsInts n₀ w4.drew am ms from hwm.below (st4.bel.drew.mono hn₀)) (show n₀ ≤ w4.heap.size by have := st4.bel.size; omega)
                rw [HR2.out] at hmt
                have hki : (k : Int) < (l4.length : Int) := by omega
                unfold maxLen at hcm4
                clear hcell4 hwp hwk
                go_wp2
                first | go_region_with (first
                  | (go_at_call 56; refine hmt.mono ?_; rintro e w5 ⟨rfl, hb5⟩; have st5 := st4.drew.below hb5; have had5 := add_any (w.heap.size + 1) r2 _ cv4 l4 (by omega) w5 st5.box st5.own)
                  | (go_at_call 53; refine had5.mono ?_; rintro e w6 ⟨rfl, av6, cv6, box6, own6, ad6⟩)) | fail
                all_goals
                  have st6 := st5.added ad6 box6 own6
                  have old6 := (old4.drew.below hb5).added (x := r2) (by omega) ad6
                  have hM6 := hM4.grow hlt4 (by omega) hr2 hq2
                  have hlt6 : k < (addL l4 r2).length := by have := addL_len l4 r2; omega
                  have hwp6 : wd (addL l4 r2) p = x := (wd_addL (by omega)).trans HWP.out
                  have hwk6 : wd (addL l4 r2) k = y := (wd_addL hlt4).trans HWK.out
                  have hM7 := hM6.step (by rw [hwp6, hwk6, HR1.out]; exact mem_addL.2 (.inl hm1)) (by rw [hwp6, hwk6, HR2.out]; exact addL_mem l4 r2)
                  go_wp2
                  exact ⟨⟨p + 1, av6, cv6, addL l4 r2, by omega, by go_num, hlt6, st6, hM7, old6⟩, by simp [intOf]; omega⟩
            · obtain rfl : p = k := by omega
              go_wp2
              exact ⟨⟨p + 1, av, cv, l, by omega, by go_num, hst, hM.next⟩, by simp [intOf]; omega⟩
        · obtain rfl : k = l.length := by omega
          have hall := hM.all HL.out
          obtain ⟨s, hs1, hs2, hs3, hs4⟩ := sort_nat l hM.nodup
          have hlt2 := hst.box.lt
          rcases hst.own.2 with ⟨e0, hl0⟩ | ⟨g, cap, cur, e0, hg1, hg2, hcap, hcm, hcs, htk⟩
          · obtain ⟨rfl, _, rfl⟩ : av = none ∧ l.length = 0 ∧ cv = 0 := by simpa using e0
            have hsn := Tryd.slices_Sort_int_none none 0 wr
            rw [hl0] at c0
            have hse : s = [] := List.eq_nil_of_length_eq_zero (by omega)
            have HSE := hide hse
            have Hl0 := hide hl0
            clear hse hl0 e0 hs2
            go_wp2_with (go_at_call 57; refine hsn.mono ?_; rintro e w3 ⟨rfl, rfl⟩)
            go_ret
            have hse := HSE.out
            subst hse
            exact ⟨none, 0, [], rfl, hst.bel, World.ownsRow_nil .., by simp, fun x => by rw [← hall x, ← hs4 x]⟩
          · obtain ⟨rfl, rfl⟩ : av = some ⟨g, 0, none⟩ ∧ cv = cap := by simpa using e0
            have hgl := (Array.getElem?_eq_some_iff.1 hg2).1
            have hzl : (l.map fun x : Nat => (x : Int)).length = l.length := by simp
            have hH := holds_of_blockI (ss := l.map fun x : Nat => (x : Int)) hg2 (by rw [hzl, List.map_map]; rw [Nat.mul_one] at htk; exact htk)
            have hsort := Tryd.slices_Sort_int g 0 cv (l.map fun x : Nat => (x : Int)) wr hH hgl (by rw [hzl]; omega)
            have hown3 := fun q os => ownsRow_sortedI (w := wr) (base := w.heap.size + 1 + 1) (g := g) (cap := cv) (n := q) (e := 3) (os := os) (cur := cur) (ss := l.map fun x : Nat => (x : Int)) (ts := s.map fun x : Nat => (x : Int)) (by simp [hs2]) hg1 hg2 (by rw [hzl]; exact hcap) hcm hcs
            rw [hzl] at hsort hown3
            rw [hs1] at hsort
            have hiv : (s.map fun x : Nat => (x : Int)).map (Value.int .i64) = ivals s := by rw [List.map_map]; rfl
            rw [hiv] at hown3
            have hpost : Calls Tryd.prog 57 #[.slice (some ⟨g, 0, none⟩) l.length cv] wr fun e w' => e = .returned (.tuple #[]) ∧ wr.grownBy w' (some g) ∧ w'.ownsRow (w.heap.size + 1 + 1) 3 1 (.slice (some ⟨g, 0, none⟩) l.length cv) l.length (ivals s) := hsort.mono (by
              rintro e w' ⟨rfl, q, os, rfl⟩
              exact ⟨rfl, grownBy_sortedI _, hown3 q os⟩)
            have HS2 := hide hs2
            clear hsort hown3 hH hs1 hzl hiv hs2 htk hcs hg2 e0
            go_wp2_with (go_at_call 57; refine hpost.mono ?_; rintro e w3 ⟨rfl, hgr, own3⟩; have box3 := hst.box.kept hgr (fun e => by cases e; omega); have d0 := box3.cell (i := 0) rfl)
            go_ret
            refine ⟨some ⟨g, 0, none⟩, cv, s, by rw [HS2.out]; rfl, hst.bel.grown hgr hst.bel.size (fun j ej => by cases ej; omega), ?_, hs3, fun x => by rw [← hall x, ← hs4 x]⟩
            rw [HS2.out]
            exact ownsRow_base own3 (by omega)
end Go.Proofs.YtdjljnmpffhemaaDoor
