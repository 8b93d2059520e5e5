/- The contract of the document's LatticeKind. -/
import Derived.Test.YtobjgfjikmgdeaaDoorRefOrAnd
import Derived.Test.YtobjgfjikmgdeaaDoorKindPlain
import Derived.Laws.StructEq
namespace Go.Proofs.YtobjgfjikmgdeaaDoor
open Go.RowKit Go.Shelf

/-- what lies in the boxes of LatticeKind, in a round -/
structure KBox (w : World) (a : Option Addr) (cap : Nat) (us : List Nat) (aj : Option Addr) (cj : Nat) (am : Option Addr) (cm : Nat) (bt tp : Nat) (cb : Bool) (s : KSt) (W : World) : Prop where
  o : Row W w.heap.size 24 [.int .i64 us.length, .slice a us.length cap]
  l : Row W (w.heap.size + 1) 32 [.slice aj (us.length * us.length) cj, .slice am (us.length * us.length) cm, .int .i64 (bt : Nat), .int .i64 (tp : Nat)]
  z : Row W (w.heap.size + 1 + 1) 26 [.bool false, .bool false, .bool false, .int .i64 0, .int .i64 0, .int .i64 0]
  k : Row W (w.heap.size + 1 + 1 + 1) 26 (kvals cb s)
  b : Below w.heap.size w W
theorem KBox.below {w : World} {a : Option Addr} {cap : Nat} {us : List Nat} {aj : Option Addr} {cj : Nat} {am : Option Addr} {cm : Nat} {bt tp : Nat} {cb : Bool} {s : KSt} {W W' : World} (h : KBox w a cap us aj cj am cm bt tp cb s W) (hb : Below W.heap.size W W') : KBox w a cap us aj cj am cm bt tp cb s W' :=
  ⟨row_below h.o hb h.o.lt, row_below h.l hb h.l.lt, row_below h.z hb h.z.lt, row_below h.k hb h.k.lt, h.b.trans (hb.mono h.b.size)⟩
theorem KBox.set {w : World} {a : Option Addr} {cap : Nat} {us : List Nat} {aj : Option Addr} {cj : Nat} {am : Option Addr} {cm : Nat} {bt tp : Nat} {cb cb' : Bool} {s s' : KSt} {W : World} (h : KBox w a cap us aj cj am cm bt tp cb s W) (i : Nat) (v : Value) (hv : (kvals cb s).set i v = kvals cb' s') : KBox w a cap us aj cj am cm bt tp cb' s' (W.setCell ⟨w.heap.size + 1 + 1 + 1, i, none⟩ v) :=
  ⟨h.o.other (by omega) _ _, h.l.other (by omega) _ _, h.z.other (by omega) _ _, by rw [← hv]; exact h.k.set i v, h.b.setCell (p := ⟨w.heap.size + 1 + 1 + 1, i, none⟩) (by simp; omega) _⟩
theorem anyTo_succ (js ms : List Nat) (n bt tp x k : Nat) : anyTo js ms n bt tp x (k + 1) = (anyTo js ms n bt tp x k || compB js ms n bt tp x k) := by unfold anyTo; rw [List.range_succ, List.any_append]; simp
theorem complTo_succ (js ms : List Nat) (n bt tp k : Nat) : complTo js ms n bt tp (k + 1) = (complTo js ms n bt tp k && anyTo js ms n bt tp k n) := by unfold complTo; rw [List.range_succ, List.all_append]; simp
/-- the three that were asked: x rounds, y rounds within, z rounds within these -/
def upto3 (n x y z : Nat) : List (Nat × Nat × Nat) := triA n x ++ rowB n x y ++ rowC x y z
theorem upto3_z (js ms : List Nat) (n x y z : Nat) : kindOf js ms n (upto3 n x y (z + 1)) = (kindOf js ms n (upto3 n x y z)).step js ms n (x, y, z) := by
  unfold upto3; rw [rowC_succ, ← List.append_assoc, kindOf_snoc]
theorem upto3_y (n x y : Nat) : upto3 n x (y + 1) 0 = upto3 n x y n := by unfold upto3; rw [rowB_succ]; simp [rowC, List.append_assoc]
theorem upto3_x (n x : Nat) : upto3 n (x + 1) 0 0 = upto3 n x n 0 := by unfold upto3; rw [triA_succ]; simp [rowC, rowB]
theorem upto3_end (n : Nat) : upto3 n n 0 0 = triA n n := by unfold upto3; simp [rowC, rowB]

theorem ks_same_t {js ms : List Nat} {n d m sa sb sc x y z} (h1 : disB js ms n x y z = true) (h2 : modB js ms n x y z = true) : KSt.step js ms n ⟨d, m, sa, sb, sc⟩ (x, y, z) = ⟨d, m, sa, sb, sc⟩ := by unfold KSt.step; simp [h1, h2]
theorem ks_same_f {js ms : List Nat} {n d m sa sb sc x y z} (h1 : disB js ms n x y z = true) (h2 : modB js ms n x y z = false) : KSt.step js ms n ⟨d, m, sa, sb, sc⟩ (x, y, z) = ⟨d, false, sa, sb, sc⟩ := by unfold KSt.step; simp [h1, h2]
theorem ks_no_t {js ms : List Nat} {n m sa sb sc x y z} (_ : disB js ms n x y z = false) (h2 : modB js ms n x y z = true) : KSt.step js ms n ⟨false, m, sa, sb, sc⟩ (x, y, z) = ⟨false, m, sa, sb, sc⟩ := by unfold KSt.step; simp [h2]
theorem ks_no_f {js ms : List Nat} {n m sa sb sc x y z} (_ : disB js ms n x y z = false) (h2 : modB js ms n x y z = false) : KSt.step js ms n ⟨false, m, sa, sb, sc⟩ (x, y, z) = ⟨false, false, sa, sb, sc⟩ := by unfold KSt.step; simp [h2]
theorem ks_new_t {js ms : List Nat} {n m sa sb sc x y z} (h1 : disB js ms n x y z = false) (h2 : modB js ms n x y z = true) : KSt.step js ms n ⟨true, m, sa, sb, sc⟩ (x, y, z) = ⟨false, m, x, y, z⟩ := by unfold KSt.step; simp [h1, h2]
theorem ks_new_f {js ms : List Nat} {n m sa sb sc x y z} (h1 : disB js ms n x y z = false) (h2 : modB js ms n x y z = false) : KSt.step js ms n ⟨true, m, sa, sb, sc⟩ (x, y, z) = ⟨false, false, x, y, z⟩ := by unfold KSt.step; simp [h1, h2]

set_option maxRecDepth 100000 in
set_option maxHeartbeats 8000000 in
theorem RefKind_any (a : Option Addr) (cap : Nat) (us : List Nat) (aj : Option Addr) (cj : Nat) (am : Option Addr) (cm : Nat) (bt tp : Nat) (js ms : List Nat) (n₀ : Nat) (hf : Fit us) (hl16 : us.length ≤ 16) (hlj : js.length = us.length * us.length) (hlm : ms.length = us.length * us.length)
    (hj : ∀ {x y}, x < us.length → y < us.length → at2 js us.length x y < us.length) (hm : ∀ {x y}, x < us.length → y < us.length → at2 ms us.length x y < us.length) (hle : ∀ x z, x < us.length → z < us.length → hasB (wd us x) z = decide (at2 js us.length x z = z))
    (w : World) (hw : IsWords n₀ w a us) (h1 : IsInts n₀ w aj js) (h2 : IsInts n₀ w am ms) (hn₀ : n₀ ≤ w.heap.size) :
    Calls Tryd.prog 11 #[.agg #[.int .i64 us.length, .slice a us.length cap], .agg #[.slice aj (us.length * us.length) cj, .slice am (us.length * us.length) cm, .int .i64 (bt : Nat), .int .i64 (tp : Nat)]] w fun e w' => e = .returned (.agg (kvals (complTo js ms us.length bt tp us.length) (kindOf js ms us.length (triA us.length us.length))).toArray) ∧ Below w.heap.size w w' := by
  have cor := rOr_re us.length aj cj am cm (bt : Nat) (tp : Nat) js n₀ w hl16 hlj h1 hn₀
  have cand := rAnd_re us.length aj cj am cm (bt : Nat) (tp : Nat) ms n₀ w hl16 hlm h2 hn₀
  have cbel := rBelow_re us.length a cap us n₀ w hf hl16 hw hn₀
  obtain ⟨V, hV⟩ : ∃ V, V = (((w.alloc (.cells #[.int .i64 us.length, .slice a us.length cap] 24)).alloc (.cells #[.slice aj (us.length * us.length) cj, .slice am (us.length * us.length) cm, .int .i64 (bt : Nat), .int .i64 (tp : Nat)] 32)).alloc (.cells #[.bool false, .bool false, .bool false, .int .i64 0, .int .i64 0, .int .i64 0] 26)).alloc (.cells #[.bool true, .bool true, .bool true, .int .i64 0, .int .i64 0, .int .i64 0] 26) := ⟨_, rfl⟩
  have hK0 : KBox w a cap us aj cj am cm bt tp (complTo js ms us.length bt tp 0) (kindOf js ms us.length (upto3 us.length 0 0 0)) V := by
    have r0 := Row.new w 24 [.int .i64 us.length, .slice a us.length cap]
    have r1 := Row.new (w.alloc (.cells #[.int .i64 us.length, .slice a us.length cap] 24)) 32 [.slice aj (us.length * us.length) cj, .slice am (us.length * us.length) cm, .int .i64 (bt : Nat), .int .i64 (tp : Nat)]
    have r2 := Row.new ((w.alloc (.cells #[.int .i64 us.length, .slice a us.length cap] 24)).alloc (.cells #[.slice aj (us.length * us.length) cj, .slice am (us.length * us.length) cm, .int .i64 (bt : Nat), .int .i64 (tp : Nat)] 32)) 26 [.bool false, .bool false, .bool false, .int .i64 0, .int .i64 0, .int .i64 0]
    have r3 := Row.new (((w.alloc (.cells #[.int .i64 us.length, .slice a us.length cap] 24)).alloc (.cells #[.slice aj (us.length * us.length) cj, .slice am (us.length * us.length) cm, .int .i64 (bt : Nat), .int .i64 (tp : Nat)] 32)).alloc (.cells #[.bool false, .bool false, .bool false, .int .i64 0, .int .i64 0, .int .i64 0] 26)) 26 [.bool true, .bool true, .bool true, .int .i64 0, .int .i64 0, .int .i64 0]
    simp only [World.size_alloc] at r1 r2 r3
    rw [hV]
    exact ⟨((r0.alloc _).alloc _).alloc _, (r1.alloc _).alloc _, r2.alloc _, r3, ((((Below.refl _ _).alloc (Nat.le_refl _) _).alloc (by simp) _).alloc (by simp; omega) _).alloc (by simp; omega) _⟩
  go_enter Tryd.func11, Tryd.ntmps11
  go_wp2
  rw [← hV]
  clear hV
  go_loopw [7] (fun i wr => ∃ x : Nat, x ≤ us.length ∧ i = .int .i64 x ∧ KBox w a cap us aj cj am cm bt tp (complTo js ms us.length bt tp x) (kindOf js ms us.length (upto3 us.length x 0 0)) wr) (fun i _ => us.length - (intOf i).toNat)
  case atStart => exact ⟨0, Nat.zero_le _, rfl, hK0⟩
  case round =>
    clear hK0
    obtain ⟨x, hx', rfl, hK⟩ := hrel
    by_cases hx : x < us.length
    · have HC := hide (complTo_succ js ms us.length bt tp x)
      generalize complTo js ms us.length bt tp x = cb at *
      go_wp2
      go_loopw [8, 9] (fun h i wr => ∃ y : Nat, y ≤ us.length ∧ i = .int .i64 y ∧ h = .bool (anyTo js ms us.length bt tp x y) ∧ KBox w a cap us aj cj am cm bt tp cb (kindOf js ms us.length (upto3 us.length x y 0)) wr) (fun _ i _ => us.length - (intOf i).toNat)
      case atStart => exact ⟨0, Nat.zero_le _, rfl, rfl, hK⟩
      case round =>
        clear hK
        obtain ⟨y, hy', rfl, rfl, hK⟩ := hrel
        by_cases hy : y < us.length
        · have HA := hide (anyTo_succ js ms us.length bt tp x y)
          have main : ∀ (W : World) (hK : KBox w a cap us aj cj am cm bt tp cb (kindOf js ms us.length (upto3 us.length x y 0)) W), True := fun _ _ => trivial
          clear main
          have e0 := cell_regrown (hK.l.cell (i := 0) rfl)
          have e1 := cell_regrown (hK.l.cell (i := 1) rfl)
          have e2 := cell_regrown (hK.l.cell (i := 2) rfl)
          have e3 := cell_regrown (hK.l.cell (i := 3) rfl)
          obtain ⟨p, ep⟩ : ∃ r, at2 js us.length x y = r := ⟨_, rfl⟩
          obtain ⟨q, eq⟩ : ∃ r, at2 ms us.length x y = r := ⟨_, rfl⟩
          have c1 := cor wr hK.b x y p hx hy ep
          have c2 := cand wr hK.b x y q hx hy eq
          have hcomp : compB js ms us.length bt tp x y = (decide (p = tp) && decide (q = bt)) := by unfold compB; rw [ep, eq]
          have HQ := hide hcomp
          clear ep eq hcomp
          generalize anyTo js ms us.length bt tp x y = ha at *
          have inner : ∀ (ha' : Bool), anyTo js ms us.length bt tp x (y + 1) = ha' → True := fun _ _ => trivial
          clear inner
          cases ha with
          | true =>
            have HT : Hid (anyTo js ms us.length bt tp x (y + 1) = true) := by rw [HA.out]; rfl
            clear HA
            go_wp2
            refine wp_region_quiet_below (by kernel_rfl) (by kernel_rfl) ?_
            repeat (go_big_quiet_step (first | with_reducible exact c1 _ _ | with_reducible exact c2 _ _))
            refine wpQuiet_nil ?_
            intro _ hw'
            obtain ⟨⟨dq, osq⟩, hwE⟩ := hw'
            subst hwE
            obtain ⟨W1, hEW⟩ : ∃ X, X = Go.Sort.grow (redrawn wr dq) osq := ⟨_, rfl⟩
            have hK1 := hK.below (show Below wr.heap.size wr W1 by rw [hEW]; exact below_regrown _ _ _)
            rw [← hEW]
            clear hEW e0 e1 e2 e3 c1 c2 hK HQ
            go_wp2
            go_loopw [10] (fun i wr => ∃ z : Nat, z ≤ us.length ∧ i = .int .i64 z ∧ KBox w a cap us aj cj am cm bt tp cb (kindOf js ms us.length (upto3 us.length x y z)) wr) (fun i _ => us.length - (intOf i).toNat)
            case atStart => exact ⟨0, Nat.zero_le _, rfl, hK1⟩
            case round =>
              clear hK1
              obtain ⟨z, hz', rfl, hK⟩ := hrel
              by_cases hz : z < us.length
              · have HZ := hide (upto3_z js ms us.length x y z)
                generalize kindOf js ms us.length (upto3 us.length x y z) = st at *
                obtain ⟨d, m, sa, sb, sc⟩ := st
                obtain ⟨p1, e1⟩ : ∃ r, at2 js us.length y z = r := ⟨_, rfl⟩
                obtain ⟨p2, e2⟩ : ∃ r, at2 ms us.length x p1 = r := ⟨_, rfl⟩
                obtain ⟨p3, e3⟩ : ∃ r, at2 ms us.length x y = r := ⟨_, rfl⟩
                obtain ⟨p4, e4⟩ : ∃ r, at2 ms us.length x z = r := ⟨_, rfl⟩
                obtain ⟨p5, e5⟩ : ∃ r, at2 js us.length p3 p4 = r := ⟨_, rfl⟩
                obtain ⟨q1, f1⟩ : ∃ r, at2 ms us.length y z = r := ⟨_, rfl⟩
                obtain ⟨q2, f2⟩ : ∃ r, at2 js us.length x q1 = r := ⟨_, rfl⟩
                obtain ⟨q3, f3⟩ : ∃ r, at2 js us.length x y = r := ⟨_, rfl⟩
                obtain ⟨q4, f4⟩ : ∃ r, at2 ms us.length q3 z = r := ⟨_, rfl⟩
                have l1 : p1 < us.length := by rw [← e1]; exact hj hy hz
                have l3 : p3 < us.length := by rw [← e3]; exact hm hx hy
                have l4 : p4 < us.length := by rw [← e4]; exact hm hx hz
                have m1 : q1 < us.length := by rw [← f1]; exact hm hy hz
                have m3 : q3 < us.length := by rw [← f3]; exact hj hx hy
                have hdis : disB js ms us.length x y z = decide (p2 = p5) := by unfold disB; rw [e1, e2, e3, e4, e5]
                have hmod : modB js ms us.length x y z = (!hasB (wd us x) z || decide (q2 = q4)) := by unfold modB; rw [← hle x z hx hz, f1, f2, f3, f4]
                have HD := hide hdis
                have HM := hide hmod
                have F1 := hide f1; have F2 := hide f2; have F3 := hide f3; have F4 := hide f4
                have kk := hK.k
                simp only [kvals] at kk
                have d0 := cell_regrown (hK.l.cell (i := 0) rfl)
                have d1 := cell_regrown (hK.l.cell (i := 1) rfl)
                have d2 := cell_regrown (hK.l.cell (i := 2) rfl)
                have d3 := cell_regrown (hK.l.cell (i := 3) rfl)
                have d4 := cell_regrown (kk.cell (i := 0) rfl)
                have c1 := cor wr hK.b y z p1 hy hz e1
                have c2 := cand wr hK.b x p1 p2 hx l1 e2
                have c3 := cand wr hK.b x y p3 hx hy e3
                have c4 := cand wr hK.b x z p4 hx hz e4
                have c5 := cor wr hK.b p3 p4 p5 l3 l4 e5
                clear e1 e2 e3 e4 e5 f1 f2 f3 f4 hdis hmod
                by_cases hp : p2 = p5
                · have hne : ((p2 : Int) != (p5 : Int)) = false := by rw [bne_eq_false_iff_eq]; omega
                  have HDV : Hid (disB js ms us.length x y z = true) := by rw [HD.out, decide_eq_true hp]; rfl
                  clear hp
                  go_wp2
                  refine wp_region_quiet_below (by kernel_rfl) (by kernel_rfl) ?_
                  repeat (go_big_quiet_step (first | with_reducible exact c1 _ _ | with_reducible exact c2 _ _ | with_reducible exact c3 _ _ | with_reducible exact c4 _ _ | with_reducible exact c5 _ _))
                  refine wpQuiet_nil ?_
                  intro _ hw'
                  obtain ⟨⟨dq, osq⟩, hwE⟩ := hw'
                  subst hwE
                  obtain ⟨U, hEU⟩ : ∃ X, X = Go.Sort.grow (redrawn wr dq) osq := ⟨_, rfl⟩
                  have hU := hK.below (show Below wr.heap.size wr U by rw [hEU]; exact below_regrown _ _ _)
                  rw [← hEU]
                  clear hEU
                  clear d0 d1 d2 d3 d4 c1 c2 c3 c4 c5 kk
                  have d0 := cell_regrown (hU.l.cell (i := 0) rfl)
                  have d1 := cell_regrown (hU.l.cell (i := 1) rfl)
                  have d2 := cell_regrown (hU.l.cell (i := 2) rfl)
                  have d3 := cell_regrown (hU.l.cell (i := 3) rfl)
                  have d4 := cell_regrown (hU.o.cell (i := 0) rfl)
                  have d5 := cell_regrown (hU.o.cell (i := 1) rfl)
                  cases hbl : hasB (wd us x) z with
                  | false =>
                    have HMV : Hid (modB js ms us.length x y z = true) := by rw [HM.out, hbl]; rfl
                    have c1 := cbel U hU.b x z false hx hz hbl
                    clear hbl
                    go_wp2
                    refine wp_region_quiet_below (by kernel_rfl) (by kernel_rfl) ?_
                    repeat (go_big_quiet_step (first | with_reducible exact c1 _ _))
                    refine wpQuiet_nil ?_
                    intro _ hw'
                    obtain ⟨⟨dq, osq⟩, hwE⟩ := hw'
                    subst hwE
                    have hU2 := hU.below (below_regrown U dq osq)
                    go_wp2
                    exact ⟨⟨z + 1, by omega, by go_num, by rw [HZ.out, ks_same_t HDV.out HMV.out]; exact hU2⟩, by simp [intOf]; omega⟩
                  | true =>
                    have c1 := cbel U hU.b x z true hx hz hbl
                    have c2 := cand U hU.b y z q1 hy hz F1.out
                    have c3 := cor U hU.b x q1 q2 hx m1 F2.out
                    have c4 := cor U hU.b x y q3 hx hy F3.out
                    have c5 := cand U hU.b q3 z q4 m3 hz F4.out
                    by_cases hq : q2 = q4
                    · have HMV : Hid (modB js ms us.length x y z = true) := by rw [HM.out, hbl, decide_eq_true hq]; rfl
                      have hne : ((q2 : Int) != (q4 : Int)) = false := by rw [bne_eq_false_iff_eq]; omega
                      clear hbl hq
                      go_wp2
                      refine wp_region_quiet_below (by kernel_rfl) (by kernel_rfl) ?_
                      repeat (go_big_quiet_step (first | with_reducible exact c1 _ _ | with_reducible exact c2 _ _ | with_reducible exact c3 _ _ | with_reducible exact c4 _ _ | with_reducible exact c5 _ _))
                      refine wpQuiet_nil ?_
                      intro _ hw'
                      obtain ⟨⟨dq, osq⟩, hwE⟩ := hw'
                      subst hwE
                      have hU2 := hU.below (below_regrown U dq osq)
                      go_wp2
                      exact ⟨⟨z + 1, by omega, by go_num, by rw [HZ.out, ks_same_t HDV.out HMV.out]; exact hU2⟩, by simp [intOf]; omega⟩
                    · have HMV : Hid (modB js ms us.length x y z = false) := by rw [HM.out, hbl, decide_eq_false hq]; rfl
                      have hne : ((q2 : Int) != (q4 : Int)) = true := by rw [bne_iff_ne]; omega
                      clear hbl hq
                      go_wp2
                      refine wp_region_quiet_below (by kernel_rfl) (by kernel_rfl) ?_
                      repeat (go_big_quiet_step (first | with_reducible exact c1 _ _ | with_reducible exact c2 _ _ | with_reducible exact c3 _ _ | with_reducible exact c4 _ _ | with_reducible exact c5 _ _))
                      refine wpQuiet_nil ?_
                      intro _ hw'
                      obtain ⟨⟨dq, osq⟩, hwE⟩ := hw'
                      subst hwE
                      obtain ⟨U2, hEU⟩ : ∃ X, X = Go.Sort.grow (redrawn U dq) osq := ⟨_, rfl⟩
                      have hU2 := hU.below (show Below U.heap.size U U2 by rw [hEU]; exact below_regrown _ _ _)
                      rw [← hEU]
                      clear hEU
                      have k1 := hU2.k.cell (i := 1) rfl
                      have f1 := hU2.k.frozen 1
                      have lk := hU2.k.lt
                      go_wp2
                      exact ⟨⟨z + 1, by omega, by go_num, by rw [HZ.out, ks_same_f HDV.out HMV.out]; exact hU2.set 1 (.bool false) rfl⟩, by simp [intOf]; omega⟩
                · have hne : ((p2 : Int) != (p5 : Int)) = true := by rw [bne_iff_ne]; omega
                  have HDV : Hid (disB js ms us.length x y z = false) := by rw [HD.out, decide_eq_false hp]; rfl
                  clear hp
                  cases d with
                  | false =>
                    go_wp2
                    refine wp_region_quiet_below (by kernel_rfl) (by kernel_rfl) ?_
                    repeat (go_big_quiet_step (first | with_reducible exact c1 _ _ | with_reducible exact c2 _ _ | with_reducible exact c3 _ _ | with_reducible exact c4 _ _ | with_reducible exact c5 _ _))
                    refine wpQuiet_nil ?_
                    intro _ hw'
                    obtain ⟨⟨dq, osq⟩, hwE⟩ := hw'
                    subst hwE
                    obtain ⟨U, hEU⟩ : ∃ X, X = Go.Sort.grow (redrawn wr dq) osq := ⟨_, rfl⟩
                    have hU := hK.below (show Below wr.heap.size wr U by rw [hEU]; exact below_regrown _ _ _)
                    rw [← hEU]
                    clear hEU
                    clear d0 d1 d2 d3 d4 c1 c2 c3 c4 c5 kk
                    have d0 := cell_regrown (hU.l.cell (i := 0) rfl)
                    have d1 := cell_regrown (hU.l.cell (i := 1) rfl)
                    have d2 := cell_regrown (hU.l.cell (i := 2) rfl)
                    have d3 := cell_regrown (hU.l.cell (i := 3) rfl)
                    have d4 := cell_regrown (hU.o.cell (i := 0) rfl)
                    have d5 := cell_regrown (hU.o.cell (i := 1) rfl)
                    cases hbl : hasB (wd us x) z with
                    | false =>
                      have HMV : Hid (modB js ms us.length x y z = true) := by rw [HM.out, hbl]; rfl
                      have c1 := cbel U hU.b x z false hx hz hbl
                      clear hbl
                      go_wp2
                      refine wp_region_quiet_below (by kernel_rfl) (by kernel_rfl) ?_
                      repeat (go_big_quiet_step (first | with_reducible exact c1 _ _))
                      refine wpQuiet_nil ?_
                      intro _ hw'
                      obtain ⟨⟨dq, osq⟩, hwE⟩ := hw'
                      subst hwE
                      have hU2 := hU.below (below_regrown U dq osq)
                      go_wp2
                      exact ⟨⟨z + 1, by omega, by go_num, by rw [HZ.out, ks_no_t HDV.out HMV.out]; exact hU2⟩, by simp [intOf]; omega⟩
                    | true =>
                      have c1 := cbel U hU.b x z true hx hz hbl
                      have c2 := cand U hU.b y z q1 hy hz F1.out
                      have c3 := cor U hU.b x q1 q2 hx m1 F2.out
                      have c4 := cor U hU.b x y q3 hx hy F3.out
                      have c5 := cand U hU.b q3 z q4 m3 hz F4.out
                      by_cases hq : q2 = q4
                      · have HMV : Hid (modB js ms us.length x y z = true) := by rw [HM.out, hbl, decide_eq_true hq]; rfl
                        have hne : ((q2 : Int) != (q4 : Int)) = false := by rw [bne_eq_false_iff_eq]; omega
                        clear hbl hq
                        go_wp2
                        refine wp_region_quiet_below (by kernel_rfl) (by kernel_rfl) ?_
                        repeat (go_big_quiet_step (first | with_reducible exact c1 _ _ | with_reducible exact c2 _ _ | with_reducible exact c3 _ _ | with_reducible exact c4 _ _ | with_reducible exact c5 _ _))
                        refine wpQuiet_nil ?_
                        intro _ hw'
                        obtain ⟨⟨dq, osq⟩, hwE⟩ := hw'
                        subst hwE
                        have hU2 := hU.below (below_regrown U dq osq)
                        go_wp2
                        exact ⟨⟨z + 1, by omega, by go_num, by rw [HZ.out, ks_no_t HDV.out HMV.out]; exact hU2⟩, by simp [intOf]; omega⟩
                      · have HMV : Hid (modB js ms us.length x y z = false) := by rw [HM.out, hbl, decide_eq_false hq]; rfl
                        have hne : ((q2 : Int) != (q4 : Int)) = true := by rw [bne_iff_ne]; omega
                        clear hbl hq
                        go_wp2
                        refine wp_region_quiet_below (by kernel_rfl) (by kernel_rfl) ?_
                        repeat (go_big_quiet_step (first | with_reducible exact c1 _ _ | with_reducible exact c2 _ _ | with_reducible exact c3 _ _ | with_reducible exact c4 _ _ | with_reducible exact c5 _ _))
                        refine wpQuiet_nil ?_
                        intro _ hw'
                        obtain ⟨⟨dq, osq⟩, hwE⟩ := hw'
                        subst hwE
                        obtain ⟨U2, hEU⟩ : ∃ X, X = Go.Sort.grow (redrawn U dq) osq := ⟨_, rfl⟩
                        have hU2 := hU.below (show Below U.heap.size U U2 by rw [hEU]; exact below_regrown _ _ _)
                        rw [← hEU]
                        clear hEU
                        have k1 := hU2.k.cell (i := 1) rfl
                        have f1 := hU2.k.frozen 1
                        have lk := hU2.k.lt
                        go_wp2
                        exact ⟨⟨z + 1, by omega, by go_num, by rw [HZ.out, ks_no_f HDV.out HMV.out]; exact hU2.set 1 (.bool false) rfl⟩, by simp [intOf]; omega⟩
                  | true =>
                    go_wp2
                    refine wp_region_quiet_below (by kernel_rfl) (by kernel_rfl) ?_
                    repeat (go_big_quiet_step (first | with_reducible exact c1 _ _ | with_reducible exact c2 _ _ | with_reducible exact c3 _ _ | with_reducible exact c4 _ _ | with_reducible exact c5 _ _))
                    refine wpQuiet_nil ?_
                    intro _ hw'
                    obtain ⟨⟨dq, osq⟩, hwE⟩ := hw'
                    subst hwE
                    obtain ⟨U, hEU⟩ : ∃ X, X = Go.Sort.grow (redrawn wr dq) osq := ⟨_, rfl⟩
                    have hU := hK.below (show Below wr.heap.size wr U by rw [hEU]; exact below_regrown _ _ _)
                    rw [← hEU]
                    clear hEU
                    have k0 := hU.k.cell (i := 0) rfl
                    have k3 := hU.k.cell (i := 3) rfl
                    have k4 := hU.k.cell (i := 4) rfl
                    have k5 := hU.k.cell (i := 5) rfl
                    have f0 := hU.k.frozen 0
                    have f3 := hU.k.frozen 3
                    have f4 := hU.k.frozen 4
                    have f5 := hU.k.frozen 5
                    have lk := hU.k.lt
                    have hX := (((hU.set 0 (.bool false) (s' := ⟨false, m, sa, sb, sc⟩) (cb' := cb) rfl).set 3 (.int .i64 (x : Nat)) (s' := ⟨false, m, x, sb, sc⟩) (cb' := cb) rfl).set 4 (.int .i64 (y : Nat)) (s' := ⟨false, m, x, y, sc⟩) (cb' := cb) rfl).set 5 (.int .i64 (z : Nat)) (s' := ⟨false, m, x, y, z⟩) (cb' := cb) rfl
                    go_wp2
                    clear k0 k3 k4 k5 f0 f3 f4 f5 lk hU
                    generalize (((U.setCell ⟨w.heap.size + 1 + 1 + 1, 0, none⟩ (.bool false)).setCell ⟨w.heap.size + 1 + 1 + 1, 3, none⟩ (.int .i64 (x : Nat))).setCell ⟨w.heap.size + 1 + 1 + 1, 4, none⟩ (.int .i64 (y : Nat))).setCell ⟨w.heap.size + 1 + 1 + 1, 5, none⟩ (.int .i64 (z : Nat)) = UU at *
                    obtain ⟨U, hUU⟩ : ∃ U, U = UU := ⟨_, rfl⟩
                    rw [← hUU] at hX ⊢
                    clear hUU UU
                    have hU := hX
                    clear d0 d1 d2 d3 d4 c1 c2 c3 c4 c5 kk
                    have d0 := cell_regrown (hU.l.cell (i := 0) rfl)
                    have d1 := cell_regrown (hU.l.cell (i := 1) rfl)
                    have d2 := cell_regrown (hU.l.cell (i := 2) rfl)
                    have d3 := cell_regrown (hU.l.cell (i := 3) rfl)
                    have d4 := cell_regrown (hU.o.cell (i := 0) rfl)
                    have d5 := cell_regrown (hU.o.cell (i := 1) rfl)
                    cases hbl : hasB (wd us x) z with
                    | false =>
                      have HMV : Hid (modB js ms us.length x y z = true) := by rw [HM.out, hbl]; rfl
                      have c1 := cbel U hU.b x z false hx hz hbl
                      clear hbl
                      go_wp2
                      refine wp_region_quiet_below (by kernel_rfl) (by kernel_rfl) ?_
                      repeat (go_big_quiet_step (first | with_reducible exact c1 _ _))
                      refine wpQuiet_nil ?_
                      intro _ hw'
                      obtain ⟨⟨dq, osq⟩, hwE⟩ := hw'
                      subst hwE
                      have hU2 := hU.below (below_regrown U dq osq)
                      go_wp2
                      exact ⟨⟨z + 1, by omega, by go_num, by rw [HZ.out, ks_new_t HDV.out HMV.out]; exact hU2⟩, by simp [intOf]; omega⟩
                    | true =>
                      have c1 := cbel U hU.b x z true hx hz hbl
                      have c2 := cand U hU.b y z q1 hy hz F1.out
                      have c3 := cor U hU.b x q1 q2 hx m1 F2.out
                      have c4 := cor U hU.b x y q3 hx hy F3.out
                      have c5 := cand U hU.b q3 z q4 m3 hz F4.out
                      by_cases hq : q2 = q4
                      · have HMV : Hid (modB js ms us.length x y z = true) := by rw [HM.out, hbl, decide_eq_true hq]; rfl
                        have hne : ((q2 : Int) != (q4 : Int)) = false := by rw [bne_eq_false_iff_eq]; omega
                        clear hbl hq
                        go_wp2
                        refine wp_region_quiet_below (by kernel_rfl) (by kernel_rfl) ?_
                        repeat (go_big_quiet_step (first | with_reducible exact c1 _ _ | with_reducible exact c2 _ _ | with_reducible exact c3 _ _ | with_reducible exact c4 _ _ | with_reducible exact c5 _ _))
                        refine wpQuiet_nil ?_
                        intro _ hw'
                        obtain ⟨⟨dq, osq⟩, hwE⟩ := hw'
                        subst hwE
                        have hU2 := hU.below (below_regrown U dq osq)
                        go_wp2
                        exact ⟨⟨z + 1, by omega, by go_num, by rw [HZ.out, ks_new_t HDV.out HMV.out]; exact hU2⟩, by simp [intOf]; omega⟩
                      · have HMV : Hid (modB js ms us.length x y z = false) := by rw [HM.out, hbl, decide_eq_false hq]; rfl
                        have hne : ((q2 : Int) != (q4 : Int)) = true := by rw [bne_iff_ne]; omega
                        clear hbl hq
                        go_wp2
                        refine wp_region_quiet_below (by kernel_rfl) (by kernel_rfl) ?_
                        repeat (go_big_quiet_step (first | with_reducible exact c1 _ _ | with_reducible exact c2 _ _ | with_reducible exact c3 _ _ | with_reducible exact c4 _ _ | with_reducible exact c5 _ _))
                        refine wpQuiet_nil ?_
                        intro _ hw'
                        obtain ⟨⟨dq, osq⟩, hwE⟩ := hw'
                        subst hwE
                        obtain ⟨U2, hEU⟩ : ∃ X, X = Go.Sort.grow (redrawn U dq) osq := ⟨_, rfl⟩
                        have hU2 := hU.below (show Below U.heap.size U U2 by rw [hEU]; exact below_regrown _ _ _)
                        rw [← hEU]
                        clear hEU
                        have k1 := hU2.k.cell (i := 1) rfl
                        have f1 := hU2.k.frozen 1
                        have lk := hU2.k.lt
                        go_wp2
                        exact ⟨⟨z + 1, by omega, by go_num, by rw [HZ.out, ks_new_f HDV.out HMV.out]; exact hU2.set 1 (.bool false) rfl⟩, by simp [intOf]; omega⟩
              · obtain rfl : z = us.length := by omega
                have HY := hide (upto3_y us.length x y)
                go_wp2
                exact ⟨⟨y + 1, by omega, by go_num, by rw [HT.out], by rw [HY.out]; exact hK⟩, by simp [intOf]; omega⟩
          | false =>
            by_cases h1 : p = tp
            · have t1 : ((p : Int) == (tp : Int)) = true := by rw [beq_iff_eq]; omega
              by_cases h2 : q = bt
              · have t2 : ((q : Int) == (bt : Int)) = true := by rw [beq_iff_eq]; omega
                have HT : Hid (anyTo js ms us.length bt tp x (y + 1) = true) := by rw [HA.out, HQ.out, decide_eq_true h1, decide_eq_true h2]; rfl
                clear HA h1 h2
                go_wp2
                refine wp_region_quiet_below (by kernel_rfl) (by kernel_rfl) ?_
                repeat (go_big_quiet_step (first | with_reducible exact c1 _ _ | with_reducible exact c2 _ _))
                refine wpQuiet_nil ?_
                intro _ hw'
                obtain ⟨⟨dq, osq⟩, hwE⟩ := hw'
                subst hwE
                obtain ⟨W1, hEW⟩ : ∃ X, X = Go.Sort.grow (redrawn wr dq) osq := ⟨_, rfl⟩
                have hK1 := hK.below (show Below wr.heap.size wr W1 by rw [hEW]; exact below_regrown _ _ _)
                rw [← hEW]
                clear hEW e0 e1 e2 e3 c1 c2 hK HQ
                go_wp2
                go_loopw [10] (fun i wr => ∃ z : Nat, z ≤ us.length ∧ i = .int .i64 z ∧ KBox w a cap us aj cj am cm bt tp cb (kindOf js ms us.length (upto3 us.length x y z)) wr) (fun i _ => us.length - (intOf i).toNat)
                case atStart => exact ⟨0, Nat.zero_le _, rfl, hK1⟩
                case round =>
                  clear hK1
                  obtain ⟨z, hz', rfl, hK⟩ := hrel
                  by_cases hz : z < us.length
                  · have HZ := hide (upto3_z js ms us.length x y z)
                    generalize kindOf js ms us.length (upto3 us.length x y z) = st at *
                    obtain ⟨d, m, sa, sb, sc⟩ := st
                    obtain ⟨p1, e1⟩ : ∃ r, at2 js us.length y z = r := ⟨_, rfl⟩
                    obtain ⟨p2, e2⟩ : ∃ r, at2 ms us.length x p1 = r := ⟨_, rfl⟩
                    obtain ⟨p3, e3⟩ : ∃ r, at2 ms us.length x y = r := ⟨_, rfl⟩
                    obtain ⟨p4, e4⟩ : ∃ r, at2 ms us.length x z = r := ⟨_, rfl⟩
                    obtain ⟨p5, e5⟩ : ∃ r, at2 js us.length p3 p4 = r := ⟨_, rfl⟩
                    obtain ⟨q1, f1⟩ : ∃ r, at2 ms us.length y z = r := ⟨_, rfl⟩
                    obtain ⟨q2, f2⟩ : ∃ r, at2 js us.length x q1 = r := ⟨_, rfl⟩
                    obtain ⟨q3, f3⟩ : ∃ r, at2 js us.length x y = r := ⟨_, rfl⟩
                    obtain ⟨q4, f4⟩ : ∃ r, at2 ms us.length q3 z = r := ⟨_, rfl⟩
                    have l1 : p1 < us.length := by rw [← e1]; exact hj hy hz
                    have l3 : p3 < us.length := by rw [← e3]; exact hm hx hy
                    have l4 : p4 < us.length := by rw [← e4]; exact hm hx hz
                    have m1 : q1 < us.length := by rw [← f1]; exact hm hy hz
                    have m3 : q3 < us.length := by rw [← f3]; exact hj hx hy
                    have hdis : disB js ms us.length x y z = decide (p2 = p5) := by unfold disB; rw [e1, e2, e3, e4, e5]
                    have hmod : modB js ms us.length x y z = (!hasB (wd us x) z || decide (q2 = q4)) := by unfold modB; rw [← hle x z hx hz, f1, f2, f3, f4]
                    have HD := hide hdis
                    have HM := hide hmod
                    have F1 := hide f1; have F2 := hide f2; have F3 := hide f3; have F4 := hide f4
                    have kk := hK.k
                    simp only [kvals] at kk
                    have d0 := cell_regrown (hK.l.cell (i := 0) rfl)
                    have d1 := cell_regrown (hK.l.cell (i := 1) rfl)
                    have d2 := cell_regrown (hK.l.cell (i := 2) rfl)
                    have d3 := cell_regrown (hK.l.cell (i := 3) rfl)
                    have d4 := cell_regrown (kk.cell (i := 0) rfl)
                    have c1 := cor wr hK.b y z p1 hy hz e1
                    have c2 := cand wr hK.b x p1 p2 hx l1 e2
                    have c3 := cand wr hK.b x y p3 hx hy e3
                    have c4 := cand wr hK.b x z p4 hx hz e4
                    have c5 := cor wr hK.b p3 p4 p5 l3 l4 e5
                    clear e1 e2 e3 e4 e5 f1 f2 f3 f4 hdis hmod
                    by_cases hp : p2 = p5
                    · have hne : ((p2 : Int) != (p5 : Int)) = false := by rw [bne_eq_false_iff_eq]; omega
                      have HDV : Hid (disB js ms us.length x y z = true) := by rw [HD.out, decide_eq_true hp]; rfl
                      clear hp
                      go_wp2
                      refine wp_region_quiet_below (by kernel_rfl) (by kernel_rfl) ?_
                      repeat (go_big_quiet_step (first | with_reducible exact c1 _ _ | with_reducible exact c2 _ _ | with_reducible exact c3 _ _ | with_reducible exact c4 _ _ | with_reducible exact c5 _ _))
                      refine wpQuiet_nil ?_
                      intro _ hw'
                      obtain ⟨⟨dq, osq⟩, hwE⟩ := hw'
                      subst hwE
                      obtain ⟨U, hEU⟩ : ∃ X, X = Go.Sort.grow (redrawn wr dq) osq := ⟨_, rfl⟩
                      have hU := hK.below (show Below wr.heap.size wr U by rw [hEU]; exact below_regrown _ _ _)
                      rw [← hEU]
                      clear hEU
                      clear d0 d1 d2 d3 d4 c1 c2 c3 c4 c5 kk
                      have d0 := cell_regrown (hU.l.cell (i := 0) rfl)
                      have d1 := cell_regrown (hU.l.cell (i := 1) rfl)
                      have d2 := cell_regrown (hU.l.cell (i := 2) rfl)
                      have d3 := cell_regrown (hU.l.cell (i := 3) rfl)
                      have d4 := cell_regrown (hU.o.cell (i := 0) rfl)
                      have d5 := cell_regrown (hU.o.cell (i := 1) rfl)
                      cases hbl : hasB (wd us x) z with
                      | false =>
                        have HMV : Hid (modB js ms us.length x y z = true) := by rw [HM.out, hbl]; rfl
                        have c1 := cbel U hU.b x z false hx hz hbl
                        clear hbl
                        go_wp2
                        refine wp_region_quiet_below (by kernel_rfl) (by kernel_rfl) ?_
                        repeat (go_big_quiet_step (first | with_reducible exact c1 _ _))
                        refine wpQuiet_nil ?_
                        intro _ hw'
                        obtain ⟨⟨dq, osq⟩, hwE⟩ := hw'
                        subst hwE
                        have hU2 := hU.below (below_regrown U dq osq)
                        go_wp2
                        exact ⟨⟨z + 1, by omega, by go_num, by rw [HZ.out, ks_same_t HDV.out HMV.out]; exact hU2⟩, by simp [intOf]; omega⟩
                      | true =>
                        have c1 := cbel U hU.b x z true hx hz hbl
                        have c2 := cand U hU.b y z q1 hy hz F1.out
                        have c3 := cor U hU.b x q1 q2 hx m1 F2.out
                        have c4 := cor U hU.b x y q3 hx hy F3.out
                        have c5 := cand U hU.b q3 z q4 m3 hz F4.out
                        by_cases hq : q2 = q4
                        · have HMV : Hid (modB js ms us.length x y z = true) := by rw [HM.out, hbl, decide_eq_true hq]; rfl
                          have hne : ((q2 : Int) != (q4 : Int)) = false := by rw [bne_eq_false_iff_eq]; omega
                          clear hbl hq
                          go_wp2
                          refine wp_region_quiet_below (by kernel_rfl) (by kernel_rfl) ?_
                          repeat (go_big_quiet_step (first | with_reducible exact c1 _ _ | with_reducible exact c2 _ _ | with_reducible exact c3 _ _ | with_reducible exact c4 _ _ | with_reducible exact c5 _ _))
                          refine wpQuiet_nil ?_
                          intro _ hw'
                          obtain ⟨⟨dq, osq⟩, hwE⟩ := hw'
                          subst hwE
                          have hU2 := hU.below (below_regrown U dq osq)
                          go_wp2
                          exact ⟨⟨z + 1, by omega, by go_num, by rw [HZ.out, ks_same_t HDV.out HMV.out]; exact hU2⟩, by simp [intOf]; omega⟩
                        · have HMV : Hid (modB js ms us.length x y z = false) := by rw [HM.out, hbl, decide_eq_false hq]; rfl
                          have hne : ((q2 : Int) != (q4 : Int)) = true := by rw [bne_iff_ne]; omega
                          clear hbl hq
                          go_wp2
                          refine wp_region_quiet_below (by kernel_rfl) (by kernel_rfl) ?_
                          repeat (go_big_quiet_step (first | with_reducible exact c1 _ _ | with_reducible exact c2 _ _ | with_reducible exact c3 _ _ | with_reducible exact c4 _ _ | with_reducible exact c5 _ _))
                          refine wpQuiet_nil ?_
                          intro _ hw'
                          obtain ⟨⟨dq, osq⟩, hwE⟩ := hw'
                          subst hwE
                          obtain ⟨U2, hEU⟩ : ∃ X, X = Go.Sort.grow (redrawn U dq) osq := ⟨_, rfl⟩
                          have hU2 := hU.below (show Below U.heap.size U U2 by rw [hEU]; exact below_regrown _ _ _)
                          rw [← hEU]
                          clear hEU
                          have k1 := hU2.k.cell (i := 1) rfl
                          have f1 := hU2.k.frozen 1
                          have lk := hU2.k.lt
                          go_wp2
                          exact ⟨⟨z + 1, by omega, by go_num, by rw [HZ.out, ks_same_f HDV.out HMV.out]; exact hU2.set 1 (.bool false) rfl⟩, by simp [intOf]; omega⟩
                    · have hne : ((p2 : Int) != (p5 : Int)) = true := by rw [bne_iff_ne]; omega
                      have HDV : Hid (disB js ms us.length x y z = false) := by rw [HD.out, decide_eq_false hp]; rfl
                      clear hp
                      cases d with
                      | false =>
                        go_wp2
                        refine wp_region_quiet_below (by kernel_rfl) (by kernel_rfl) ?_
                        repeat (go_big_quiet_step (first | with_reducible exact c1 _ _ | with_reducible exact c2 _ _ | with_reducible exact c3 _ _ | with_reducible exact c4 _ _ | with_reducible exact c5 _ _))
                        refine wpQuiet_nil ?_
                        intro _ hw'
                        obtain ⟨⟨dq, osq⟩, hwE⟩ := hw'
                        subst hwE
                        obtain ⟨U, hEU⟩ : ∃ X, X = Go.Sort.grow (redrawn wr dq) osq := ⟨_, rfl⟩
                        have hU := hK.below (show Below wr.heap.size wr U by rw [hEU]; exact below_regrown _ _ _)
                        rw [← hEU]
                        clear hEU
                        clear d0 d1 d2 d3 d4 c1 c2 c3 c4 c5 kk
                        have d0 := cell_regrown (hU.l.cell (i := 0) rfl)
                        have d1 := cell_regrown (hU.l.cell (i := 1) rfl)
                        have d2 := cell_regrown (hU.l.cell (i := 2) rfl)
                        have d3 := cell_regrown (hU.l.cell (i := 3) rfl)
                        have d4 := cell_regrown (hU.o.cell (i := 0) rfl)
                        have d5 := cell_regrown (hU.o.cell (i := 1) rfl)
                        cases hbl : hasB (wd us x) z with
                        | false =>
                          have HMV : Hid (modB js ms us.length x y z = true) := by rw [HM.out, hbl]; rfl
                          have c1 := cbel U hU.b x z false hx hz hbl
                          clear hbl
                          go_wp2
                          refine wp_region_quiet_below (by kernel_rfl) (by kernel_rfl) ?_
                          repeat (go_big_quiet_step (first | with_reducible exact c1 _ _))
                          refine wpQuiet_nil ?_
                          intro _ hw'
                          obtain ⟨⟨dq, osq⟩, hwE⟩ := hw'
                          subst hwE
                          have hU2 := hU.below (below_regrown U dq osq)
                          go_wp2
                          exact ⟨⟨z + 1, by omega, by go_num, by rw [HZ.out, ks_no_t HDV.out HMV.out]; exact hU2⟩, by simp [intOf]; omega⟩
                        | true =>
                          have c1 := cbel U hU.b x z true hx hz hbl
                          have c2 := cand U hU.b y z q1 hy hz F1.out
                          have c3 := cor U hU.b x q1 q2 hx m1 F2.out
                          have c4 := cor U hU.b x y q3 hx hy F3.out
                          have c5 := cand U hU.b q3 z q4 m3 hz F4.out
                          by_cases hq : q2 = q4
                          · have HMV : Hid (modB js ms us.length x y z = true) := by rw [HM.out, hbl, decide_eq_true hq]; rfl
                            have hne : ((q2 : Int) != (q4 : Int)) = false := by rw [bne_eq_false_iff_eq]; omega
                            clear hbl hq
                            go_wp2
                            refine wp_region_quiet_below (by kernel_rfl) (by kernel_rfl) ?_
                            repeat (go_big_quiet_step (first | with_reducible exact c1 _ _ | with_reducible exact c2 _ _ | with_reducible exact c3 _ _ | with_reducible exact c4 _ _ | with_reducible exact c5 _ _))
                            refine wpQuiet_nil ?_
                            intro _ hw'
                            obtain ⟨⟨dq, osq⟩, hwE⟩ := hw'
                            subst hwE
                            have hU2 := hU.below (below_regrown U dq osq)
                            go_wp2
                            exact ⟨⟨z + 1, by omega, by go_num, by rw [HZ.out, ks_no_t HDV.out HMV.out]; exact hU2⟩, by simp [intOf]; omega⟩
                          · have HMV : Hid (modB js ms us.length x y z = false) := by rw [HM.out, hbl, decide_eq_false hq]; rfl
                            have hne : ((q2 : Int) != (q4 : Int)) = true := by rw [bne_iff_ne]; omega
                            clear hbl hq
                            go_wp2
                            refine wp_region_quiet_below (by kernel_rfl) (by kernel_rfl) ?_
                            repeat (go_big_quiet_step (first | with_reducible exact c1 _ _ | with_reducible exact c2 _ _ | with_reducible exact c3 _ _ | with_reducible exact c4 _ _ | with_reducible exact c5 _ _))
                            refine wpQuiet_nil ?_
                            intro _ hw'
                            obtain ⟨⟨dq, osq⟩, hwE⟩ := hw'
                            subst hwE
                            obtain ⟨U2, hEU⟩ : ∃ X, X = Go.Sort.grow (redrawn U dq) osq := ⟨_, rfl⟩
                            have hU2 := hU.below (show Below U.heap.size U U2 by rw [hEU]; exact below_regrown _ _ _)
                            rw [← hEU]
                            clear hEU
                            have k1 := hU2.k.cell (i := 1) rfl
                            have f1 := hU2.k.frozen 1
                            have lk := hU2.k.lt
                            go_wp2
                            exact ⟨⟨z + 1, by omega, by go_num, by rw [HZ.out, ks_no_f HDV.out HMV.out]; exact hU2.set 1 (.bool false) rfl⟩, by simp [intOf]; omega⟩
                      | true =>
                        go_wp2
                        refine wp_region_quiet_below (by kernel_rfl) (by kernel_rfl) ?_
                        repeat (go_big_quiet_step (first | with_reducible exact c1 _ _ | with_reducible exact c2 _ _ | with_reducible exact c3 _ _ | with_reducible exact c4 _ _ | with_reducible exact c5 _ _))
                        refine wpQuiet_nil ?_
                        intro _ hw'
                        obtain ⟨⟨dq, osq⟩, hwE⟩ := hw'
                        subst hwE
                        obtain ⟨U, hEU⟩ : ∃ X, X = Go.Sort.grow (redrawn wr dq) osq := ⟨_, rfl⟩
                        have hU := hK.below (show Below wr.heap.size wr U by rw [hEU]; exact below_regrown _ _ _)
                        rw [← hEU]
                        clear hEU
                        have k0 := hU.k.cell (i := 0) rfl
                        have k3 := hU.k.cell (i := 3) rfl
                        have k4 := hU.k.cell (i := 4) rfl
                        have k5 := hU.k.cell (i := 5) rfl
                        have f0 := hU.k.frozen 0
                        have f3 := hU.k.frozen 3
                        have f4 := hU.k.frozen 4
                        have f5 := hU.k.frozen 5
                        have lk := hU.k.lt
                        have hX := (((hU.set 0 (.bool false) (s' := ⟨false, m, sa, sb, sc⟩) (cb' := cb) rfl).set 3 (.int .i64 (x : Nat)) (s' := ⟨false, m, x, sb, sc⟩) (cb' := cb) rfl).set 4 (.int .i64 (y : Nat)) (s' := ⟨false, m, x, y, sc⟩) (cb' := cb) rfl).set 5 (.int .i64 (z : Nat)) (s' := ⟨false, m, x, y, z⟩) (cb' := cb) rfl
                        go_wp2
                        clear k0 k3 k4 k5 f0 f3 f4 f5 lk hU
                        generalize (((U.setCell ⟨w.heap.size + 1 + 1 + 1, 0, none⟩ (.bool false)).setCell ⟨w.heap.size + 1 + 1 + 1, 3, none⟩ (.int .i64 (x : Nat))).setCell ⟨w.heap.size + 1 + 1 + 1, 4, none⟩ (.int .i64 (y : Nat))).setCell ⟨w.heap.size + 1 + 1 + 1, 5, none⟩ (.int .i64 (z : Nat)) = UU at *
                        obtain ⟨U, hUU⟩ : ∃ U, U = UU := ⟨_, rfl⟩
                        rw [← hUU] at hX ⊢
                        clear hUU UU
                        have hU := hX
                        clear d0 d1 d2 d3 d4 c1 c2 c3 c4 c5 kk
                        have d0 := cell_regrown (hU.l.cell (i := 0) rfl)
                        have d1 := cell_regrown (hU.l.cell (i := 1) rfl)
                        have d2 := cell_regrown (hU.l.cell (i := 2) rfl)
                        have d3 := cell_regrown (hU.l.cell (i := 3) rfl)
                        have d4 := cell_regrown (hU.o.cell (i := 0) rfl)
                        have d5 := cell_regrown (hU.o.cell (i := 1) rfl)
                        cases hbl : hasB (wd us x) z with
                        | false =>
                          have HMV : Hid (modB js ms us.length x y z = true) := by rw [HM.out, hbl]; rfl
                          have c1 := cbel U hU.b x z false hx hz hbl
                          clear hbl
                          go_wp2
                          refine wp_region_quiet_below (by kernel_rfl) (by kernel_rfl) ?_
                          repeat (go_big_quiet_step (first | with_reducible exact c1 _ _))
                          refine wpQuiet_nil ?_
                          intro _ hw'
                          obtain ⟨⟨dq, osq⟩, hwE⟩ := hw'
                          subst hwE
                          have hU2 := hU.below (below_regrown U dq osq)
                          go_wp2
                          exact ⟨⟨z + 1, by omega, by go_num, by rw [HZ.out, ks_new_t HDV.out HMV.out]; exact hU2⟩, by simp [intOf]; omega⟩
                        | true =>
                          have c1 := cbel U hU.b x z true hx hz hbl
                          have c2 := cand U hU.b y z q1 hy hz F1.out
                          have c3 := cor U hU.b x q1 q2 hx m1 F2.out
                          have c4 := cor U hU.b x y q3 hx hy F3.out
                          have c5 := cand U hU.b q3 z q4 m3 hz F4.out
                          by_cases hq : q2 = q4
                          · have HMV : Hid (modB js ms us.length x y z = true) := by rw [HM.out, hbl, decide_eq_true hq]; rfl
                            have hne : ((q2 : Int) != (q4 : Int)) = false := by rw [bne_eq_false_iff_eq]; omega
                            clear hbl hq
                            go_wp2
                            refine wp_region_quiet_below (by kernel_rfl) (by kernel_rfl) ?_
                            repeat (go_big_quiet_step (first | with_reducible exact c1 _ _ | with_reducible exact c2 _ _ | with_reducible exact c3 _ _ | with_reducible exact c4 _ _ | with_reducible exact c5 _ _))
                            refine wpQuiet_nil ?_
                            intro _ hw'
                            obtain ⟨⟨dq, osq⟩, hwE⟩ := hw'
                            subst hwE
                            have hU2 := hU.below (below_regrown U dq osq)
                            go_wp2
                            exact ⟨⟨z + 1, by omega, by go_num, by rw [HZ.out, ks_new_t HDV.out HMV.out]; exact hU2⟩, by simp [intOf]; omega⟩
                          · have HMV : Hid (modB js ms us.length x y z = false) := by rw [HM.out, hbl, decide_eq_false hq]; rfl
                            have hne : ((q2 : Int) != (q4 : Int)) = true := by rw [bne_iff_ne]; omega
                            clear hbl hq
                            go_wp2
                            refine wp_region_quiet_below (by kernel_rfl) (by kernel_rfl) ?_
                            repeat (go_big_quiet_step (first | with_reducible exact c1 _ _ | with_reducible exact c2 _ _ | with_reducible exact c3 _ _ | with_reducible exact c4 _ _ | with_reducible exact c5 _ _))
                            refine wpQuiet_nil ?_
                            intro _ hw'
                            obtain ⟨⟨dq, osq⟩, hwE⟩ := hw'
                            subst hwE
                            obtain ⟨U2, hEU⟩ : ∃ X, X = Go.Sort.grow (redrawn U dq) osq := ⟨_, rfl⟩
                            have hU2 := hU.below (show Below U.heap.size U U2 by rw [hEU]; exact below_regrown _ _ _)
                            rw [← hEU]
                            clear hEU
                            have k1 := hU2.k.cell (i := 1) rfl
                            have f1 := hU2.k.frozen 1
                            have lk := hU2.k.lt
                            go_wp2
                            exact ⟨⟨z + 1, by omega, by go_num, by rw [HZ.out, ks_new_f HDV.out HMV.out]; exact hU2.set 1 (.bool false) rfl⟩, by simp [intOf]; omega⟩
                  · obtain rfl : z = us.length := by omega
                    have HY := hide (upto3_y us.length x y)
                    go_wp2
                    exact ⟨⟨y + 1, by omega, by go_num, by rw [HT.out], by rw [HY.out]; exact hK⟩, by simp [intOf]; omega⟩
              · have t2 : ((q : Int) == (bt : Int)) = false := by rw [beq_eq_false_iff_ne]; omega
                have HT : Hid (anyTo js ms us.length bt tp x (y + 1) = false) := by rw [HA.out, HQ.out, decide_eq_true h1, decide_eq_false h2]; rfl
                clear HA h1 h2
                go_wp2
                refine wp_region_quiet_below (by kernel_rfl) (by kernel_rfl) ?_
                repeat (go_big_quiet_step (first | with_reducible exact c1 _ _ | with_reducible exact c2 _ _))
                refine wpQuiet_nil ?_
                intro _ hw'
                obtain ⟨⟨dq, osq⟩, hwE⟩ := hw'
                subst hwE
                obtain ⟨W1, hEW⟩ : ∃ X, X = Go.Sort.grow (redrawn wr dq) osq := ⟨_, rfl⟩
                have hK1 := hK.below (show Below wr.heap.size wr W1 by rw [hEW]; exact below_regrown _ _ _)
                rw [← hEW]
                clear hEW e0 e1 e2 e3 c1 c2 hK HQ
                go_wp2
                go_loopw [10] (fun i wr => ∃ z : Nat, z ≤ us.length ∧ i = .int .i64 z ∧ KBox w a cap us aj cj am cm bt tp cb (kindOf js ms us.length (upto3 us.length x y z)) wr) (fun i _ => us.length - (intOf i).toNat)
                case atStart => exact ⟨0, Nat.zero_le _, rfl, hK1⟩
                case round =>
                  clear hK1
                  obtain ⟨z, hz', rfl, hK⟩ := hrel
                  by_cases hz : z < us.length
                  · have HZ := hide (upto3_z js ms us.length x y z)
                    generalize kindOf js ms us.length (upto3 us.length x y z) = st at *
                    obtain ⟨d, m, sa, sb, sc⟩ := st
                    obtain ⟨p1, e1⟩ : ∃ r, at2 js us.length y z = r := ⟨_, rfl⟩
                    obtain ⟨p2, e2⟩ : ∃ r, at2 ms us.length x p1 = r := ⟨_, rfl⟩
                    obtain ⟨p3, e3⟩ : ∃ r, at2 ms us.length x y = r := ⟨_, rfl⟩
                    obtain ⟨p4, e4⟩ : ∃ r, at2 ms us.length x z = r := ⟨_, rfl⟩
                    obtain ⟨p5, e5⟩ : ∃ r, at2 js us.length p3 p4 = r := ⟨_, rfl⟩
                    obtain ⟨q1, f1⟩ : ∃ r, at2 ms us.length y z = r := ⟨_, rfl⟩
                    obtain ⟨q2, f2⟩ : ∃ r, at2 js us.length x q1 = r := ⟨_, rfl⟩
                    obtain ⟨q3, f3⟩ : ∃ r, at2 js us.length x y = r := ⟨_, rfl⟩
                    obtain ⟨q4, f4⟩ : ∃ r, at2 ms us.length q3 z = r := ⟨_, rfl⟩
                    have l1 : p1 < us.length := by rw [← e1]; exact hj hy hz
                    have l3 : p3 < us.length := by rw [← e3]; exact hm hx hy
                    have l4 : p4 < us.length := by rw [← e4]; exact hm hx hz
                    have m1 : q1 < us.length := by rw [← f1]; exact hm hy hz
                    have m3 : q3 < us.length := by rw [← f3]; exact hj hx hy
                    have hdis : disB js ms us.length x y z = decide (p2 = p5) := by unfold disB; rw [e1, e2, e3, e4, e5]
                    have hmod : modB js ms us.length x y z = (!hasB (wd us x) z || decide (q2 = q4)) := by unfold modB; rw [← hle x z hx hz, f1, f2, f3, f4]
                    have HD := hide hdis
                    have HM := hide hmod
                    have F1 := hide f1; have F2 := hide f2; have F3 := hide f3; have F4 := hide f4
                    have kk := hK.k
                    simp only [kvals] at kk
                    have d0 := cell_regrown (hK.l.cell (i := 0) rfl)
                    have d1 := cell_regrown (hK.l.cell (i := 1) rfl)
                    have d2 := cell_regrown (hK.l.cell (i := 2) rfl)
                    have d3 := cell_regrown (hK.l.cell (i := 3) rfl)
                    have d4 := cell_regrown (kk.cell (i := 0) rfl)
                    have c1 := cor wr hK.b y z p1 hy hz e1
                    have c2 := cand wr hK.b x p1 p2 hx l1 e2
                    have c3 := cand wr hK.b x y p3 hx hy e3
                    have c4 := cand wr hK.b x z p4 hx hz e4
                    have c5 := cor wr hK.b p3 p4 p5 l3 l4 e5
                    clear e1 e2 e3 e4 e5 f1 f2 f3 f4 hdis hmod
                    by_cases hp : p2 = p5
                    · have hne : ((p2 : Int) != (p5 : Int)) = false := by rw [bne_eq_false_iff_eq]; omega
                      have HDV : Hid (disB js ms us.length x y z = true) := by rw [HD.out, decide_eq_true hp]; rfl
                      clear hp
                      go_wp2
                      refine wp_region_quiet_below (by kernel_rfl) (by kernel_rfl) ?_
                      repeat (go_big_quiet_step (first | with_reducible exact c1 _ _ | with_reducible exact c2 _ _ | with_reducible exact c3 _ _ | with_reducible exact c4 _ _ | with_reducible exact c5 _ _))
                      refine wpQuiet_nil ?_
                      intro _ hw'
                      obtain ⟨⟨dq, osq⟩, hwE⟩ := hw'
                      subst hwE
                      obtain ⟨U, hEU⟩ : ∃ X, X = Go.Sort.grow (redrawn wr dq) osq := ⟨_, rfl⟩
                      have hU := hK.below (show Below wr.heap.size wr U by rw [hEU]; exact below_regrown _ _ _)
                      rw [← hEU]
                      clear hEU
                      clear d0 d1 d2 d3 d4 c1 c2 c3 c4 c5 kk
                      have d0 := cell_regrown (hU.l.cell (i := 0) rfl)
                      have d1 := cell_regrown (hU.l.cell (i := 1) rfl)
                      have d2 := cell_regrown (hU.l.cell (i := 2) rfl)
                      have d3 := cell_regrown (hU.l.cell (i := 3) rfl)
                      have d4 := cell_regrown (hU.o.cell (i := 0) rfl)
                      have d5 := cell_regrown (hU.o.cell (i := 1) rfl)
                      cases hbl : hasB (wd us x) z with
                      | false =>
                        have HMV : Hid (modB js ms us.length x y z = true) := by rw [HM.out, hbl]; rfl
                        have c1 := cbel U hU.b x z false hx hz hbl
                        clear hbl
                        go_wp2
                        refine wp_region_quiet_below (by kernel_rfl) (by kernel_rfl) ?_
                        repeat (go_big_quiet_step (first | with_reducible exact c1 _ _))
                        refine wpQuiet_nil ?_
                        intro _ hw'
                        obtain ⟨⟨dq, osq⟩, hwE⟩ := hw'
                        subst hwE
                        have hU2 := hU.below (below_regrown U dq osq)
                        go_wp2
                        exact ⟨⟨z + 1, by omega, by go_num, by rw [HZ.out, ks_same_t HDV.out HMV.out]; exact hU2⟩, by simp [intOf]; omega⟩
                      | true =>
                        have c1 := cbel U hU.b x z true hx hz hbl
                        have c2 := cand U hU.b y z q1 hy hz F1.out
                        have c3 := cor U hU.b x q1 q2 hx m1 F2.out
                        have c4 := cor U hU.b x y q3 hx hy F3.out
                        have c5 := cand U hU.b q3 z q4 m3 hz F4.out
                        by_cases hq : q2 = q4
                        · have HMV : Hid (modB js ms us.length x y z = true) := by rw [HM.out, hbl, decide_eq_true hq]; rfl
                          have hne : ((q2 : Int) != (q4 : Int)) = false := by rw [bne_eq_false_iff_eq]; omega
                          clear hbl hq
                          go_wp2
                          refine wp_region_quiet_below (by kernel_rfl) (by kernel_rfl) ?_
                          repeat (go_big_quiet_step (first | with_reducible exact c1 _ _ | with_reducible exact c2 _ _ | with_reducible exact c3 _ _ | with_reducible exact c4 _ _ | with_reducible exact c5 _ _))
                          refine wpQuiet_nil ?_
                          intro _ hw'
                          obtain ⟨⟨dq, osq⟩, hwE⟩ := hw'
                          subst hwE
                          have hU2 := hU.below (below_regrown U dq osq)
                          go_wp2
                          exact ⟨⟨z + 1, by omega, by go_num, by rw [HZ.out, ks_same_t HDV.out HMV.out]; exact hU2⟩, by simp [intOf]; omega⟩
                        · have HMV : Hid (modB js ms us.length x y z = false) := by rw [HM.out, hbl, decide_eq_false hq]; rfl
                          have hne : ((q2 : Int) != (q4 : Int)) = true := by rw [bne_iff_ne]; omega
                          clear hbl hq
                          go_wp2
                          refine wp_region_quiet_below (by kernel_rfl) (by kernel_rfl) ?_
                          repeat (go_big_quiet_step (first | with_reducible exact c1 _ _ | with_reducible exact c2 _ _ | with_reducible exact c3 _ _ | with_reducible exact c4 _ _ | with_reducible exact c5 _ _))
                          refine wpQuiet_nil ?_
                          intro _ hw'
                          obtain ⟨⟨dq, osq⟩, hwE⟩ := hw'
                          subst hwE
                          obtain ⟨U2, hEU⟩ : ∃ X, X = Go.Sort.grow (redrawn U dq) osq := ⟨_, rfl⟩
                          have hU2 := hU.below (show Below U.heap.size U U2 by rw [hEU]; exact below_regrown _ _ _)
                          rw [← hEU]
                          clear hEU
                          have k1 := hU2.k.cell (i := 1) rfl
                          have f1 := hU2.k.frozen 1
                          have lk := hU2.k.lt
                          go_wp2
                          exact ⟨⟨z + 1, by omega, by go_num, by rw [HZ.out, ks_same_f HDV.out HMV.out]; exact hU2.set 1 (.bool false) rfl⟩, by simp [intOf]; omega⟩
                    · have hne : ((p2 : Int) != (p5 : Int)) = true := by rw [bne_iff_ne]; omega
                      have HDV : Hid (disB js ms us.length x y z = false) := by rw [HD.out, decide_eq_false hp]; rfl
                      clear hp
                      cases d with
                      | false =>
                        go_wp2
                        refine wp_region_quiet_below (by kernel_rfl) (by kernel_rfl) ?_
                        repeat (go_big_quiet_step (first | with_reducible exact c1 _ _ | with_reducible exact c2 _ _ | with_reducible exact c3 _ _ | with_reducible exact c4 _ _ | with_reducible exact c5 _ _))
                        refine wpQuiet_nil ?_
                        intro _ hw'
                        obtain ⟨⟨dq, osq⟩, hwE⟩ := hw'
                        subst hwE
                        obtain ⟨U, hEU⟩ : ∃ X, X = Go.Sort.grow (redrawn wr dq) osq := ⟨_, rfl⟩
                        have hU := hK.below (show Below wr.heap.size wr U by rw [hEU]; exact below_regrown _ _ _)
                        rw [← hEU]
                        clear hEU
                        clear d0 d1 d2 d3 d4 c1 c2 c3 c4 c5 kk
                        have d0 := cell_regrown (hU.l.cell (i := 0) rfl)
                        have d1 := cell_regrown (hU.l.cell (i := 1) rfl)
                        have d2 := cell_regrown (hU.l.cell (i := 2) rfl)
                        have d3 := cell_regrown (hU.l.cell (i := 3) rfl)
                        have d4 := cell_regrown (hU.o.cell (i := 0) rfl)
                        have d5 := cell_regrown (hU.o.cell (i := 1) rfl)
                        cases hbl : hasB (wd us x) z with
                        | false =>
                          have HMV : Hid (modB js ms us.length x y z = true) := by rw [HM.out, hbl]; rfl
                          have c1 := cbel U hU.b x z false hx hz hbl
                          clear hbl
                          go_wp2
                          refine wp_region_quiet_below (by kernel_rfl) (by kernel_rfl) ?_
                          repeat (go_big_quiet_step (first | with_reducible exact c1 _ _))
                          refine wpQuiet_nil ?_
                          intro _ hw'
                          obtain ⟨⟨dq, osq⟩, hwE⟩ := hw'
                          subst hwE
                          have hU2 := hU.below (below_regrown U dq osq)
                          go_wp2
                          exact ⟨⟨z + 1, by omega, by go_num, by rw [HZ.out, ks_no_t HDV.out HMV.out]; exact hU2⟩, by simp [intOf]; omega⟩
                        | true =>
                          have c1 := cbel U hU.b x z true hx hz hbl
                          have c2 := cand U hU.b y z q1 hy hz F1.out
                          have c3 := cor U hU.b x q1 q2 hx m1 F2.out
                          have c4 := cor U hU.b x y q3 hx hy F3.out
                          have c5 := cand U hU.b q3 z q4 m3 hz F4.out
                          by_cases hq : q2 = q4
                          · have HMV : Hid (modB js ms us.length x y z = true) := by rw [HM.out, hbl, decide_eq_true hq]; rfl
                            have hne : ((q2 : Int) != (q4 : Int)) = false := by rw [bne_eq_false_iff_eq]; omega
                            clear hbl hq
                            go_wp2
                            refine wp_region_quiet_below (by kernel_rfl) (by kernel_rfl) ?_
                            repeat (go_big_quiet_step (first | with_reducible exact c1 _ _ | with_reducible exact c2 _ _ | with_reducible exact c3 _ _ | with_reducible exact c4 _ _ | with_reducible exact c5 _ _))
                            refine wpQuiet_nil ?_
                            intro _ hw'
                            obtain ⟨⟨dq, osq⟩, hwE⟩ := hw'
                            subst hwE
                            have hU2 := hU.below (below_regrown U dq osq)
                            go_wp2
                            exact ⟨⟨z + 1, by omega, by go_num, by rw [HZ.out, ks_no_t HDV.out HMV.out]; exact hU2⟩, by simp [intOf]; omega⟩
                          · have HMV : Hid (modB js ms us.length x y z = false) := by rw [HM.out, hbl, decide_eq_false hq]; rfl
                            have hne : ((q2 : Int) != (q4 : Int)) = true := by rw [bne_iff_ne]; omega
                            clear hbl hq
                            go_wp2
                            refine wp_region_quiet_below (by kernel_rfl) (by kernel_rfl) ?_
                            repeat (go_big_quiet_step (first | with_reducible exact c1 _ _ | with_reducible exact c2 _ _ | with_reducible exact c3 _ _ | with_reducible exact c4 _ _ | with_reducible exact c5 _ _))
                            refine wpQuiet_nil ?_
                            intro _ hw'
                            obtain ⟨⟨dq, osq⟩, hwE⟩ := hw'
                            subst hwE
                            obtain ⟨U2, hEU⟩ : ∃ X, X = Go.Sort.grow (redrawn U dq) osq := ⟨_, rfl⟩
                            have hU2 := hU.below (show Below U.heap.size U U2 by rw [hEU]; exact below_regrown _ _ _)
                            rw [← hEU]
                            clear hEU
                            have k1 := hU2.k.cell (i := 1) rfl
                            have f1 := hU2.k.frozen 1
                            have lk := hU2.k.lt
                            go_wp2
                            exact ⟨⟨z + 1, by omega, by go_num, by rw [HZ.out, ks_no_f HDV.out HMV.out]; exact hU2.set 1 (.bool false) rfl⟩, by simp [intOf]; omega⟩
                      | true =>
                        go_wp2
                        refine wp_region_quiet_below (by kernel_rfl) (by kernel_rfl) ?_
                        repeat (go_big_quiet_step (first | with_reducible exact c1 _ _ | with_reducible exact c2 _ _ | with_reducible exact c3 _ _ | with_reducible exact c4 _ _ | with_reducible exact c5 _ _))
                        refine wpQuiet_nil ?_
                        intro _ hw'
                        obtain ⟨⟨dq, osq⟩, hwE⟩ := hw'
                        subst hwE
                        obtain ⟨U, hEU⟩ : ∃ X, X = Go.Sort.grow (redrawn wr dq) osq := ⟨_, rfl⟩
                        have hU := hK.below (show Below wr.heap.size wr U by rw [hEU]; exact below_regrown _ _ _)
                        rw [← hEU]
                        clear hEU
                        have k0 := hU.k.cell (i := 0) rfl
                        have k3 := hU.k.cell (i := 3) rfl
                        have k4 := hU.k.cell (i := 4) rfl
                        have k5 := hU.k.cell (i := 5) rfl
                        have f0 := hU.k.frozen 0
                        have f3 := hU.k.frozen 3
                        have f4 := hU.k.frozen 4
                        have f5 := hU.k.frozen 5
                        have lk := hU.k.lt
                        have hX := (((hU.set 0 (.bool false) (s' := ⟨false, m, sa, sb, sc⟩) (cb' := cb) rfl).set 3 (.int .i64 (x : Nat)) (s' := ⟨false, m, x, sb, sc⟩) (cb' := cb) rfl).set 4 (.int .i64 (y : Nat)) (s' := ⟨false, m, x, y, sc⟩) (cb' := cb) rfl).set 5 (.int .i64 (z : Nat)) (s' := ⟨false, m, x, y, z⟩) (cb' := cb) rfl
                        go_wp2
                        clear k0 k3 k4 k5 f0 f3 f4 f5 lk hU
                        generalize (((U.setCell ⟨w.heap.size + 1 + 1 + 1, 0, none⟩ (.bool false)).setCell ⟨w.heap.size + 1 + 1 + 1, 3, none⟩ (.int .i64 (x : Nat))).setCell ⟨w.heap.size + 1 + 1 + 1, 4, none⟩ (.int .i64 (y : Nat))).setCell ⟨w.heap.size + 1 + 1 + 1, 5, none⟩ (.int .i64 (z : Nat)) = UU at *
                        obtain ⟨U, hUU⟩ : ∃ U, U = UU := ⟨_, rfl⟩
                        rw [← hUU] at hX ⊢
                        clear hUU UU
                        have hU := hX
                        clear d0 d1 d2 d3 d4 c1 c2 c3 c4 c5 kk
                        have d0 := cell_regrown (hU.l.cell (i := 0) rfl)
                        have d1 := cell_regrown (hU.l.cell (i := 1) rfl)
                        have d2 := cell_regrown (hU.l.cell (i := 2) rfl)
                        have d3 := cell_regrown (hU.l.cell (i := 3) rfl)
                        have d4 := cell_regrown (hU.o.cell (i := 0) rfl)
                        have d5 := cell_regrown (hU.o.cell (i := 1) rfl)
                        cases hbl : hasB (wd us x) z with
                        | false =>
                          have HMV : Hid (modB js ms us.length x y z = true) := by rw [HM.out, hbl]; rfl
                          have c1 := cbel U hU.b x z false hx hz hbl
                          clear hbl
                          go_wp2
                          refine wp_region_quiet_below (by kernel_rfl) (by kernel_rfl) ?_
                          repeat (go_big_quiet_step (first | with_reducible exact c1 _ _))
                          refine wpQuiet_nil ?_
                          intro _ hw'
                          obtain ⟨⟨dq, osq⟩, hwE⟩ := hw'
                          subst hwE
                          have hU2 := hU.below (below_regrown U dq osq)
                          go_wp2
                          exact ⟨⟨z + 1, by omega, by go_num, by rw [HZ.out, ks_new_t HDV.out HMV.out]; exact hU2⟩, by simp [intOf]; omega⟩
                        | true =>
                          have c1 := cbel U hU.b x z true hx hz hbl
                          have c2 := cand U hU.b y z q1 hy hz F1.out
                          have c3 := cor U hU.b x q1 q2 hx m1 F2.out
                          have c4 := cor U hU.b x y q3 hx hy F3.out
                          have c5 := cand U hU.b q3 z q4 m3 hz F4.out
                          by_cases hq : q2 = q4
                          · have HMV : Hid (modB js ms us.length x y z = true) := by rw [HM.out, hbl, decide_eq_true hq]; rfl
                            have hne : ((q2 : Int) != (q4 : Int)) = false := by rw [bne_eq_false_iff_eq]; omega
                            clear hbl hq
                            go_wp2
                            refine wp_region_quiet_below (by kernel_rfl) (by kernel_rfl) ?_
                            repeat (go_big_quiet_step (first | with_reducible exact c1 _ _ | with_reducible exact c2 _ _ | with_reducible exact c3 _ _ | with_reducible exact c4 _ _ | with_reducible exact c5 _ _))
                            refine wpQuiet_nil ?_
                            intro _ hw'
                            obtain ⟨⟨dq, osq⟩, hwE⟩ := hw'
                            subst hwE
                            have hU2 := hU.below (below_regrown U dq osq)
                            go_wp2
                            exact ⟨⟨z + 1, by omega, by go_num, by rw [HZ.out, ks_new_t HDV.out HMV.out]; exact hU2⟩, by simp [intOf]; omega⟩
                          · have HMV : Hid (modB js ms us.length x y z = false) := by rw [HM.out, hbl, decide_eq_false hq]; rfl
                            have hne : ((q2 : Int) != (q4 : Int)) = true := by rw [bne_iff_ne]; omega
                            clear hbl hq
                            go_wp2
                            refine wp_region_quiet_below (by kernel_rfl) (by kernel_rfl) ?_
                            repeat (go_big_quiet_step (first | with_reducible exact c1 _ _ | with_reducible exact c2 _ _ | with_reducible exact c3 _ _ | with_reducible exact c4 _ _ | with_reducible exact c5 _ _))
                            refine wpQuiet_nil ?_
                            intro _ hw'
                            obtain ⟨⟨dq, osq⟩, hwE⟩ := hw'
                            subst hwE
                            obtain ⟨U2, hEU⟩ : ∃ X, X = Go.Sort.grow (redrawn U dq) osq := ⟨_, rfl⟩
                            have hU2 := hU.below (show Below U.heap.size U U2 by rw [hEU]; exact below_regrown _ _ _)
                            rw [← hEU]
                            clear hEU
                            have k1 := hU2.k.cell (i := 1) rfl
                            have f1 := hU2.k.frozen 1
                            have lk := hU2.k.lt
                            go_wp2
                            exact ⟨⟨z + 1, by omega, by go_num, by rw [HZ.out, ks_new_f HDV.out HMV.out]; exact hU2.set 1 (.bool false) rfl⟩, by simp [intOf]; omega⟩
                  · obtain rfl : z = us.length := by omega
                    have HY := hide (upto3_y us.length x y)
                    go_wp2
                    exact ⟨⟨y + 1, by omega, by go_num, by rw [HT.out], by rw [HY.out]; exact hK⟩, by simp [intOf]; omega⟩
            · have t1 : ((p : Int) == (tp : Int)) = false := by rw [beq_eq_false_iff_ne]; omega
              have HT : Hid (anyTo js ms us.length bt tp x (y + 1) = false) := by rw [HA.out, HQ.out, decide_eq_false h1]; rfl
              clear HA h1
              go_wp2
              refine wp_region_quiet_below (by kernel_rfl) (by kernel_rfl) ?_
              repeat (go_big_quiet_step (first | with_reducible exact c1 _ _ | with_reducible exact c2 _ _))
              refine wpQuiet_nil ?_
              intro _ hw'
              obtain ⟨⟨dq, osq⟩, hwE⟩ := hw'
              subst hwE
              obtain ⟨W1, hEW⟩ : ∃ X, X = Go.Sort.grow (redrawn wr dq) osq := ⟨_, rfl⟩
              have hK1 := hK.below (show Below wr.heap.size wr W1 by rw [hEW]; exact below_regrown _ _ _)
              rw [← hEW]
              clear hEW e0 e1 e2 e3 c1 c2 hK HQ
              go_wp2
              go_loopw [10] (fun i wr => ∃ z : Nat, z ≤ us.length ∧ i = .int .i64 z ∧ KBox w a cap us aj cj am cm bt tp cb (kindOf js ms us.length (upto3 us.length x y z)) wr) (fun i _ => us.length - (intOf i).toNat)
              case atStart => exact ⟨0, Nat.zero_le _, rfl, hK1⟩
              case round =>
                clear hK1
                obtain ⟨z, hz', rfl, hK⟩ := hrel
                by_cases hz : z < us.length
                · have HZ := hide (upto3_z js ms us.length x y z)
                  generalize kindOf js ms us.length (upto3 us.length x y z) = st at *
                  obtain ⟨d, m, sa, sb, sc⟩ := st
                  obtain ⟨p1, e1⟩ : ∃ r, at2 js us.length y z = r := ⟨_, rfl⟩
                  obtain ⟨p2, e2⟩ : ∃ r, at2 ms us.length x p1 = r := ⟨_, rfl⟩
                  obtain ⟨p3, e3⟩ : ∃ r, at2 ms us.length x y = r := ⟨_, rfl⟩
                  obtain ⟨p4, e4⟩ : ∃ r, at2 ms us.length x z = r := ⟨_, rfl⟩
                  obtain ⟨p5, e5⟩ : ∃ r, at2 js us.length p3 p4 = r := ⟨_, rfl⟩
                  obtain ⟨q1, f1⟩ : ∃ r, at2 ms us.length y z = r := ⟨_, rfl⟩
                  obtain ⟨q2, f2⟩ : ∃ r, at2 js us.length x q1 = r := ⟨_, rfl⟩
                  obtain ⟨q3, f3⟩ : ∃ r, at2 js us.length x y = r := ⟨_, rfl⟩
                  obtain ⟨q4, f4⟩ : ∃ r, at2 ms us.length q3 z = r := ⟨_, rfl⟩
                  have l1 : p1 < us.length := by rw [← e1]; exact hj hy hz
                  have l3 : p3 < us.length := by rw [← e3]; exact hm hx hy
                  have l4 : p4 < us.length := by rw [← e4]; exact hm hx hz
                  have m1 : q1 < us.length := by rw [← f1]; exact hm hy hz
                  have m3 : q3 < us.length := by rw [← f3]; exact hj hx hy
                  have hdis : disB js ms us.length x y z = decide (p2 = p5) := by unfold disB; rw [e1, e2, e3, e4, e5]
                  have hmod : modB js ms us.length x y z = (!hasB (wd us x) z || decide (q2 = q4)) := by unfold modB; rw [← hle x z hx hz, f1, f2, f3, f4]
                  have HD := hide hdis
                  have HM := hide hmod
                  have F1 := hide f1; have F2 := hide f2; have F3 := hide f3; have F4 := hide f4
                  have kk := hK.k
                  simp only [kvals] at kk
                  have d0 := cell_regrown (hK.l.cell (i := 0) rfl)
                  have d1 := cell_regrown (hK.l.cell (i := 1) rfl)
                  have d2 := cell_regrown (hK.l.cell (i := 2) rfl)
                  have d3 := cell_regrown (hK.l.cell (i := 3) rfl)
                  have d4 := cell_regrown (kk.cell (i := 0) rfl)
                  have c1 := cor wr hK.b y z p1 hy hz e1
                  have c2 := cand wr hK.b x p1 p2 hx l1 e2
                  have c3 := cand wr hK.b x y p3 hx hy e3
                  have c4 := cand wr hK.b x z p4 hx hz e4
                  have c5 := cor wr hK.b p3 p4 p5 l3 l4 e5
                  clear e1 e2 e3 e4 e5 f1 f2 f3 f4 hdis hmod
                  by_cases hp : p2 = p5
                  · have hne : ((p2 : Int) != (p5 : Int)) = false := by rw [bne_eq_false_iff_eq]; omega
                    have HDV : Hid (disB js ms us.length x y z = true) := by rw [HD.out, decide_eq_true hp]; rfl
                    clear hp
                    go_wp2
                    refine wp_region_quiet_below (by kernel_rfl) (by kernel_rfl) ?_
                    repeat (go_big_quiet_step (first | with_reducible exact c1 _ _ | with_reducible exact c2 _ _ | with_reducible exact c3 _ _ | with_reducible exact c4 _ _ | with_reducible exact c5 _ _))
                    refine wpQuiet_nil ?_
                    intro _ hw'
                    obtain ⟨⟨dq, osq⟩, hwE⟩ := hw'
                    subst hwE
                    obtain ⟨U, hEU⟩ : ∃ X, X = Go.Sort.grow (redrawn wr dq) osq := ⟨_, rfl⟩
                    have hU := hK.below (show Below wr.heap.size wr U by rw [hEU]; exact below_regrown _ _ _)
                    rw [← hEU]
                    clear hEU
                    clear d0 d1 d2 d3 d4 c1 c2 c3 c4 c5 kk
                    have d0 := cell_regrown (hU.l.cell (i := 0) rfl)
                    have d1 := cell_regrown (hU.l.cell (i := 1) rfl)
                    have d2 := cell_regrown (hU.l.cell (i := 2) rfl)
                    have d3 := cell_regrown (hU.l.cell (i := 3) rfl)
                    have d4 := cell_regrown (hU.o.cell (i := 0) rfl)
                    have d5 := cell_regrown (hU.o.cell (i := 1) rfl)
                    cases hbl : hasB (wd us x) z with
                    | false =>
                      have HMV : Hid (modB js ms us.length x y z = true) := by rw [HM.out, hbl]; rfl
                      have c1 := cbel U hU.b x z false hx hz hbl
                      clear hbl
                      go_wp2
                      refine wp_region_quiet_below (by kernel_rfl) (by kernel_rfl) ?_
                      repeat (go_big_quiet_step (first | with_reducible exact c1 _ _))
                      refine wpQuiet_nil ?_
                      intro _ hw'
                      obtain ⟨⟨dq, osq⟩, hwE⟩ := hw'
                      subst hwE
                      have hU2 := hU.below (below_regrown U dq osq)
                      go_wp2
                      exact ⟨⟨z + 1, by omega, by go_num, by rw [HZ.out, ks_same_t HDV.out HMV.out]; exact hU2⟩, by simp [intOf]; omega⟩
                    | true =>
                      have c1 := cbel U hU.b x z true hx hz hbl
                      have c2 := cand U hU.b y z q1 hy hz F1.out
                      have c3 := cor U hU.b x q1 q2 hx m1 F2.out
                      have c4 := cor U hU.b x y q3 hx hy F3.out
                      have c5 := cand U hU.b q3 z q4 m3 hz F4.out
                      by_cases hq : q2 = q4
                      · have HMV : Hid (modB js ms us.length x y z = true) := by rw [HM.out, hbl, decide_eq_true hq]; rfl
                        have hne : ((q2 : Int) != (q4 : Int)) = false := by rw [bne_eq_false_iff_eq]; omega
                        clear hbl hq
                        go_wp2
                        refine wp_region_quiet_below (by kernel_rfl) (by kernel_rfl) ?_
                        repeat (go_big_quiet_step (first | with_reducible exact c1 _ _ | with_reducible exact c2 _ _ | with_reducible exact c3 _ _ | with_reducible exact c4 _ _ | with_reducible exact c5 _ _))
                        refine wpQuiet_nil ?_
                        intro _ hw'
                        obtain ⟨⟨dq, osq⟩, hwE⟩ := hw'
                        subst hwE
                        have hU2 := hU.below (below_regrown U dq osq)
                        go_wp2
                        exact ⟨⟨z + 1, by omega, by go_num, by rw [HZ.out, ks_same_t HDV.out HMV.out]; exact hU2⟩, by simp [intOf]; omega⟩
                      · have HMV : Hid (modB js ms us.length x y z = false) := by rw [HM.out, hbl, decide_eq_false hq]; rfl
                        have hne : ((q2 : Int) != (q4 : Int)) = true := by rw [bne_iff_ne]; omega
                        clear hbl hq
                        go_wp2
                        refine wp_region_quiet_below (by kernel_rfl) (by kernel_rfl) ?_
                        repeat (go_big_quiet_step (first | with_reducible exact c1 _ _ | with_reducible exact c2 _ _ | with_reducible exact c3 _ _ | with_reducible exact c4 _ _ | with_reducible exact c5 _ _))
                        refine wpQuiet_nil ?_
                        intro _ hw'
                        obtain ⟨⟨dq, osq⟩, hwE⟩ := hw'
                        subst hwE
                        obtain ⟨U2, hEU⟩ : ∃ X, X = Go.Sort.grow (redrawn U dq) osq := ⟨_, rfl⟩
                        have hU2 := hU.below (show Below U.heap.size U U2 by rw [hEU]; exact below_regrown _ _ _)
                        rw [← hEU]
                        clear hEU
                        have k1 := hU2.k.cell (i := 1) rfl
                        have f1 := hU2.k.frozen 1
                        have lk := hU2.k.lt
                        go_wp2
                        exact ⟨⟨z + 1, by omega, by go_num, by rw [HZ.out, ks_same_f HDV.out HMV.out]; exact hU2.set 1 (.bool false) rfl⟩, by simp [intOf]; omega⟩
                  · have hne : ((p2 : Int) != (p5 : Int)) = true := by rw [bne_iff_ne]; omega
                    have HDV : Hid (disB js ms us.length x y z = false) := by rw [HD.out, decide_eq_false hp]; rfl
                    clear hp
                    cases d with
                    | false =>
                      go_wp2
                      refine wp_region_quiet_below (by kernel_rfl) (by kernel_rfl) ?_
                      repeat (go_big_quiet_step (first | with_reducible exact c1 _ _ | with_reducible exact c2 _ _ | with_reducible exact c3 _ _ | with_reducible exact c4 _ _ | with_reducible exact c5 _ _))
                      refine wpQuiet_nil ?_
                      intro _ hw'
                      obtain ⟨⟨dq, osq⟩, hwE⟩ := hw'
                      subst hwE
                      obtain ⟨U, hEU⟩ : ∃ X, X = Go.Sort.grow (redrawn wr dq) osq := ⟨_, rfl⟩
                      have hU := hK.below (show Below wr.heap.size wr U by rw [hEU]; exact below_regrown _ _ _)
                      rw [← hEU]
                      clear hEU
                      clear d0 d1 d2 d3 d4 c1 c2 c3 c4 c5 kk
                      have d0 := cell_regrown (hU.l.cell (i := 0) rfl)
                      have d1 := cell_regrown (hU.l.cell (i := 1) rfl)
                      have d2 := cell_regrown (hU.l.cell (i := 2) rfl)
                      have d3 := cell_regrown (hU.l.cell (i := 3) rfl)
                      have d4 := cell_regrown (hU.o.cell (i := 0) rfl)
                      have d5 := cell_regrown (hU.o.cell (i := 1) rfl)
                      cases hbl : hasB (wd us x) z with
                      | false =>
                        have HMV : Hid (modB js ms us.length x y z = true) := by rw [HM.out, hbl]; rfl
                        have c1 := cbel U hU.b x z false hx hz hbl
                        clear hbl
                        go_wp2
                        refine wp_region_quiet_below (by kernel_rfl) (by kernel_rfl) ?_
                        repeat (go_big_quiet_step (first | with_reducible exact c1 _ _))
                        refine wpQuiet_nil ?_
                        intro _ hw'
                        obtain ⟨⟨dq, osq⟩, hwE⟩ := hw'
                        subst hwE
                        have hU2 := hU.below (below_regrown U dq osq)
                        go_wp2
                        exact ⟨⟨z + 1, by omega, by go_num, by rw [HZ.out, ks_no_t HDV.out HMV.out]; exact hU2⟩, by simp [intOf]; omega⟩
                      | true =>
                        have c1 := cbel U hU.b x z true hx hz hbl
                        have c2 := cand U hU.b y z q1 hy hz F1.out
                        have c3 := cor U hU.b x q1 q2 hx m1 F2.out
                        have c4 := cor U hU.b x y q3 hx hy F3.out
                        have c5 := cand U hU.b q3 z q4 m3 hz F4.out
                        by_cases hq : q2 = q4
                        · have HMV : Hid (modB js ms us.length x y z = true) := by rw [HM.out, hbl, decide_eq_true hq]; rfl
                          have hne : ((q2 : Int) != (q4 : Int)) = false := by rw [bne_eq_false_iff_eq]; omega
                          clear hbl hq
                          go_wp2
                          refine wp_region_quiet_below (by kernel_rfl) (by kernel_rfl) ?_
                          repeat (go_big_quiet_step (first | with_reducible exact c1 _ _ | with_reducible exact c2 _ _ | with_reducible exact c3 _ _ | with_reducible exact c4 _ _ | with_reducible exact c5 _ _))
                          refine wpQuiet_nil ?_
                          intro _ hw'
                          obtain ⟨⟨dq, osq⟩, hwE⟩ := hw'
                          subst hwE
                          have hU2 := hU.below (below_regrown U dq osq)
                          go_wp2
                          exact ⟨⟨z + 1, by omega, by go_num, by rw [HZ.out, ks_no_t HDV.out HMV.out]; exact hU2⟩, by simp [intOf]; omega⟩
                        · have HMV : Hid (modB js ms us.length x y z = false) := by rw [HM.out, hbl, decide_eq_false hq]; rfl
                          have hne : ((q2 : Int) != (q4 : Int)) = true := by rw [bne_iff_ne]; omega
                          clear hbl hq
                          go_wp2
                          refine wp_region_quiet_below (by kernel_rfl) (by kernel_rfl) ?_
                          repeat (go_big_quiet_step (first | with_reducible exact c1 _ _ | with_reducible exact c2 _ _ | with_reducible exact c3 _ _ | with_reducible exact c4 _ _ | with_reducible exact c5 _ _))
                          refine wpQuiet_nil ?_
                          intro _ hw'
                          obtain ⟨⟨dq, osq⟩, hwE⟩ := hw'
                          subst hwE
                          obtain ⟨U2, hEU⟩ : ∃ X, X = Go.Sort.grow (redrawn U dq) osq := ⟨_, rfl⟩
                          have hU2 := hU.below (show Below U.heap.size U U2 by rw [hEU]; exact below_regrown _ _ _)
                          rw [← hEU]
                          clear hEU
                          have k1 := hU2.k.cell (i := 1) rfl
                          have f1 := hU2.k.frozen 1
                          have lk := hU2.k.lt
                          go_wp2
                          exact ⟨⟨z + 1, by omega, by go_num, by rw [HZ.out, ks_no_f HDV.out HMV.out]; exact hU2.set 1 (.bool false) rfl⟩, by simp [intOf]; omega⟩
                    | true =>
                      go_wp2
                      refine wp_region_quiet_below (by kernel_rfl) (by kernel_rfl) ?_
                      repeat (go_big_quiet_step (first | with_reducible exact c1 _ _ | with_reducible exact c2 _ _ | with_reducible exact c3 _ _ | with_reducible exact c4 _ _ | with_reducible exact c5 _ _))
                      refine wpQuiet_nil ?_
                      intro _ hw'
                      obtain ⟨⟨dq, osq⟩, hwE⟩ := hw'
                      subst hwE
                      obtain ⟨U, hEU⟩ : ∃ X, X = Go.Sort.grow (redrawn wr dq) osq := ⟨_, rfl⟩
                      have hU := hK.below (show Below wr.heap.size wr U by rw [hEU]; exact below_regrown _ _ _)
                      rw [← hEU]
                      clear hEU
                      have k0 := hU.k.cell (i := 0) rfl
                      have k3 := hU.k.cell (i := 3) rfl
                      have k4 := hU.k.cell (i := 4) rfl
                      have k5 := hU.k.cell (i := 5) rfl
                      have f0 := hU.k.frozen 0
                      have f3 := hU.k.frozen 3
                      have f4 := hU.k.frozen 4
                      have f5 := hU.k.frozen 5
                      have lk := hU.k.lt
                      have hX := (((hU.set 0 (.bool false) (s' := ⟨false, m, sa, sb, sc⟩) (cb' := cb) rfl).set 3 (.int .i64 (x : Nat)) (s' := ⟨false, m, x, sb, sc⟩) (cb' := cb) rfl).set 4 (.int .i64 (y : Nat)) (s' := ⟨false, m, x, y, sc⟩) (cb' := cb) rfl).set 5 (.int .i64 (z : Nat)) (s' := ⟨false, m, x, y, z⟩) (cb' := cb) rfl
                      go_wp2
                      clear k0 k3 k4 k5 f0 f3 f4 f5 lk hU
                      generalize (((U.setCell ⟨w.heap.size + 1 + 1 + 1, 0, none⟩ (.bool false)).setCell ⟨w.heap.size + 1 + 1 + 1, 3, none⟩ (.int .i64 (x : Nat))).setCell ⟨w.heap.size + 1 + 1 + 1, 4, none⟩ (.int .i64 (y : Nat))).setCell ⟨w.heap.size + 1 + 1 + 1, 5, none⟩ (.int .i64 (z : Nat)) = UU at *
                      obtain ⟨U, hUU⟩ : ∃ U, U = UU := ⟨_, rfl⟩
                      rw [← hUU] at hX ⊢
                      clear hUU UU
                      have hU := hX
                      clear d0 d1 d2 d3 d4 c1 c2 c3 c4 c5 kk
                      have d0 := cell_regrown (hU.l.cell (i := 0) rfl)
                      have d1 := cell_regrown (hU.l.cell (i := 1) rfl)
                      have d2 := cell_regrown (hU.l.cell (i := 2) rfl)
                      have d3 := cell_regrown (hU.l.cell (i := 3) rfl)
                      have d4 := cell_regrown (hU.o.cell (i := 0) rfl)
                      have d5 := cell_regrown (hU.o.cell (i := 1) rfl)
                      cases hbl : hasB (wd us x) z with
                      | false =>
                        have HMV : Hid (modB js ms us.length x y z = true) := by rw [HM.out, hbl]; rfl
                        have c1 := cbel U hU.b x z false hx hz hbl
                        clear hbl
                        go_wp2
                        refine wp_region_quiet_below (by kernel_rfl) (by kernel_rfl) ?_
                        repeat (go_big_quiet_step (first | with_reducible exact c1 _ _))
                        refine wpQuiet_nil ?_
                        intro _ hw'
                        obtain ⟨⟨dq, osq⟩, hwE⟩ := hw'
                        subst hwE
                        have hU2 := hU.below (below_regrown U dq osq)
                        go_wp2
                        exact ⟨⟨z + 1, by omega, by go_num, by rw [HZ.out, ks_new_t HDV.out HMV.out]; exact hU2⟩, by simp [intOf]; omega⟩
                      | true =>
                        have c1 := cbel U hU.b x z true hx hz hbl
                        have c2 := cand U hU.b y z q1 hy hz F1.out
                        have c3 := cor U hU.b x q1 q2 hx m1 F2.out
                        have c4 := cor U hU.b x y q3 hx hy F3.out
                        have c5 := cand U hU.b q3 z q4 m3 hz F4.out
                        by_cases hq : q2 = q4
                        · have HMV : Hid (modB js ms us.length x y z = true) := by rw [HM.out, hbl, decide_eq_true hq]; rfl
                          have hne : ((q2 : Int) != (q4 : Int)) = false := by rw [bne_eq_false_iff_eq]; omega
                          clear hbl hq
                          go_wp2
                          refine wp_region_quiet_below (by kernel_rfl) (by kernel_rfl) ?_
                          repeat (go_big_quiet_step (first | with_reducible exact c1 _ _ | with_reducible exact c2 _ _ | with_reducible exact c3 _ _ | with_reducible exact c4 _ _ | with_reducible exact c5 _ _))
                          refine wpQuiet_nil ?_
                          intro _ hw'
                          obtain ⟨⟨dq, osq⟩, hwE⟩ := hw'
                          subst hwE
                          have hU2 := hU.below (below_regrown U dq osq)
                          go_wp2
                          exact ⟨⟨z + 1, by omega, by go_num, by rw [HZ.out, ks_new_t HDV.out HMV.out]; exact hU2⟩, by simp [intOf]; omega⟩
                        · have HMV : Hid (modB js ms us.length x y z = false) := by rw [HM.out, hbl, decide_eq_false hq]; rfl
                          have hne : ((q2 : Int) != (q4 : Int)) = true := by rw [bne_iff_ne]; omega
                          clear hbl hq
                          go_wp2
                          refine wp_region_quiet_below (by kernel_rfl) (by kernel_rfl) ?_
                          repeat (go_big_quiet_step (first | with_reducible exact c1 _ _ | with_reducible exact c2 _ _ | with_reducible exact c3 _ _ | with_reducible exact c4 _ _ | with_reducible exact c5 _ _))
                          refine wpQuiet_nil ?_
                          intro _ hw'
                          obtain ⟨⟨dq, osq⟩, hwE⟩ := hw'
                          subst hwE
                          obtain ⟨U2, hEU⟩ : ∃ X, X = Go.Sort.grow (redrawn U dq) osq := ⟨_, rfl⟩
                          have hU2 := hU.below (show Below U.heap.size U U2 by rw [hEU]; exact below_regrown _ _ _)
                          rw [← hEU]
                          clear hEU
                          have k1 := hU2.k.cell (i := 1) rfl
                          have f1 := hU2.k.frozen 1
                          have lk := hU2.k.lt
                          go_wp2
                          exact ⟨⟨z + 1, by omega, by go_num, by rw [HZ.out, ks_new_f HDV.out HMV.out]; exact hU2.set 1 (.bool false) rfl⟩, by simp [intOf]; omega⟩
                · obtain rfl : z = us.length := by omega
                  have HY := hide (upto3_y us.length x y)
                  go_wp2
                  exact ⟨⟨y + 1, by omega, by go_num, by rw [HT.out], by rw [HY.out]; exact hK⟩, by simp [intOf]; omega⟩
        · obtain rfl : y = us.length := by omega
          have HX := hide (upto3_x us.length x)
          cases hany : anyTo js ms us.length bt tp x us.length with
          | true =>
            have HT : Hid (complTo js ms us.length bt tp (x + 1) = cb) := by rw [HC.out, hany, Bool.and_true]; rfl
            clear hany
            go_wp2
            exact ⟨⟨x + 1, by omega, by go_num, by rw [HT.out, HX.out]; exact hK⟩, by simp [intOf]; omega⟩
          | false =>
            have HT : Hid (complTo js ms us.length bt tp (x + 1) = false) := by rw [HC.out, hany, Bool.and_false]; rfl
            have k2 := hK.k.cell (i := 2) rfl
            have f2 := hK.k.frozen 2
            have lk := hK.k.lt
            clear hany
            go_wp2
            exact ⟨⟨x + 1, by omega, by go_num, by rw [HT.out, HX.out]; exact hK.set 2 (.bool false) rfl⟩, by simp [intOf]; omega⟩
    · obtain rfl : x = us.length := by omega
      rw [upto3_end] at hK
      obtain ⟨cb, hcb⟩ : ∃ cb, complTo js ms us.length bt tp us.length = cb := ⟨_, rfl⟩
      obtain ⟨st, hst⟩ : ∃ st, kindOf js ms us.length (triA us.length us.length) = st := ⟨_, rfl⟩
      rw [hcb, hst] at hK
      have HCB := hide hcb
      have HST := hide hst
      clear hcb hst
      obtain ⟨d, m, sa, sb, sc⟩ := st
      have hk := hK.k
      simp only [kvals] at hk
      have k0 := hk.cell (i := 0) rfl
      have k1 := hk.cell (i := 1) rfl
      have k2 := hk.cell (i := 2) rfl
      have k3 := hk.cell (i := 3) rfl
      have k4 := hk.cell (i := 4) rfl
      have k5 := hk.cell (i := 5) rfl
      have hz := hK.z
      have y0 := hz.cell (i := 0) rfl
      have y1 := hz.cell (i := 1) rfl
      have y2 := hz.cell (i := 2) rfl
      have y3 := hz.cell (i := 3) rfl
      have y4 := hz.cell (i := 4) rfl
      have y5 := hz.cell (i := 5) rfl
      have g0 := hz.frozen 0
      have g1 := hz.frozen 1
      have g2 := hz.frozen 2
      have g3 := hz.frozen 3
      have g4 := hz.frozen 4
      have g5 := hz.frozen 5
      have q2 := row_set6 hz (.bool d) (.bool m) (.bool cb) (.int .i64 (sa : Nat)) (.int .i64 (sb : Nat)) (.int .i64 (sc : Nat))
      have v0 := q2.cell (i := 0) rfl
      have v1 := q2.cell (i := 1) rfl
      have v2 := q2.cell (i := 2) rfl
      have v3 := q2.cell (i := 3) rfl
      have v4 := q2.cell (i := 4) rfl
      have v5 := q2.cell (i := 5) rfl
      go_wp2
      refine bodyPost_ret (v := .agg #[.bool d, .bool m, .bool cb, .int .i64 (sa : Nat), .int .i64 (sb : Nat), .int .i64 (sc : Nat)]) (by simp [results, Tryd.results11, go_sem, v0, v1, v2, v3, v4, v5]) rfl ⟨by rw [HCB.out, HST.out]; rfl, ?_⟩
      exact below_set6 hK.b (by omega) _ _ _ _ _ _
end Go.Proofs.YtobjgfjikmgdeaaDoor
