/- Joined texts of the proof. -/
import Derived.Test.YtbamocalhojmeaaJ25
import Derived.Shelf.SlGeneric
import Derived.Shelf.SlSortCmp.Whole1
import Derived.Test.YtbamocalhojmeaaProg
import Derived.Deep.QuietTactic
import Derived.BigQuiet
import Derived.Test.YtbamocalhojmeaaJ19

/- norm.gathered: the walk. -/
namespace Go.Proofs.Ytbamocalhojmeaa
open Go.RowKit
set_option linter.unusedVariables false
attribute [local go_sem ↓] Go.wp_at_zero Go.wp_at_succ

set_option maxRecDepth 100000 in
set_option maxHeartbeats 6400000 in
theorem gathered_any (ev : Nat → Ev) (m g : Nat) (w : World) (hA : At 3 w g (cellsN m (lev ev))) (hm : m ≤ 1024) :
    Calls Try.prog 40 #[.slice (some ⟨g, 0, none⟩) m m] w fun r w' => ∃ b V, r = .returned (.map (some b)) ∧ Grp (b + 1) w' b (grpL ev m) V ∧ w.heap.size ≤ b ∧ b + 1 ≤ w'.heap.size ∧ Below w.heap.size w w' := by
  have hmm := @run_makeMap Try.prog
  have HA := hidU hA
  obtain ⟨b, hb⟩ : ∃ b, Hid (b = w.heap.size) := ⟨_, (rfl : _ = w.heap.size)⟩
  have H0 : Hid (Grp (b + 1) (w.alloc (.map #[] 0)) b (grpL ev 0) [] ∧ b + 1 ≤ (w.alloc (.map #[] 0)).heap.size ∧ Below w.heap.size w (w.alloc (.map #[] 0))) := by
    refine ⟨⟨⟨#[], 0, by rw [hb.out]; exact World.alloc_heap_new w _, fun i e h => by simp at h, rfl⟩, by rw [grpL_length]; rfl, fun i v zs h => by simp at h, fun i j u v _ h => by simp at h, by omega⟩, by rw [hb.out]; simp, (Below.refl _ w).alloc (Nat.le_refl _) _⟩
  clear hA
  go_enter Try.func40, Try.ntmps40
  go_wp2_with fail
  rw [← hb.out]
  obtain ⟨W0, hW0⟩ : ∃ W, Hid (W = w.alloc (.map #[] 0)) := ⟨_, (rfl : _ = _)⟩
  rw [← hW0.out] at H0 ⊢
  clear hW0 hmm
  go_loopw [9] (fun s wr => ∃ j : Nat, s = .int .i64 (j : Int) ∧ j ≤ m ∧ Hid (∃ V, Grp (b + 1) wr b (grpL ev j) V ∧ b + 1 ≤ wr.heap.size ∧ Below w.heap.size w wr)) (fun s _ => m - (intOf s).toNat)
  case atStart => exact ⟨0, rfl, Nat.zero_le _, [], H0.out⟩
  case round =>
    obtain ⟨j, rfl, hj, hG⟩ := hrel
    clear H0
    obtain ⟨V, hG⟩ := hG.out
    by_cases hjm : j < m
    · obtain ⟨l, hl⟩ : ∃ l, Hid (l = lev ev j) := ⟨_, (rfl : _ = lev ev j)⟩
      have hcl : wr.cell? ⟨g, j, none⟩ = some (.int .i64 (l : Nat)) := by
        rw [hl.out, (HA.out.below hG.2.2).cell, cellsN_at hjm]
      have j1 : (j : Int) < (m : Int) := by omega
      have hlk := lev_kN ev j
      rw [← hl.out] at hlk
      have HG := hidU hG
      by_cases hnew : l = kN ev j
      · have HNEW := hidU hnew
        clear hnew
        have hlu := hG.1.missing (k := l) (by rw [grpL_length, HNEW.out]; exact Nat.le_refl _)
        have HUP : Hid (∀ (v' : Value) (w1 : World), RwZ (b + 1) w1 v' ([] ++ [(j : Int)]) → (wr.alloc (.cells #[.int .i64 (j : Int)] 3)).grownBy w1 none → (v'.ownBlock = none ∨ v'.ownBlock = some (wr.alloc (.cells #[.int .i64 (j : Int)] 3)).heap.size) → ∃ W2, (Instr.mapUpdate 66 (.map (some b)) (.int .i64 (l : Int)) v').run Try.prog w1 = .ok () W2 ∧ Hid (∃ V, Grp (b + 1) W2 b (grpL ev (j + 1)) V ∧ b + 1 ≤ W2.heap.size ∧ Below w.heap.size w W2)) := fun v' w1 h1 h2 h3 => by
          have hg1 : wr.grownBy w1 none := (World.grownBy_alloc _ _ _).trans h2
          obtain ⟨W2, q1, q2, q3⟩ := HG.out.1.push (k := l) (by rw [grpL_length]; exact HNEW.out) hg1 h1 (fun gg e => by
            rcases h3 with h3 | h3
            · rw [e] at h3
              cases h3
            · rw [e] at h3
              cases h3
              simp)
          refine ⟨W2, q1, _, by rw [grpL_new ev (by rw [← hl.out]; exact HNEW.out)]; exact q2, Nat.le_trans HG.out.2.1 (Nat.le_trans hg1.size q3.size), ?_⟩
          have hb2 := (HG.out.2.2.grown hg1 HG.out.2.2.size (fun k e => by cases e))
          exact hb2.grown q3 hb2.size (fun k e => by cases e; rw [hb.out]; exact Nat.le_refl _)
        have hB := HG.out.2.1
        clear hG
        go_wp2_with (at_builtin; refine wpList_app_z rfl (.tmp 18) (.tmp 20) rfl (b + 1) _ [] wr.heap.size (j : Int) rfl rfl (.inl ⟨rfl, rfl⟩) (by simp) (by simp) (by simp; omega) ?_; intro v' w1 h1 h2 h3; obtain ⟨W2, hup, hE⟩ := HUP.out v' w1 h1 h2 h3; clear h1 h2 h3)
        go_roundw
        case rel => exact ⟨j + 1, by go_num, by omega, hE.out⟩
        case measure => simp [intOf]; omega
      · have hlt : l < kN ev j := by omega
        obtain ⟨v, hv⟩ : ∃ v, V[l]? = some v := ⟨V[l]'(by rw [hG.1.len, grpL_length]; exact hlt), by rw [List.getElem?_eq_getElem]⟩
        have hlu := hG.1.lookup hv
        have hrow := hG.1.row l v _ hv (grpL_at ev hlt)
        have HRW : Hid (RwZ (b + 1) (wr.alloc (.cells #[.int .i64 (j : Int)] 3)) v (natI (gLv ev j l))) := hrow.kept fun gg hgg => by
          obtain ⟨g2, h4, h5, h6⟩ := rwz_block hrow
          rw [hgg] at h4
          cases h4
          exact Below.heap_alloc _ _ _ h6
        have hlen : (natI (gLv ev j l)).length ≤ 1048576 := by rw [natI_length]; have := gLv_length ev j l; omega
        have HUP : Hid (∀ (v' : Value) (w1 : World), RwZ (b + 1) w1 v' (natI (gLv ev j l) ++ [(j : Int)]) → (wr.alloc (.cells #[.int .i64 (j : Int)] 3)).grownBy w1 v.ownBlock → (v'.ownBlock = v.ownBlock ∨ v'.ownBlock = some (wr.alloc (.cells #[.int .i64 (j : Int)] 3)).heap.size) → ∃ W2, (Instr.mapUpdate 66 (.map (some b)) (.int .i64 (l : Int)) v').run Try.prog w1 = .ok () W2 ∧ Hid (∃ V, Grp (b + 1) W2 b (grpL ev (j + 1)) V ∧ b + 1 ≤ W2.heap.size ∧ Below w.heap.size w W2)) := fun v' w1 h1 h2 h3 => by
          have hg1 : wr.grownBy w1 v.ownBlock := (World.grownBy_alloc _ _ _).trans h2
          obtain ⟨W2, q1, q2, q3⟩ := HG.out.1.put hv hg1 h1 (by
            rcases h3 with h3 | h3
            · exact .inl h3
            · exact .inr fun gg e => by
                rw [e] at h3
                cases h3
                simp)
          refine ⟨W2, q1, _, by rw [grpL_old ev (by rw [← hl.out]; exact hlt), ← hl.out]; exact q2, Nat.le_trans HG.out.2.1 (Nat.le_trans hg1.size q3.size), ?_⟩
          have hb2 := (HG.out.2.2.grown hg1 HG.out.2.2.size (fun k e => by
            obtain ⟨g2, h4, h5, h6⟩ := rwz_block hrow
            rw [h4] at e
            cases e
            have := hb.out
            omega))
          exact hb2.grown q3 hb2.size (fun k e => by cases e; rw [hb.out]; exact Nat.le_refl _)
        have hB := HG.out.2.1
        obtain ⟨gv, cv, rfl, hgv⟩ : ∃ gv cv, v = .slice (some ⟨gv, 0, none⟩) (natI (gLv ev j l)).length cv ∧ True := by
          obtain ⟨gv, cs, rfl, _⟩ := hrow
          exact ⟨gv, cs.length, rfl, trivial⟩
        obtain ⟨Z, hZ⟩ : ∃ Z, Hid (Z = natI (gLv ev j l)) := ⟨_, (rfl : _ = _)⟩
        rw [← hZ.out] at HRW HUP hlen hlu
        clear hG hrow hv
        go_wp2_with (at_builtin; refine wpList_app_z rfl (.tmp 18) (.tmp 20) rfl (b + 1) _ Z wr.heap.size (j : Int) rfl rfl (.inr HRW.out) (by simp) hlen (by simp; omega) ?_; intro v' w1 h1 h2 h3; obtain ⟨W2, hup, hE⟩ := HUP.out v' w1 h1 h2 h3; clear h1 h2 h3)
        go_roundw
        case rel => exact ⟨j + 1, by go_num, by omega, hE.out⟩
        case measure => simp [intOf]; omega
    · have e : m = j := by omega
      subst e
      have HE : Hid (Grp (b + 1) wr b (grpL ev m) V ∧ w.heap.size ≤ b ∧ b + 1 ≤ wr.heap.size ∧ Below w.heap.size w wr) := ⟨hG.1, by rw [hb.out]; exact Nat.le_refl _, hG.2.1, hG.2.2⟩
      clear hG
      go_wp2_with fail
      go_ret
      exact ⟨b, V, rfl, HE.out⟩
end Go.Proofs.Ytbamocalhojmeaa

/- slices.SortFunc at this dump: laid by the kit's own command, in its plain mode. -/
namespace Go.Proofs
open Go.Shelf
def Try.sortInt_ren : Go.Shelf.Ren := ⟨fun | 6 => 42 | 15 => 60 | 14 => 59 | 28 => 78 | 29 => 79 | 20 => 70 | 21 => 71 | 22 => 72 | 23 => 73 | 24 => 74 | 25 => 75 | 26 => 76 | 27 => 77 | 46 => 83 | 47 => 84 | 48 => 85 | 49 => 86 | 50 => 87 | 57 => 88 | n => n, fun | 22 => 23 | 24 => 3 | 25 => 55 | 3 => 3 | 39 => 91 | 0 => 0 | 53 => 115 | 55 => 117 | 4 => 4 | 46 => 108 | 45 => 107 | 50 => 112 | 5 => 5 | 9 => 9 | 66 => 121 | 70 => 125 | 76 => 127 | 77 => 128 | n => n, fun | n => n⟩
theorem Try.sortInt : Go.Proofs.SlLaysF.n6 Try.prog Try.sortInt_ren := {
  mixed := by kernel_rfl
  f6 := ⟨Try.f42.name, by decide, Try.func42.trans (congrArg some (by kernel_rfl))⟩
  f14 := ⟨Try.f59.name, by decide, Try.func59.trans (congrArg some (by kernel_rfl))⟩
  f15 := Try.func60.trans (congrArg some (by kernel_rfl))
  f20 := ⟨Try.f70.name, by decide, Try.func70.trans (congrArg some (by kernel_rfl))⟩
  f21 := ⟨Try.f71.name, by decide, Try.func71.trans (congrArg some (by kernel_rfl))⟩
  f22 := ⟨Try.f72.name, by decide, Try.func72.trans (congrArg some (by kernel_rfl))⟩
  f23 := ⟨Try.f73.name, by decide, Try.func73.trans (congrArg some (by kernel_rfl))⟩
  f24 := ⟨Try.f74.name, by decide, Try.func74.trans (congrArg some (by kernel_rfl))⟩
  f25 := ⟨Try.f75.name, by decide, Try.func75.trans (congrArg some (by kernel_rfl))⟩
  f26 := ⟨Try.f76.name, by decide, Try.func76.trans (congrArg some (by kernel_rfl))⟩
  f27 := ⟨Try.f77.name, by decide, Try.func77.trans (congrArg some (by kernel_rfl))⟩
  f28 := Try.func78.trans (congrArg some (by kernel_rfl))
  f29 := Try.func79.trans (congrArg some (by kernel_rfl))
  f46 := ⟨Try.f83.name, by decide, Try.func83.trans (congrArg some (by kernel_rfl))⟩
  f47 := Try.func84.trans (congrArg some (by kernel_rfl))
  f48 := Try.func85.trans (congrArg some (by kernel_rfl))
  f49 := ⟨Try.f86.name, by decide, Try.func86.trans (congrArg some (by kernel_rfl))⟩
  f50 := ⟨Try.f87.name, by decide, Try.func87.trans (congrArg some (by kernel_rfl))⟩
  f57 := ⟨Try.f88.name, by decide, Try.func88.trans (congrArg some (by kernel_rfl))⟩
  t0 := Try.underlying0
  a0 := Try.isAgg0
  z0 := Try.sizeOf0
  v0 := Try.zeroValue0
  t3 := Try.underlying3
  a3 := Try.isAgg3
  z3 := Try.sizeOf3
  v3 := Try.zeroValue3
  t4 := Try.underlying4
  a4 := Try.isAgg4
  z4 := Try.sizeOf4
  v4 := Try.zeroValue4
  t5 := Try.underlying5
  a5 := Try.isAgg5
  z5 := Try.sizeOf5
  v5 := Try.zeroValue5
  t9 := Try.underlying9
  a9 := Try.isAgg9
  z9 := Try.sizeOf9
  v9 := Try.zeroValue9
  t22 := Try.underlying23
  a22 := Try.isAgg23
  z22 := Try.sizeOf23
  v22 := Try.zeroValue23
  a24 := Try.isAgg3
  z24 := Try.sizeOf3
  t25 := Try.underlying55
  a25 := Try.isAgg55
  z25 := Try.sizeOf55
  v25 := Try.zeroValue55
  t39 := Try.underlying91
  a39 := Try.isAgg91
  z39 := Try.sizeOf91
  v39 := Try.zeroValue91
  t45 := Try.underlying107
  a45 := Try.isAgg107
  z45 := Try.sizeOf107
  v45 := Try.zeroValue107
  t46 := Try.underlying108
  a46 := Try.isAgg108
  z46 := Try.sizeOf108
  v46 := Try.zeroValue108
  t50 := Try.underlying112
  a50 := Try.isAgg112
  z50 := Try.sizeOf112
  v50 := Try.zeroValue112
  t53 := Try.underlying115
  a53 := Try.isAgg115
  z53 := Try.sizeOf115
  v53 := Try.zeroValue115
  t55 := Try.underlying117
  a55 := Try.isAgg117
  z55 := Try.sizeOf117
  v55 := Try.zeroValue117
  t66 := Try.underlying121
  a66 := Try.isAgg121
  z66 := Try.sizeOf121
  v66 := Try.zeroValue121
  t70 := Try.underlying125
  a70 := Try.isAgg125
  z70 := Try.sizeOf125
  v70 := Try.zeroValue125
  t76 := Try.underlying127
  a76 := Try.isAgg127
  z76 := Try.sizeOf127
  v76 := Try.zeroValue127
  t77 := Try.underlying128
  a77 := Try.isAgg128
  z77 := Try.sizeOf128
  v77 := Try.zeroValue128 }
end Go.Proofs

/- norm.Levels: a level's row, sorted. -/
namespace Go.Proofs.Ytbamocalhojmeaa
open Go.RowKit Go.Shelf
set_option linter.unusedVariables false
attribute [local go_sem ↓] Go.wp_at_zero Go.wp_at_succ

def cmp3 (x y : Int) : Int := if x < y then -1 else if y < x then 1 else 0
set_option maxRecDepth 100000 in
theorem isNaN_any (x : Int) (w : World) : Calls Try.prog 58 #[.int .i64 x] w fun r w' => r = .returned (.bool false) ∧ w' = w := by
  go_enter Try.func58, Try.ntmps58
  go_wp2
  go_ret
  exact ⟨rfl, rfl⟩
set_option maxRecDepth 100000 in
theorem compare_any (x y : Int) (w : World) : Calls Try.prog 39 #[.int .i64 x, .int .i64 y] w fun r w' => r = .returned (.int .i64 (cmp3 x y)) ∧ w' = w := by
  have H1 := hidU (isNaN_any x)
  have H2 := hidU (isNaN_any y)
  obtain ⟨R, hR⟩ : ∃ R, Hid (R = cmp3 x y) := ⟨_, (rfl : _ = cmp3 x y)⟩
  rw [← hR.out]
  by_cases h1 : x < y
  · have HE : Hid (R = -1) := by rw [hR.out]; unfold cmp3; exact if_pos h1
    go_enter Try.func39, Try.ntmps39
    go_wp2_with (go_at_call 58; refine (H1.out _).mono ?_; rintro e w' ⟨rfl, rfl⟩; refine Hid.out ?_)
    refine hidU ?_
    go_wp2_with (go_at_call 58; refine (H2.out _).mono ?_; rintro e w' ⟨rfl, rfl⟩)
    go_ret
    exact ⟨by rw [HE.out]; rfl, rfl⟩
  · by_cases h2 : y < x
    · have HE : Hid (R = 1) := by rw [hR.out]; unfold cmp3; rw [if_neg h1]; exact if_pos h2
      go_enter Try.func39, Try.ntmps39
      go_wp2_with (go_at_call 58; refine (H1.out _).mono ?_; rintro e w' ⟨rfl, rfl⟩; refine Hid.out ?_)
      refine hidU ?_
      go_wp2_with (go_at_call 58; refine (H2.out _).mono ?_; rintro e w' ⟨rfl, rfl⟩)
      go_ret
      exact ⟨by rw [HE.out]; rfl, rfl⟩
    · have HE : Hid (R = 0) := by rw [hR.out]; unfold cmp3; rw [if_neg h1]; exact if_neg h2
      go_enter Try.func39, Try.ntmps39
      go_wp2_with (go_at_call 58; refine (H1.out _).mono ?_; rintro e w' ⟨rfl, rfl⟩; refine Hid.out ?_)
      refine hidU ?_
      go_wp2_with (go_at_call 58; refine (H2.out _).mono ?_; rintro e w' ⟨rfl, rfl⟩)
      go_ret
      exact ⟨by rw [HE.out]; rfl, rfl⟩
set_option maxRecDepth 100000 in
set_option maxHeartbeats 1600000 in
theorem byThread_any (W : World) (bl A O m c i j : Nat) (t1 t2 : Int) (hb : W.cell? ⟨bl, 0, none⟩ = some (.slice (some ⟨A, O, none⟩) m c)) (hi : i < m) (hj : j < m)
    (e1 : W.cell? ⟨A, O + i * 3, none⟩ = some (.int .i64 t1)) (e2 : W.cell? ⟨A, O + j * 3, none⟩ = some (.int .i64 t2)) :
    Calls Try.prog 38 #[.int .i64 (i : Int), .int .i64 (j : Int), .pointer (some ⟨bl, 0, none⟩)] W fun r W' => r = .returned (.int .i64 (cmp3 t1 t2)) ∧ ∃ q, W' = W.drewN q := by
  have i1 : (i : Int) < (m : Int) := by omega
  have i2 : (j : Int) < (m : Int) := by omega
  have HC := hidU (compare_any t1 t2)
  obtain ⟨R, hR⟩ : ∃ R, Hid (R = cmp3 t1 t2) := ⟨_, (rfl : _ = cmp3 t1 t2)⟩
  rw [← hR.out] at HC ⊢
  go_enter Try.func38, Try.ntmps38
  go_wp2_with fail
  go_quiet ((go_at_call 39; exact Calls.quiet_of_same (HC.out _)))
  go_wp2_with fail
  go_ret
  exact ⟨rfl, nq, rfl⟩

/-- The numbers of a trace's events. -/
abbrev NoA (m : Nat) := { i : Nat // i < m }
def encN {m : Nat} (x : NoA m) : Value := .int .i64 (x.1 : Int)
section
variable {m : Nat} [Inhabited (NoA m)] {W : World} {g n : Nat} {d : Array (NoA m)} {os : Array Obj}
theorem sort_grown : W.grownBy (sortWorld encN W g 0 n d os) (some g) := by
  refine ⟨rfl, rfl, rfl, ?_, fun k hk hne => ?_⟩
  · unfold sortWorld Sort.grow Sort.putRow Sort.mapBlock
    simp
  · unfold sortWorld Sort.grow Sort.putRow Sort.mapBlock
    rw [Array.getElem?_append_left (by simpa using hk), Array.getElem?_modify, if_neg (fun e => hne (by rw [e]))]
    rfl
theorem sort_at {cs : List Value} (hA : At 3 W g cs) (hd : d.size ≤ cs.length) : At 3 (sortWorld encN W g 0 n d os) g (d.toList.map encN ++ cs.drop d.size) := by
  unfold At sortWorld Sort.grow Sort.putRow Sort.mapBlock
  rw [Array.getElem?_append_left (by simpa using hA.lt), Array.getElem?_modify, if_pos rfl]
  show Option.map _ W.heap[g]? = _
  rw [show W.heap[g]? = _ from hA]
  simp only [Option.map_some, Sort.onCells]
  congr 2
  apply Array.toList_inj.1
  apply List.ext_getElem?
  intro i
  simp only [Sort.putCells, Array.toList_mapIdx, List.getElem?_mapIdx]
  rcases Nat.lt_or_ge i d.size with hi | hi
  · rw [List.getElem?_append_left (by simpa using hi), List.getElem?_eq_getElem (show i < cs.length by omega)]
    simp [hi]
  · rw [List.getElem?_append_right (by simpa using hi)]
    simp only [List.length_map, Array.length_toList, List.getElem?_drop]
    rw [show d.size + (i - d.size) = i by omega]
    cases hc : cs[i]? with
    | none => simp
    | some x =>
      simp
      omega
end
theorem cmp3_swo {m : Nat} (k : NoA m → Int) : Sort.SWO (ltOf fun x y => cmp3 (k x) (k y)) := by
  have e : ∀ x y, ltOf (fun x y => cmp3 (k x) (k y)) x y = decide (k x < k y) := fun x y => by
    unfold ltOf cmp3
    by_cases h1 : k x < k y
    · simp [h1]
    · by_cases h2 : k y < k x <;> simp [h1, h2]
  exact ⟨fun x => by rw [e]; simp, fun x y z h1 h2 => by rw [e] at *; simp at *; omega, fun x y z h1 h2 => by rw [e] at *; simp at *; omega⟩
theorem ltOf_cmp3 {m : Nat} (k : NoA m → Int) (x y : NoA m) : ltOf (fun x y => cmp3 (k x) (k y)) x y = decide (k x < k y) := by
  unfold ltOf cmp3
  by_cases h1 : k x < k y
  · simp [h1]
  · by_cases h2 : k y < k x <;> simp [h1, h2]

theorem sortFunc_any (es : List Ev) (B : Nat) (W : World) (v : Value) (N : List Nat) (bl : Nat) (a : Option Addr) (c : Nat) (hR : RwZ B W v (natI N)) (hN : ∀ x ∈ N, x < es.length) (h0 : 0 < es.length) (hl : Boxed W bl 22 (.slice a es.length c)) (hE : RowEv W a es)
    (hbl : v.ownBlock ≠ some bl) (hA : ∀ G O, a = some ⟨G, O, none⟩ → v.ownBlock ≠ some G) (hlen : N.length ≤ 1048576) :
    Calls Try.prog 42 #[v, .func (.func 38) #[] #[.pointer (some ⟨bl, 0, none⟩)]] W fun r W' => r = .returned (.tuple #[]) ∧ ∃ N', N'.Perm N ∧ (∀ (i j x y : Nat), i < j → N'[i]? = some x → N'[j]? = some y → ¬ thK es y < thK es x) ∧ RwZ B W' v (natI N') ∧ W.grownBy W' v.ownBlock := by
  letI : Inhabited (NoA es.length) := ⟨⟨0, h0⟩⟩
  obtain ⟨g, cs, rfl, hB, hAt, hall, hle, hmax, htk⟩ := hR
  obtain ⟨d, hd⟩ : ∃ d : Array (NoA es.length), d.toList.map (·.1) = N := ⟨(N.pmap (fun x h => (⟨x, h⟩ : NoA es.length)) hN).toArray, by simp [List.map_pmap]⟩
  have hds : d.size = N.length := by rw [← hd]; simp
  have hdn : d.toList.map encN = (natI N).map I64 := by
    rw [← hd]
    simp [natI, encN, I64]
  have hH : Sort.Holds encN W g 0 d := fun j hj => by
    refine ⟨?_, ?_⟩
    · rw [Nat.zero_add, hAt.cell]
      have h1 : (cs.take (natI N).length)[j]? = some (encN d[j]!) := by
        rw [htk, ← hdn, List.getElem?_map]
        simp [hj]
      rw [List.getElem?_take_of_lt (by rw [natI_length, ← hds]; exact hj)] at h1
      exact h1
    · rw [Nat.zero_add]
      exact hAt.frozen j
  have eg : ∀ args w, (callFunc 38 args).run Try.prog w = .ok (.enter 38 args) w := enters_of Try.func38 (by kernel_rfl) rfl
  have hcmp : CmpReads Try.prog 38 #[.pointer (some ⟨bl, 0, none⟩)] encN (fun x y : NoA es.length => cmp3 (thK es x.1) (thK es y.1)) g 0 d.size W := fun n os dk hdk x y => by
    have hg := sort_grown (W := W) (g := g) (n := n) (d := dk) (os := os)
    have hbox : Boxed (sortWorld encN W g 0 n dk os) bl 22 (.slice a es.length c) := (hg.block bl hl.lt (fun e => hbl (by simp [Value.ownBlock, ← e]))).trans hl
    have hrow : ∀ (k : Nat) (e : Ev), es[k]? = some e → ∃ G O, a = some ⟨G, O, none⟩ ∧ (sortWorld encN W g 0 n dk os).cell? ⟨G, O + k * 3, none⟩ = some (.int .i64 e.th) := fun k e he => by
      obtain ⟨G, O, h1, h2⟩ := hE.at k e he
      have h3 := (range_cells h2).1
      refine ⟨G, O, h1, ?_⟩
      exact hg.cell h3 (fun q => hA G O h1 (by simp [Value.ownBlock, ← q]))
    obtain ⟨G, O, q1, q2⟩ := hrow x.1 _ (evAt_get x.2)
    obtain ⟨G', O', q3, q4⟩ := hrow y.1 _ (evAt_get y.2)
    rw [q1] at q3
    cases q3
    have hc := hbox.cell
    rw [q1] at hc
    exact byThread_any _ bl G O es.length c x.1 y.1 _ _ hc x.2 y.2 q2 q4
  have hcon := Any.slices_SortFunc Try.sortInt encN (fun _ => rfl) (fun x y : NoA es.length => cmp3 (thK es x.1) (thK es y.1)) (cmp3_swo fun x => thK es x.1) 38 #[.pointer (some ⟨bl, 0, none⟩)] g 0 cs.length d W eg hcmp.lays hH hAt.lt (by omega)
  change Calls Try.prog 42 _ _ _ at hcon
  rw [natI_length, ← hds]
  refine hcon.mono ?_
  rintro r W' ⟨rfl, d', n, os, hp, hs, rfl⟩
  have hsz := hp.1
  refine ⟨rfl, d'.toList.map (·.1), ?_, fun i j x y hij hx hy => ?_, ⟨g, d'.toList.map encN ++ cs.drop d'.size, ?_, hB, sort_at hAt (by rw [hsz, hds, ← natI_length]; exact hle), ?_, ?_, ?_, ?_⟩, sort_grown⟩
  · have := hp.2.2
    rw [show (d'.extract 0 d.size) = d' by rw [← hsz]; simp, show (d.extract 0 d.size) = d by simp] at this
    rw [← hd]
    exact this.map _
  · rw [List.getElem?_map] at hx hy
    obtain ⟨x', hx', rfl⟩ := Option.map_eq_some_iff.1 hx
    obtain ⟨y', hy', rfl⟩ := Option.map_eq_some_iff.1 hy
    have hjl : j < d'.size := by
      have := (List.getElem?_eq_some_iff.1 hy').1
      simpa using this
    have := hs i j (Nat.zero_le _) hij (by rw [← hsz]; exact hjl)
    rw [ltOf_cmp3] at this
    have ex : d'[i]! = x' := by
      have h7 : d'[i]? = some x' := by simpa using hx'
      obtain ⟨h8, h9⟩ := Array.getElem?_eq_some_iff.1 h7
      rw [getElem!_pos d' i h8, h9]
    have ey : d'[j]! = y' := by
      have h7 : d'[j]? = some y' := by simpa using hy'
      obtain ⟨h8, h9⟩ := Array.getElem?_eq_some_iff.1 h7
      rw [getElem!_pos d' j h8, h9]
    rw [ex, ey] at this
    simpa using this
  · have h1 : (natI (d'.toList.map (·.1))).length = d.size := by rw [natI_length]; simp [hsz]
    have h2 : (d'.toList.map encN ++ cs.drop d'.size).length = cs.length := by
      simp
      rw [natI_length] at hle
      omega
    rw [h1, h2]
  · intro u hu
    rcases List.mem_append.1 hu with h1 | h1
    · obtain ⟨x, _, rfl⟩ := List.mem_map.1 h1
      exact ⟨_, rfl⟩
    · exact hall u (List.mem_of_mem_drop h1)
  · rw [natI_length]
    simp
  · simp
    rw [natI_length] at hle
    omega
  · rw [natI_length, List.take_append_of_le_length (by simp), List.take_of_length_le (by simp)]
    simp [natI, encN, I64]
end Go.Proofs.Ytbamocalhojmeaa

/- Levels, one behind the other, are an order behind what happens ahead (mathematics). -/
namespace Go.Proofs.Ytbamocalhojmeaa
open Go.RowKit
set_option linter.unusedVariables false

theorem lin_of_pairs {ev : Nat → Ev} {out : List Nat} {m : Nat} (hp : out.Pairwise fun a b => a ≠ b ∧ ¬ HB ev b a) (hlt : ∀ x ∈ out, x < m) (hall : ∀ i, i < m → i ∈ out) : Lin ev out m := by
  rw [List.pairwise_iff_getElem] at hp
  have notin : ∀ (p x : Nat), out[p]? = some x → x ∉ out.take p := by
    intro p x hx hm
    obtain ⟨q, hq, he⟩ := List.getElem_of_mem hm
    obtain ⟨hpl, hpe⟩ := List.getElem?_eq_some_iff.1 hx
    rw [List.length_take] at hq
    rw [List.getElem_take] at he
    exact (hp q p (by omega) hpl (by omega)).1 (by rw [he, hpe])
  have hc : ∀ p, p ≤ out.length → countN (memB (out.take p)) m = p := by
    intro p
    induction p with
    | zero => intro _; rw [List.take_zero]; exact countN_zero m fun i _ => by simp [memB]
    | succ p ih =>
      intro hl
      have hx := List.getElem?_eq_getElem (show p < out.length by omega)
      rw [List.take_add_one, hx]
      show countN (memB (out.take p ++ [out[p]])) m = p + 1
      rw [count_snoc (hlt _ (List.mem_of_getElem? hx)) (by simpa [memB] using notin p _ hx), ih (by omega)]
  have hlen : out.length = m := by
    have h1 := hc out.length (Nat.le_refl _)
    rw [List.take_length, countN_all m fun i hi => by simpa [memB] using hall i hi] at h1
    exact h1.symm
  refine ⟨hlen, hlt, fun p x hx => mayE_iff.2 ⟨notin p x hx, fun i hi => ?_⟩⟩
  obtain ⟨hpl, hpe⟩ := List.getElem?_eq_some_iff.1 hx
  have hxm := hlt x (List.mem_of_getElem? hx)
  obtain ⟨q, hq, he⟩ := List.getElem_of_mem (hall i (by have := hi.lt; omega))
  rcases Nat.lt_trichotomy q p with h | h | h
  · exact List.mem_of_getElem? (i := q) (by rw [List.getElem?_take_of_lt h, List.getElem?_eq_getElem hq, he])
  · subst h
    have := hi.lt
    omega
  · have := (hp p q hpl hq h).2
    rw [he, hpe] at this
    exact absurd hi this
theorem le_lvTo {f : Nat → Nat} {ev : Nat → Ev} {j : Nat} : ∀ k i, i < k → hbB ev j i = true → f i + 1 ≤ lvTo f ev j k
  | 0, i, h, _ => by omega
  | k + 1, i, h, hb => by
    simp only [lvTo]
    rcases Nat.lt_or_ge i k with h1 | h1
    · have := le_lvTo (f := f) (ev := ev) (j := j) k i h1 hb
      split <;> omega
    · obtain rfl : i = k := by omega
      rw [if_pos hb]
      omega
theorem lev_lt {ev : Nat → Ev} {i j : Nat} (h : HB ev i j) : lev ev i < lev ev j := by
  rw [lev_eq ev j]
  exact le_lvTo j i h.lt ((hbB_iff ev j i).2 h)
theorem mem_lvRow {ev : Nat → Ev} {k t j x : Nat} : x ∈ lvRow ev k t j ↔ x < j ∧ lev ev x = k ∧ (ev x).th = (t : Int) := by
  simp [lvRow]
theorem mem_lvRows {ev : Nat → Ev} {m k n x : Nat} : x ∈ lvRows ev m k n ↔ x < m ∧ lev ev x = k ∧ ∃ t, t < n ∧ (ev x).th = (t : Int) := by
  unfold lvRows
  simp only [List.mem_flatMap, List.mem_range, mem_lvRow]
  constructor
  · rintro ⟨t, h1, h2, h3, h4⟩
    exact ⟨h2, h3, t, h1, h4⟩
  · rintro ⟨h2, h3, t, h1, h4⟩
    exact ⟨t, h1, h2, h3, h4⟩
theorem pairs_lvRow (ev : Nat → Ev) (k t j : Nat) : (lvRow ev k t j).Pairwise fun a b => a ≠ b ∧ ¬ HB ev b a := by
  unfold lvRow
  refine List.Pairwise.filter _ (List.Pairwise.imp ?_ List.pairwise_lt_range)
  intro a b h
  exact ⟨by omega, fun h2 => by have := h2.lt; omega⟩
theorem pairs_lvRows (ev : Nat → Ev) (m k : Nat) : ∀ t, (lvRows ev m k t).Pairwise fun a b => a ≠ b ∧ ¬ HB ev b a
  | 0 => by simp [lvRows]
  | t + 1 => by
    rw [lvRows_succ, List.pairwise_append]
    refine ⟨pairs_lvRows ev m k t, pairs_lvRow ev k t m, fun a ha b hb => ?_⟩
    obtain ⟨h1, h2, t', h3, h4⟩ := mem_lvRows.1 ha
    obtain ⟨h5, h6, h7⟩ := mem_lvRow.1 hb
    refine ⟨?_, fun h => ?_⟩
    · rintro rfl
      omega
    · have := lev_lt h
      omega
theorem mem_levels {ev : Nat → Ev} {m n x : Nat} : ∀ {k}, x ∈ (levelsL ev m n k).flatten ↔ x < m ∧ lev ev x < k ∧ ∃ t, t < n ∧ (ev x).th = (t : Int)
  | 0 => by simp [levelsL]
  | k + 1 => by
    rw [levelsL_succ, List.flatten_append, List.mem_append, mem_levels (k := k)]
    simp only [List.flatten_cons, List.flatten_nil, List.append_nil, mem_lvRows]
    constructor
    · rintro (⟨h1, h2, h3⟩ | ⟨h1, h2, h3⟩)
      · exact ⟨h1, by omega, h3⟩
      · exact ⟨h1, by omega, h3⟩
    · rintro ⟨h1, h2, h3⟩
      rcases Nat.lt_or_ge (lev ev x) k with h | h
      · exact .inl ⟨h1, h, h3⟩
      · exact .inr ⟨h1, by omega, h3⟩
theorem pairs_levels (ev : Nat → Ev) (m n : Nat) : ∀ k, ((levelsL ev m n k).flatten).Pairwise fun a b => a ≠ b ∧ ¬ HB ev b a
  | 0 => by simp [levelsL]
  | k + 1 => by
    rw [levelsL_succ, List.flatten_append, List.pairwise_append]
    refine ⟨pairs_levels ev m n k, by simpa using pairs_lvRows ev m k n, fun a ha b hb => ?_⟩
    obtain ⟨h1, h2, h3⟩ := mem_levels.1 ha
    simp only [List.flatten_cons, List.flatten_nil, List.append_nil, mem_lvRows] at hb
    obtain ⟨h5, h6, h7⟩ := hb
    refine ⟨?_, fun h => ?_⟩
    · rintro rfl
      omega
    · have := lev_lt h
      omega
theorem lev_most {ev : Nat → Ev} : ∀ {m x : Nat}, x < m → (lev ev x : Int) ≤ mostTo ev m
  | 0, x, h => by omega
  | m + 1, x, h => by
    simp only [mostTo]
    rcases Nat.lt_or_ge x m with h1 | h1
    · have := lev_most (ev := ev) h1
      omega
    · obtain rfl : x = m := by omega
      omega
/-- Levels, one behind the other. -/
theorem lin_levels {ev : Nat → Ev} {m n : Nat} (hth : ∀ i, i < m → 0 ≤ (ev i).th ∧ (ev i).th < (n : Int)) : Lin ev (levelsE ev m n).flatten m := by
  refine lin_of_pairs (pairs_levels ev m n _) (fun x hx => (mem_levels.1 hx).1) fun i hi => ?_
  refine mem_levels.2 ⟨hi, ?_, (ev i).th.toNat, ?_, ?_⟩
  · have := lev_most (ev := ev) hi
    omega
  · have := hth i hi
    omega
  · have := hth i hi
    omega
end Go.Proofs.Ytbamocalhojmeaa
