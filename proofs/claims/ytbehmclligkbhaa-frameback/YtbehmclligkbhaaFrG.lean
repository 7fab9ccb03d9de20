/- run: the frames of records, one behind the other. -/
import Derived.Test.YtbehmclligkbhaaFrF
import Derived.OwnWalk
namespace Go.Proofs.Ytbehmclligkbhaa
open Go.RowKit
set_option linter.unusedVariables false

def runOk (xs : List BT) : Bool := decide (xs.length ≤ 20) && xs.all fun t => decide (t.bs.length ≤ 300)
/-- Where the frames of the first records begin. -/
def ats (l : List (List UInt8)) (k : Nat) : List Int := (List.range k).map fun j => ((flatF (l.take j)).length : Int)
theorem ats_snoc (l : List (List UInt8)) (k : Nat) : ats l (k + 1) = ats l k ++ [((flatF (l.take k)).length : Int)] := by simp [ats, List.range_succ]
theorem ats_len (l : List (List UInt8)) (k : Nat) : (ats l k).length = k := by simp [ats]
theorem flatF_snoc (l : List (List UInt8)) (i : Nat) (r : List UInt8) (h : l[i]? = some r) : flatF (l.take (i + 1)) = flatF (l.take i) ++ frameL r := by
  rw [List.take_add_one, h]; simp [flatF]
theorem flatF_le (l : List (List UInt8)) (h : ∀ r ∈ l, r.length ≤ 300) : (flatF l).length ≤ 312 * l.length := by
  induction l with
  | nil => simp [flatF]
  | cons r l ih =>
    have := ih fun x hx => h x (List.mem_cons_of_mem _ hx)
    have := h r List.mem_cons_self
    have e : (flatF (r :: l)).length = r.length + 12 + (flatF l).length := by simp [flatF, frameL_len]
    rw [e, List.length_cons]; omega
theorem row_newI (w : World) (z : Int) : RowX eI (w.alloc (.cells #[.int .i64 z] 3)) (some ⟨w.heap.size, 0, none⟩) [z] := by
  refine .inr ⟨_, 0, rfl, fun j v hj => ?_⟩
  have e : eI.flat [z] = [.int .i64 z] := rfl
  rw [e] at hj
  unfold World.cell?
  rw [_root_.Go.heap_alloc_new]
  match j, hj with
  | 0, hj => simpa using hj
theorem own_ne {α β : Type} {e : El α} {e' : El β} {base base' : Nat} {w : World} {v v' : Value} {xs : List α} {ys : List β} (h : OwnX e base w v xs) (h' : OwnX e' base' w v' ys) (hE : e.E ≠ e'.E) : ∀ k, v.ownBlock = some k → v'.ownBlock ≠ some k := by
  intro k hk hk'
  obtain ⟨_, _, cs, hA⟩ := h.block k hk
  obtain ⟨_, _, cs', hA'⟩ := h'.block k hk'
  exact hA.ne hA' hE rfl
/-- One row stands while another grows. -/
theorem OwnX.grown {α β : Type} {e : El α} {e' : El β} {base base' : Nat} {w w' : World} {v v' : Value} {xs : List α} {ys : List β} (h : OwnX e base w v xs) (h' : OwnX e' base' w v' ys) (hE : e.E ≠ e'.E) (hg : w.grownBy w' v'.ownBlock) : OwnX e base w' v xs :=
  h.same fun k hk => (Chg.of_grown (K := fun k => v'.ownBlock = some k) hg fun _ q => q).block k (h.block k hk).2.1 fun q => own_ne h h' hE k hk q
set_option maxRecDepth 100000 in
set_option maxHeartbeats 12800000 in
theorem run_any (Fa : Face) (a : Option Addr) (n c : Nat) (xs : List BT) (w : World) (hL : LB w a xs) (hn : n = xs.length) (hc : n ≤ c) (hl : n ≤ 9223372036854775807) :
    Calls Try.prog 24 #[.slice a n c] w fun r w' => Below w.heap.size w w' ∧ (runOk xs = true → ∃ v5 v6, r = .returned (.tuple #[v5, v6, .bool true]) ∧ OwnX eB w.heap.size w' v5 (flatF (bss xs)) ∧ OwnX eI w.heap.size w' v6 (ats (bss xs) (n + 1))) ∧ (runOk xs = false → r = .returned (.tuple #[.slice none 0 0, .slice none 0 0, .bool false])) := by
  have HL := hidU hL
  have HN := hidU hn
  obtain ⟨R, hR⟩ : ∃ R, Hid (R = runOk xs) := ⟨_, (rfl : runOk xs = _)⟩
  rw [← hR.out]
  have HBad : Hid (20 < n → R = false) := fun q => by rw [hR.out, runOk, decide_eq_false (by rw [← HN.out]; omega), Bool.false_and]
  have HLong : Hid (∀ (i : Nat) (t : BT), xs[i]? = some t → 300 < t.bs.length → R = false) := fun i t ht q => by
    rw [hR.out, runOk, Bool.and_eq_false_iff]
    right
    rw [List.all_eq_false]
    exact ⟨t, List.mem_of_getElem? ht, by simp; omega⟩
  clear hL hn
  by_cases hbig : 20 < n
  · have hRf := HBad.out hbig
    subst hRf
    clear hR HBad HLong
    go_enter Try.func24, Try.ntmps24
    go_wp2
    go_ret3
    first | exact ⟨Below.refl _ _, (fun q => by cases q), fun _ => rfl⟩ | exact ⟨Below.refl _ _, rfl⟩
  go_enter Try.func24, Try.ntmps24
  go_wp2
  go_loopw [5, 6, 7] (fun v5 v6 j wr => ∃ i : Nat, j = .int .i64 (i : Int) ∧ i ≤ n ∧ Hid (Below w.heap.size w wr) ∧ Hid (OwnX eB w.heap.size wr v5 (flatF ((bss xs).take i))) ∧ Hid (OwnX eI w.heap.size wr v6 (ats (bss xs) i)) ∧ Hid (∀ (q : Nat) (t : BT), q < i → xs[q]? = some t → t.bs.length ≤ 300)) (fun _ _ j _ => n - (intOf j).toNat)
  case atStart => exact ⟨0, rfl, by omega, Below.refl _ _, OwnX.nil _ _ _, OwnX.nil _ _ _, fun q t h => by omega⟩
  case round =>
    obtain ⟨i, rfl, hi, hB, hO5, hO6, hP⟩ := hrel
    have hfl : (flatF ((bss xs).take i)).length ≤ 6240 := by
      have := flatF_le ((bss xs).take i) fun r hr => by
        obtain ⟨q, hq⟩ := List.getElem?_of_mem hr
        have hqi := (List.getElem?_eq_some_iff.1 hq).1
        rw [List.length_take] at hqi
        rw [List.getElem?_take_of_lt (by omega)] at hq
        simp only [bss, List.getElem?_map, Option.map_eq_some_iff] at hq
        obtain ⟨t, ht, rfl⟩ := hq
        exact hP.out q t (by omega) ht
      rw [List.length_take] at this
      omega
    by_cases hc2 : i < n
    · obtain ⟨t, ht⟩ : ∃ t, xs[i]? = some t := ⟨_, List.getElem?_eq_getElem (by rw [← HN.out]; exact hc2)⟩
      have HT := hidU ht
      have hbi : (bss xs)[i]? = some t.bs := by simp [bss, ht]
      obtain ⟨lg, lo, rfl, cl, it⟩ := (HL.out.below hB.out).at ht
      have HI := hidU it
      obtain ⟨tl, htl⟩ : ∃ x, Hid (x = t.bs.length) := ⟨_, (rfl : t.bs.length = _)⟩
      rw [← htl.out] at cl
      have HCl : Hid (∀ x, Below wr.heap.size wr x → x.cell? ⟨lg, lo + i, none⟩ = some (.slice t.ad tl t.cp)) := fun x hx => by
        rw [hx.cell (lt_of_cell cl)]; exact cl
      have HBi := hidU hbi
      clear ht it hbi
      by_cases h65 : 65536 < tl
      · have hRf := HLong.out i t HT.out (by rw [← htl.out]; omega)
        subst hRf
        have H1 := hidU (Fa.long (a := t.ad) (c := t.cp) (w := wr) h65 (by rw [htl.out]; exact HI.out.2.1))
        clear hR HBad HLong hO5 hO6 hP
        go_wp2_with (go_at_call 9; refine H1.out.mono ?_; rintro _ w1 ⟨rfl, hb1⟩; refine Hid.out ?_)
        refine hidU ?_
        have HB1 := hidU (hB.out.trans (hb1.mono hB.out.size))
        clear hb1 H1 HCl cl
        go_wp2
        go_ret3
        first | exact ⟨HB1.out, (fun q => by cases q), fun _ => rfl⟩ | exact ⟨HB1.out, rfl⟩
      have H1 := hidU (Fa.frame (a := t.ad) (c := t.cp) (w := wr) HI.out.1 htl.out (by rw [htl.out]; exact HI.out.2.1) HI.out.2.2 (by omega))
      go_wp2_with (go_at_call 9; refine H1.out.mono ?_; rintro _ w1 ⟨vf, rfl, hof, hb1⟩; refine Hid.out ?_)
      refine hidU ?_
      have HB1 := hidU (hB.out.trans (hb1.mono hB.out.size))
      have cl1 := HCl.out w1 hb1
      have HF := hidU (hof.less hB.out.size)
      have HO51 := hidU (hO5.out.below hb1)
      have HO61 := hidU (hO6.out.below hb1)
      clear hof hb1 H1 HCl cl hB hO5 hO6
      by_cases h300 : 300 < tl
      · have hRf := HLong.out i t HT.out (by rw [← htl.out]; omega)
        subst hRf
        clear hR HBad HLong hP
        go_wp2
        go_ret3
        first | exact ⟨HB1.out, (fun q => by cases q), fun _ => rfl⟩ | exact ⟨HB1.out, rfl⟩
      obtain ⟨a5, c5, rfl, row5, hc5, hz5⟩ := HO51.out.rowB
      obtain ⟨af, cf, rfl, rowf, hcf, hzf⟩ := HF.out.rowB
      obtain ⟨L, hL⟩ : ∃ x, Hid (x = (flatF ((bss xs).take i)).length) := ⟨_, (rfl : _ = _)⟩
      obtain ⟨M, hM⟩ : ∃ x, Hid (x = (frameL t.bs).length) := ⟨_, (rfl : _ = _)⟩
      have hMt : Hid (M = tl + 12) := by show M = _; rw [hM.out, frameL_len, htl.out]
      rw [← hL.out] at hfl HO51 hc5 ⊢
      rw [← hM.out] at HF hcf ⊢
      have HRf := hidU rowf
      have hcf' := hidU (And.intro hcf hzf)
      clear row5 rowf hc5 hz5 hcf hzf
      have HBa : Hid (Below w1.heap.size w1 (w1.alloc (.cells #[.int .i64 (L : Int)] 3))) := (Below.refl _ w1).alloc (Nat.le_refl _) _
      have HO6a := hidU (HO61.out.below HBa.out)
      have HO5a := hidU (HO51.out.below HBa.out)
      have HFa := hidU (HF.out.below HBa.out)
      have HB2 := hidU (HB1.out.trans (HBa.out.mono HB1.out.size))
      go_wp2_with (refine wpList_appX eI rfl (.tmp 37) (.tmp 40) rfl w.heap.size _ (some ⟨w1.heap.size, 0, none⟩) 1 1 rfl rfl HO6a.out rfl (fun q => by cases q) (Nat.le_refl _) (row_newI w1 (L : Int)) (by rw [ats_len]; unfold maxLen; omega) (by rw [ats_len]; show (i + 1) * 8 ≤ _; omega) HB2.out.size ?_; intro v6' w2 ho6 hg6; refine Hid.out ?_)
      refine hidU ?_
      have HO6b : Hid (OwnX eI w.heap.size w2 v6' (ats (bss xs) (i + 1))) := by show OwnX _ _ _ _ _; rw [ats_snoc, ← hL.out]; exact ho6
      have HO5b := hidU (HO5a.out.grown HO6a.out (show (5 : Nat) ≠ 3 by decide) hg6)
      have HB3 : Hid (Below w.heap.size w w2) := HB2.out.grown hg6 HB2.out.size fun k hk => (HO6a.out.block k hk).1
      have HFb := hidU (HFa.out.grown HO6a.out (show (5 : Nat) ≠ 3 by decide) hg6)
      clear ho6 hg6 HO6a HO5a HFa HBa HO61 HO51 HB2
      obtain ⟨af', cf', e', rowf, hcf, hzf⟩ := HFb.out.rowB
      injection e' with e1 e2 e3
      subst e1 e3
      clear e2
      have hrf := hidU rowf
      clear rowf
      go_wp2_with (refine wpList_appX eB rfl (.tmp 42) (.tmp 43) rfl w.heap.size _ af M cf rfl rfl HO5b.out hM.out.symm hzf (by rw [hM.out]; exact hcf) (rowB.2 hrf.out) (by rw [← hL.out, hMt.out]; unfold maxLen; omega) (by rw [← hL.out, hMt.out]; show (L + (tl + 12)) * 1 ≤ _; omega) HB3.out.size ?_; intro v5' w3 ho5 hg5; refine Hid.out ?_)
      refine hidU ?_
      have HO5c : Hid (OwnX eB w.heap.size w3 v5' (flatF ((bss xs).take (i + 1)))) := by show OwnX _ _ _ _ _; rw [flatF_snoc _ _ _ HBi.out]; exact ho5
      have HO6c := hidU (HO6b.out.grown HO5b.out (show (3 : Nat) ≠ 5 by decide) hg5)
      have HB4 : Hid (Below w.heap.size w w3) := HB3.out.grown hg5 HB3.out.size fun k hk => (HO5b.out.block k hk).1
      have HP2 : Hid (∀ (q : Nat) (t : BT), q < i + 1 → xs[q]? = some t → t.bs.length ≤ 300) := fun q u hq hu => by
        by_cases hqi : q = i
        · subst hqi
          rw [HT.out] at hu
          cases hu
          rw [← htl.out]; omega
        · exact hP.out q u (by omega) hu
      clear ho5 hg5 HO5b HO6b HB3 HFb hrf cl1 HF hcf hzf
      go_wp2
      go_roundw
      · exact ⟨i + 1, by go_num, by omega, HB4, HO5c, HO6c, HP2⟩
      · simp [intOf]; omega
    · have him : i = n := by omega
      subst him
      have hRt : R = true := by
        rw [hR.out, runOk, Bool.and_eq_true, decide_eq_true_eq, List.all_eq_true]
        refine ⟨by rw [← HN.out]; omega, fun t ht => ?_⟩
        obtain ⟨q, hq⟩ := List.getElem?_of_mem ht
        have hqi := (List.getElem?_eq_some_iff.1 hq).1
        exact decide_eq_true (hP.out q t (by rw [HN.out]; exact hqi) hq)
      subst hRt
      have hall : (bss xs).take i = bss xs := List.take_of_length_le (by simp only [bss, List.length_map]; rw [← HN.out]; exact Nat.le_refl _)
      have HO5 := hidU hO5.out
      rw [hall] at HO5
      rw [hall] at hfl
      obtain ⟨a5, c5, e5, row5, hc5, hz5⟩ := HO5.out.rowB
      obtain ⟨L, hL⟩ : ∃ x, Hid (x = (flatF (bss xs)).length) := ⟨_, (rfl : _ = _)⟩
      rw [← hL.out] at e5 hfl
      subst e5
      have HAt : Hid (ats (bss xs) (i + 1) = ats (bss xs) i ++ [(L : Int)]) := by show _ = _; rw [ats_snoc, hall, hL.out]
      have HBa : Hid (Below wr.heap.size wr (wr.alloc (.cells #[.int .i64 (L : Int)] 3))) := (Below.refl _ wr).alloc (Nat.le_refl _) _
      have HO6a := hidU (hO6.out.below HBa.out)
      have HO5a := hidU (HO5.out.below HBa.out)
      have HB2 := hidU (hB.out.trans (HBa.out.mono hB.out.size))
      clear hR HBad HLong hP hO5 row5 hc5 hz5 hall
      go_wp2_with (refine wpList_appX eI rfl (.tmp 46) (.tmp 49) rfl w.heap.size _ (some ⟨wr.heap.size, 0, none⟩) 1 1 rfl rfl HO6a.out rfl (fun q => by cases q) (Nat.le_refl _) (row_newI wr (L : Int)) (by rw [ats_len]; unfold maxLen; omega) (by rw [ats_len]; show (i + 1) * 8 ≤ _; omega) HB2.out.size ?_; intro v6' w2 ho6 hg6; refine Hid.out ?_)
      refine hidU ?_
      have HO6b : Hid (OwnX eI w.heap.size w2 v6' (ats (bss xs) (i + 1))) := by show OwnX _ _ _ _ _; rw [HAt.out]; exact ho6
      have HO5b := hidU (HO5a.out.grown HO6a.out (show (5 : Nat) ≠ 3 by decide) hg6)
      have HB3 : Hid (Below w.heap.size w w2) := HB2.out.grown hg6 HB2.out.size fun k hk => (HO6a.out.block k hk).1
      clear ho6 hg6 HO6a HO5a HBa HB2
      go_wp2
      go_ret3
      first | exact ⟨HB3.out, (fun _ => ⟨_, _, rfl, HO5b.out, HO6b.out⟩), fun q => by cases q⟩ | exact ⟨HB3.out, ⟨_, _, rfl, HO5b.out, HO6b.out⟩⟩
end Go.Proofs.Ytbehmclligkbhaa
