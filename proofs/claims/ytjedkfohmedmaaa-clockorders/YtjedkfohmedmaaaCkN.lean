/- clock.Past, where it tells events. -/
import Derived.Test.YtjedkfohmedmaaaCkM
import Derived.Laws.OwnMore
namespace Go.Proofs.Ytjedkfohmedmaaa
open Go.RowKit
set_option linter.unusedVariables false
attribute [local go_sem ↓] Go.wp_at_zero Go.wp_at_succ

/-- The call's own row of numbers. -/
def OwnI (base : Nat) (w : World) (v : Value) (zs : List Int) : Prop := w.ownsRow base 3 1 v zs.length (zs.map I64)
theorem OwnI.block {base : Nat} {w : World} {v : Value} {zs : List Int} (h : OwnI base w v zs) : ∀ k, v.ownBlock = some k → base ≤ k := by
  intro k hk
  obtain ⟨_, ⟨rfl, _⟩ | ⟨g, cap, cur, rfl, hg, _⟩⟩ := h
  · simp [Value.ownBlock] at hk
  · simp [Value.ownBlock] at hk
    omega
theorem OwnI.below {base : Nat} {w w' : World} {v : Value} {zs : List Int} (h : OwnI base w v zs) (hb : Below w.heap.size w w') : OwnI base w' v zs := by
  obtain ⟨h0, ⟨h1, h2⟩ | ⟨g, cap, cur, rfl, hg, hh, hr⟩⟩ := h
  · exact ⟨h0, .inl ⟨h1, h2⟩⟩
  · refine ⟨h0, .inr ⟨g, cap, cur, rfl, hg, ?_, hr⟩⟩
    rw [hb.block g (heapLt hh)]
    exact hh
theorem OwnI.row {base : Nat} {w : World} {v : Value} {zs : List Int} (h : OwnI base w v zs) : ∃ a cap, v = .slice a zs.length cap ∧ zs.length ≤ cap ∧ RowI w a zs := by
  obtain ⟨h0, ⟨rfl, h2⟩ | ⟨g, cap, cur, rfl, hg, hh, hn, hm, hs, ht⟩⟩ := h
  · have : zs = [] := List.length_eq_zero_iff.1 h2
    subst this
    exact ⟨none, 0, rfl, Nat.le_refl _, .inl rfl⟩
  · refine ⟨_, cap, rfl, hn, .inr ⟨g, 0, rfl, fun i z hz => ?_⟩⟩
    have hi : i < zs.length := (List.getElem?_eq_some_iff.1 hz).1
    have e1 : (cur.toList.take (zs.length * 1))[i]? = some (I64 z) := by rw [ht, List.getElem?_map, hz]; rfl
    rw [List.getElem?_take_of_lt (by omega)] at e1
    simp only [World.cell?, hh, Nat.zero_add]
    simpa [I64] using e1
/-- 'out = append(out, z)'. -/
theorem appI {ops : Array Oper} {rest : List Oper} {o : Oper} {a : Act} {Q : Exit → Act → World → Prop} {w0 : World} (s x : Operand) (z : Int) (base : Nat) (v : Value) (out : List Int)
    (hgd : o.guard = none) (ho : o.op = .call { callee := .builtin .append, args := #[s, x], argTypes := #[26, 26] })
    (hs : a.eval s = v) (hx : a.eval x = .slice (some ⟨w0.heap.size, 0, none⟩) 1 1) (hown : OwnI base w0 v out) (hlen : out.length ≤ 1048576) (hbase : base ≤ w0.heap.size)
    (h : ∀ v' w', OwnI base w' v' (out ++ [z]) → Below base w0 w' → wpList Try.prog ops Q rest (a.put o.dst v') w') :
    wpList Try.prog ops Q (o :: rest) a (w0.alloc (.cells #[.int .i64 z] 3)) := by
  obtain ⟨i0, hi, hz0, hz1, hz2⟩ := info_parts Try.info3
  refine wpList_append_own (w := w0.alloc (.cells #[.int .i64 z] 3)) hgd s x 26 ho base 3 i0 (.int .i64 0) 1 8 Try.underlying26 hi hz0 hz1 hz2 rfl (by decide) v out.length (out.map I64) hs (World.ownsRow.alloc hown _)
    ⟨w0.heap.size, 0, none⟩ 1 1 [.int .i64 z] hx rfl ?c1 ?c2 ?c3 ?c4 ?c5 ?_
  case c1 =>
    intro j u hj
    match j, hj with
    | 0, hj => simp at hj; subst hj; simp [Addr.add]
  case c2 => intro u hu; simp at hu; subst hu; rfl
  case c3 => unfold maxLen; omega
  case c4 => omega
  case c5 => simp; omega
  intro v' w' h1 h2 _
  refine h v' w' ?_ ?_
  · simpa [OwnI, I64] using h1
  · exact ((Below.refl base w0).alloc hbase _).grown h2 (by simp; omega) hown.block

/-- Those below k that happen ahead. -/
def pastZ (ev : Nat → Ev) (i k : Nat) : List Int := ((List.range k).filter (hbB ev i)).map fun (x : Nat) => (x : Int)
theorem pastZ_yes {ev : Nat → Ev} {i k : Nat} (h : hbB ev i k = true) : pastZ ev i (k + 1) = pastZ ev i k ++ [(k : Int)] := by simp [pastZ, List.range_succ, List.filter_append, h]
theorem pastZ_no {ev : Nat → Ev} {i k : Nat} (h : hbB ev i k = false) : pastZ ev i (k + 1) = pastZ ev i k := by simp [pastZ, List.range_succ, List.filter_append, h]
theorem pastZ_length (ev : Nat → Ev) (i k : Nat) : (pastZ ev i k).length ≤ k := by
  unfold pastZ
  rw [List.length_map]
  have := List.length_filter_le (hbB ev i) (List.range k)
  simpa using this

set_option maxRecDepth 100000 in
set_option maxHeartbeats 3200000 in
theorem past_ok (a : Option Addr) (c n i : Nat) (es : List Ev) (w : World) (hE : RowEv w a es) (hok : ∀ x ∈ es, x.ok) (hc : es.length ≤ c) (hw : wrongZ es n = 0) (him : i < es.length) :
    Calls Try.prog 10 #[.slice a es.length c, .int .i64 n, .int .i64 i] w fun r w' => ∃ v, r = .returned (.tuple #[v, .int .i64 0]) ∧ OwnI w.heap.size w' v (pastZ (evAt es) i i) ∧ Below w.heap.size w w' := by
  obtain ⟨h1, h2, h3, h4⟩ := wrongZ_ok hw
  have HB : Hid (∀ u v, Below w.heap.size w u → Below u.heap.size u v → Below w.heap.size w v) := fun u v h1 h2 => h1.trans (h2.mono h1.size)
  have HR := refused_any es [] n a none c 0 w hE (.inl rfl) (by omega) (by simp) hc (by simp)
  rw [List.append_nil, hw] at HR
  simp only [List.length_nil] at HR
  obtain ⟨ev, hev⟩ : ∃ ev, Hid (ev = evAt es) := ⟨_, (rfl : _ = evAt _)⟩
  obtain ⟨ev', hev'⟩ : ∃ ev, Hid (ev = evAt (es.take (i + 1))) := ⟨_, (rfl : _ = evAt _)⟩
  have hsame : Hid (∀ k, k ≤ i → ev' k = ev k) := fun k hk => by rw [hev.out, hev'.out]; unfold evAt; simp [List.getD, show k < i + 1 by omega]
  have hlt : (es.take (i + 1)).length = i + 1 := by rw [List.length_take]; omega
  have HC : Hid (∀ u, Below w.heap.size w u → Calls Try.prog 30 #[.slice a (i + 1) c, .int .i64 n] u fun r w' => ∃ G M, r = .returned (.slice (some ⟨G, 0, none⟩) (i + 1) (i + 1)) ∧ RowII w' (some ⟨G, 0, none⟩) (clksL ev' n (i + 1)) ∧ Below u.heap.size u w') := fun u hu => by
    have := clocksOf_any a c n (es.take (i + 1)) u ((hE.below hu).take (i + 1)) (fun x hx => hok x (List.mem_of_mem_take hx)) (fun x hx => h4 x (List.mem_of_mem_take hx)) (by omega) (by omega) (by omega) (by omega)
    rw [hlt, ← hev'.out] at this
    exact this.mono fun r w' ⟨G, M, e1, e2, e3⟩ => ⟨G, M, e1, e2.row (by omega), e3⟩
  have HI : Hid (∀ u G k, Below w.heap.size w u → RowII u (some ⟨G, 0, none⟩) (clksL ev' n (i + 1)) → k < i → Calls Try.prog 34 #[.slice (some ⟨G, 0, none⟩) (i + 1) (i + 1), .slice a es.length c, .int .i64 k, .int .i64 i] u fun r w' => r = .returned (.bool (hbB ev i k)) ∧ Below u.heap.size u w') := fun u G k hu hR hk => by
    have hkl : k < es.length := by omega
    have he := List.getElem?_eq_getElem hkl
    have the := h4 _ (List.mem_of_getElem? he)
    obtain ⟨s, hs⟩ : ∃ s : Nat, (es[k]).th = (s : Int) := ⟨(es[k]).th.toNat, by omega⟩
    have hsn : s < n := by omega
    have hevk : ev' k = es[k] := by rw [hsame.out k (by omega), hev.out]; exact evAt_eq he
    have := isAhead_any (clksL ev' n (i + 1)) es k i s _ _ es[k] _ _ (i + 1) es.length (some ⟨G, 0, none⟩) a (i + 1) c u hR (hE.below hu) (clksL_at (by omega)) (clksL_at (by omega)) he hs (clkL_at hsn) (clkL_at hsn) (by rw [clksL_length]; exact Nat.le_refl _) (Nat.le_refl _) (Nat.le_refl _) hc (by omega) (by omega)
    rw [← hs, ← hevk, hbB_tells, hbB_congr i k fun k hk => hsame.out k hk] at this
    exact this
  rw [← hev.out]
  obtain ⟨m, hm⟩ : ∃ m, m = es.length := ⟨_, rfl⟩
  rw [← hm] at HR HI him hc h3 ⊢
  have hp := plc_yes (z := (i : Int)) (m := (m : Int)) (by omega) (by omega)
  have hs1 := fun u => runE_slice_to u a m c (i + 1) ((i : Int) + 1) (by omega) (by omega)
  clear hE hok hw h4 hlt hm
  go_enter Try.func10, Try.ntmps10
  go_wp2_with (first | (go_at_call 29; refine HR.mono ?_; rintro _ w2 ⟨rfl, hb2⟩) | (go_at_call 33; refine (isPlace_any _ _ _).mono ?_; rintro _ w9 ⟨rfl, rfl⟩) | (go_at_call 30; refine (HC.out _ hb2).mono ?_; rintro _ w3 ⟨G, M, rfl, hR3, hb3⟩; refine Hid.out ?_))
  refine hidU ?_
  have hB3 : Hid (Below w.heap.size w w3) := HB.out _ _ hb2 hb3
  have HR3 : Hid (RowII w3 (some ⟨G, 0, none⟩) (clksL ev' n (i + 1))) := hR3
  clear hR3 hb2 hb3 HR HC hs1
  go_wp2_with fail
  go_loopw [10, 30] (fun v t wr => ∃ (k : Nat), k ≤ i ∧ t = .int .i64 k ∧ Hid (OwnI w3.heap.size wr v (pastZ ev i k)) ∧ Hid (Below w3.heap.size w3 wr)) (fun _ t _ => i - (intOf t).toNat)
  case atStart => exact ⟨0, Nat.zero_le _, rfl, World.ownsRow_nil _ _ _ _, Below.refl _ _⟩
  case round =>
    obtain ⟨k, hk, rfl, hown, hbw⟩ := hrel
    by_cases hki : k < i
    · have hBr : Hid (Below w.heap.size w wr) := HB.out _ _ hB3.out hbw.out
      have HK := HI.out wr G k hBr.out (HR3.out.below hbw.out) hki
      obtain ⟨S, hS⟩ : ∃ S, Hid (S = hbB ev i k) := ⟨_, (rfl : _ = hbB _ _ _)⟩
      rw [← hS.out] at HK
      have hpl := pastZ_length ev i k
      cases S
      · go_wp2_with (first | (go_at_call 34; refine HK.mono ?_; rintro _ w5 ⟨rfl, hb5⟩))
        go_roundw
        case rel => exact ⟨k + 1, by omega, by go_num, (show OwnI _ _ _ _ by rw [pastZ_no hS.out.symm]; exact hown.out.below hb5), hbw.out.trans (hb5.mono hbw.out.size)⟩
        case measure => simp [intOf]; omega
      · go_wp2_with (first | (go_at_call 34; refine HK.mono ?_; rintro _ w5 ⟨rfl, hb5⟩) | (at_builtin; refine appI (.tmp 38) (.tmp 40) (k : Int) w3.heap.size _ (pastZ ev i k) rfl rfl rfl rfl (hown.out.below hb5) (by omega) (Nat.le_trans hbw.out.size hb5.size) ?_; intro v6 w6 hown6 hb6))
        go_roundw
        case rel => exact ⟨k + 1, by omega, by go_num, (show OwnI _ _ _ _ by rw [pastZ_yes hS.out.symm]; exact hown6), (hbw.out.trans (hb5.mono hbw.out.size)).trans hb6⟩
        case measure => simp [intOf]; omega
    · have hki2 : Hid (k = i) := show k = i by omega
      go_wp2_with fail
      go_ret2
      refine ⟨_, rfl, ?_, HB.out _ _ hB3.out hbw.out⟩
      have h5 := hown.out
      rw [hki2.out] at h5
      obtain ⟨e0, e1 | ⟨g, cap, cur, e1, e2, e3⟩⟩ := h5
      · exact ⟨e0, .inl e1⟩
      · exact ⟨e0, .inr ⟨g, cap, cur, e1, Nat.le_trans hB3.out.size e2, e3⟩⟩
end Go.Proofs.Ytjedkfohmedmaaa
