/- Joined texts of the proof. -/
import Derived.Test.YtbamocalhojmeaaJ27
import Derived.Test.YtbamocalhojmeaaJ14

/- What norm tells, as it is wanted; the laws' small functions. -/
namespace Go.Proofs.Ytbamocalhojmeaa
open Go.RowKit
set_option linter.unusedVariables false
attribute [local go_sem ↓] Go.wp_at_zero Go.wp_at_succ

theorem lin_order {ev : Nat → Ev} {out : List Nat} {m : Nat} (h : Lin ev out m) : orderOk (natI out) m = true := by
  unfold orderOk goodTo
  rw [natI_length, h.len, decide_eq_true rfl, Bool.true_and, List.all_eq_true]
  intro p hp
  have hp := List.mem_range.1 hp
  have hx := List.getElem?_eq_getElem (show p < out.length by rw [h.len]; exact hp)
  have hz : (natI out).getD p 0 = ((out[p]'(by rw [h.len]; exact hp) : Nat) : Int) := by simp [natI, List.getD, hx]
  have h1 := h.lt _ (List.mem_of_getElem? hx)
  have h2 := (mayE_iff.1 (h.may p _ hx)).1
  unfold goodAt
  rw [hz]
  simp only [Bool.and_eq_true, decide_eq_true_eq, Bool.not_eq_true', decide_eq_false_iff_not]
  refine ⟨⟨by omega, by omega⟩, fun hm => h2 ?_⟩
  unfold natI at hm
  rw [← List.map_take] at hm
  obtain ⟨y, hy, he⟩ := List.mem_map.1 hm
  have he2 : (y : Int) = ((out[p]'(by rw [h.len]; exact hp) : Nat) : Int) := he
  have : y = out[p]'(by rw [h.len]; exact hp) := by omega
  rw [← this]
  exact hy
def LeT (f : Nat) : Prop := ∀ (es : List Ev) (n : Int) (a : Option Addr) (c : Nat) (w : World), RowEv w a es → (∀ x ∈ es, x.ok) → es.length ≤ 4611686018427387904 → es.length ≤ c →
  Calls Try.prog f #[.slice a es.length c, .int .i64 n] w fun r w' => ∃ ap cp, r = .returned (.tuple #[.slice ap (leastZ es n).length cp, .int .i64 (wrongZ es n)]) ∧ (leastZ es n).length ≤ cp ∧ RowI w' ap (leastZ es n) ∧ Below w.heap.size w w'
def LvT (f : Nat) : Prop := ∀ (es : List Ev) (n : Int) (a : Option Addr) (c : Nat) (w : World), RowEv w a es → (∀ x ∈ es, x.ok) → es.length ≤ 4611686018427387904 → es.length ≤ c →
  Calls Try.prog f #[.slice a es.length c, .int .i64 n] w fun r w' => ∃ ap cp, r = .returned (.tuple #[.slice ap (levelsZ es n).length cp, .int .i64 (wrongZ es n)]) ∧ (levelsZ es n).length ≤ cp ∧ RowII w' ap (levelsZ es n) ∧ Below w.heap.size w w'
def EqT (f : Nat) : Prop := ∀ (es fs : List Ev) (n : Int) (a b : Option Addr) (c d : Nat) (w : World), RowEv w a es → RowEv w b fs → (∀ x ∈ es, x.ok) → (∀ x ∈ fs, x.ok) → es.length ≤ 4611686018427387904 → fs.length ≤ 4611686018427387904 → es.length ≤ c → fs.length ≤ d →
  Calls Try.prog f #[.slice a es.length c, .slice b fs.length d, .int .i64 n] w fun r w' => r = .returned (.tuple #[.bool (equivZ es fs n), .int .i64 (equivW es fs n)]) ∧ Below w.heap.size w w'
def ScT (f : Nat) : Prop := ∀ (es : List Ev) (zs : List Int) (a b : Option Addr) (c d : Nat) (w : World), RowEv w a es → (∀ x ∈ es, x.ok) → RowI w b zs → (∀ z ∈ zs, i64 z) → es.length ≤ c → zs.length ≤ d → es.length ≤ 1048576 → zs.length ≤ 1048576 →
  Calls Try.prog f #[.slice a es.length c, .slice b zs.length d] w fun r w' => ∃ ap cp, r = .returned (.tuple #[.slice ap (schedZ es zs).length cp, .int .i64 (schedW es zs)]) ∧ (schedZ es zs).length ≤ cp ∧ RowI w' ap (schedZ es zs) ∧ Below w.heap.size w w'

set_option maxRecDepth 100000 in
set_option maxHeartbeats 1600000 in
theorem at_ok (HS : ScT 16) (es : List Ev) (out : List Nat) (m : Nat) (a b : Option Addr) (c d : Nat) (w : World) (hE : RowEv w a es) (hok : ∀ x ∈ es, x.ok) (hr : RowI w b (natI out)) (hm : es.length = m) (hL : Lin (evAt es) out m) (hc : m ≤ c) (hd : m ≤ d) (hm2 : m ≤ 1048576) :
    Calls Try.prog 25 #[.slice a m c, .slice b m d] w fun r w' => ∃ v, r = .returned v ∧ OwnE w.heap.size w' v (evsAt (evAt es) out) ∧ Below w.heap.size w w' := by
  have hlo : orderOk (natI out) es.length = true := by rw [hm]; exact lin_order hL
  have HS1 : Hid (∀ u, Below w.heap.size w u → Calls Try.prog 16 #[.slice a m c, .slice b m d] u fun r w' => ∃ ap lp cp, r = .returned (.tuple #[.slice ap lp cp, .int .i64 0]) ∧ Below u.heap.size u w') := fun u hu => by
    have := HS es (natI out) a b c d u (hE.below hu) hok (hr.below hu) (fun z hz => by
      obtain ⟨x, hx, rfl⟩ := List.mem_map.1 hz
      have := hL.lt x hx
      exact ⟨by show (-9223372036854775808 : Int) ≤ (x : Int); omega, by show (x : Int) ≤ 9223372036854775807; omega⟩) (by rw [hm]; exact hc) (by rw [natI_length, hL.len]; exact hd) (by rw [hm]; exact hm2) (by rw [natI_length, hL.len]; exact hm2)
    have e : schedW es (natI out) = 0 := by unfold schedW; rw [if_pos hlo]
    rw [natI_length, hL.len, hm, e] at this
    exact this.mono fun r w' ⟨ap, cp, d1, d2, d3, d4⟩ => ⟨ap, _, cp, d1, d4⟩
  have HA1 : Hid (∀ u, Below w.heap.size w u → Calls Try.prog 45 #[.slice a m c, .slice b m d] u fun r w' => ∃ v, r = .returned v ∧ OwnE u.heap.size w' v (evsAt (evAt es) out) ∧ Below u.heap.size u w') := fun u hu => by
    have := refAt_any es out a b c d u (hE.below hu) (hr.below hu) (fun x hx => by rw [hm]; exact hL.lt x hx) (by rw [hm]; exact hc) (by rw [hL.len]; exact hd) (by rw [hm]; exact hm2) (by rw [hL.len]; exact hm2)
    rw [hm, hL.len] at this
    exact this
  obtain ⟨R, hR⟩ : ∃ R, Hid (R = evsAt (evAt es) out) := ⟨_, (rfl : _ = evsAt _ _)⟩
  rw [← hR.out] at HA1 ⊢
  clear hE hok hr hm hL hlo
  go_enter Try.func25, Try.ntmps25
  go_wp2_with (first | (go_at_call 16; refine (HS1.out _ (Below.refl _ _)).mono ?_; rintro _ w2 ⟨ap, lp, cp, rfl, hb2⟩; have HB2 : Hid (Below w.heap.size w w2) := hb2; clear hb2) | (go_at_call 45; refine (HA1.out _ HB2.out).mono ?_; rintro _ w3 ⟨v, rfl, hown, hb3⟩))
  go_ret
  exact ⟨v, rfl, by
    obtain ⟨h0, h1 | ⟨g, cap, cur, h2, hg, hh⟩⟩ := hown
    · exact ⟨h0, .inl h1⟩
    · exact ⟨h0, .inr ⟨g, cap, cur, h2, Nat.le_trans HB2.out.size hg, hh⟩⟩, HB2.out.trans (hb3.mono HB2.out.size)⟩
set_option maxRecDepth 100000 in
theorem equivalent_any (HE : EqT 14) (es fs : List Ev) (n : Int) (a b : Option Addr) (c d : Nat) (w : World) (h1 : RowEv w a es) (h2 : RowEv w b fs) (o1 : ∀ x ∈ es, x.ok) (o2 : ∀ x ∈ fs, x.ok) (l1 : es.length ≤ 1048576) (l2 : fs.length ≤ 1048576) (hc : es.length ≤ c) (hd : fs.length ≤ d) :
    Calls Try.prog 27 #[.slice a es.length c, .slice b fs.length d, .int .i64 n] w fun r w' => r = .returned (.bool (equivZ es fs n && decide (equivW es fs n = 0))) ∧ Below w.heap.size w w' := by
  have HC := HE es fs n a b c d w h1 h2 o1 o2 (by omega) (by omega) hc hd
  obtain ⟨Z, hZ⟩ : ∃ Z, Hid (Z = equivZ es fs n) := ⟨_, (rfl : _ = equivZ _ _ _)⟩
  obtain ⟨W, hW⟩ : ∃ W, Hid (W = equivW es fs n) := ⟨_, (rfl : _ = equivW _ _ _)⟩
  rw [← hZ.out, ← hW.out] at HC ⊢
  obtain ⟨m1, hm1⟩ : ∃ m, m = es.length := ⟨_, rfl⟩
  obtain ⟨m2, hm2⟩ : ∃ m, m = fs.length := ⟨_, rfl⟩
  rw [← hm1, ← hm2] at HC ⊢
  clear h1 h2 o1 o2 l1 l2 hc hd hm1 hm2
  have HCC : Hid (Calls Try.prog 14 #[.slice a m1 c, .slice b m2 d, .int .i64 n] w fun r w' => r = .returned (.tuple #[.bool Z, .int .i64 W]) ∧ Below w.heap.size w w') := HC
  clear HC
  have e : (W == 0) = decide (W = 0) := by by_cases h : W = 0 <;> simp [h]
  rw [← e]
  clear e
  cases Z
  · go_enter Try.func27, Try.ntmps27
    go_wp2_with (go_at_call 14; refine HCC.out.mono ?_; rintro _ w2 ⟨rfl, hb2⟩)
    go_ret
    exact ⟨rfl, hb2⟩
  · go_enter Try.func27, Try.ntmps27
    go_wp2_with (go_at_call 14; refine HCC.out.mono ?_; rintro _ w2 ⟨rfl, hb2⟩)
    go_ret
    exact ⟨rfl, hb2⟩
/-- The one is not behind the other, thread by thread. -/
def fstE (xs ys : List Ev) : Prop := ∀ p, p < xs.length → p < ys.length → (∀ q, q < p → (evAt xs q).th = (evAt ys q).th) → (evAt xs p).th ≤ (evAt ys p).th
set_option maxRecDepth 100000 in
set_option maxHeartbeats 3200000 in
theorem first_ok (es fs : List Ev) (m : Nat) (a b : Option Addr) (c d : Nat) (w : World) (h1 : RowEv w a es) (h2 : RowEv w b fs) (e1 : es.length = m) (e2 : fs.length = m) (hm : m ≤ 1048576) (hc : m ≤ c) (hd : m ≤ d) (hf : fstE es fs) :
    Calls Try.prog 33 #[.slice a m c, .slice b m d] w fun r w' => r = .returned (.bool true) ∧ Below w.heap.size w w' := by
  have HR : Hid (RowEv w a es ∧ RowEv w b fs ∧ es.length = m ∧ fs.length = m ∧ fstE es fs) := ⟨h1, h2, e1, e2, hf⟩
  clear h1 h2 e1 e2 hf
  go_enter Try.func33, Try.ntmps33
  go_wp2_with fail
  go_loopw [5] (fun t wr => ∃ i : Nat, t = .int .i64 (i : Int) ∧ i ≤ m ∧ Hid (Below w.heap.size w wr) ∧ Hid (∀ q, q < i → (evAt es q).th = (evAt fs q).th)) (fun t _ => m - (intOf t).toNat)
  case atStart => exact ⟨0, rfl, Nat.zero_le _, Below.refl _ _, fun q hq => by omega⟩
  case round =>
    obtain ⟨i, rfl, hi, hB, hQ⟩ := hrel
    by_cases him : i < m
    · obtain ⟨k1, k2, k3, k4, k5⟩ := HR.out
      obtain ⟨x, hx⟩ : ∃ k, es[i]? = some k := ⟨es[i]'(by omega), by rw [List.getElem?_eq_getElem]⟩
      obtain ⟨y, hy⟩ : ∃ k, fs[i]? = some k := ⟨fs[i]'(by omega), by rw [List.getElem?_eq_getElem]⟩
      have hle := k5 i (by omega) (by omega) hQ.out
      rw [evAt_eq hx, evAt_eq hy] at hle
      obtain ⟨g1, o1, rfl, r1⟩ := (k1.below hB.out).at i x hx
      obtain ⟨g2, o2, rfl, r2⟩ := (k2.below hB.out).at i y hy
      obtain ⟨q1, -, -⟩ := range_cells r1
      obtain ⟨q2, -, -⟩ := range_cells r2
      have HE : Hid (evAt es i = x ∧ evAt fs i = y) := ⟨evAt_eq hx, evAt_eq hy⟩
      clear k1 k2 k3 k4 k5 hx hy r1 r2
      obtain ⟨xt, hxt⟩ : ∃ z, Hid (z = x.th) := ⟨_, (rfl : _ = x.th)⟩
      obtain ⟨yt, hyt⟩ : ∃ z, Hid (z = y.th) := ⟨_, (rfl : _ = y.th)⟩
      rw [← hxt.out] at q1 hle
      rw [← hyt.out] at q2 hle
      by_cases heq : xt = yt
      · have hne : (xt != yt) = false := by simp [heq]
        have HQ2 : Hid (∀ q, q < i + 1 → (evAt es q).th = (evAt fs q).th) := fun q hq => by
          by_cases hqi : q = i
          · subst hqi
            rw [HE.out.1, HE.out.2, ← hxt.out, ← hyt.out]
            exact heq
          · exact hQ.out q (by omega)
        have heq' : Hid (xt = yt) := heq
        clear heq hQ
        go_wp2_with fail
        go_quiet (fail)
        go_wp2_with fail
        go_roundw
        case rel => exact ⟨i + 1, by go_num, by omega, below_drN hB.out _, HQ2.out⟩
        case measure => simp [intOf]; omega
      · have hne : (xt != yt) = true := by simpa using heq
        have hlt : xt < yt := by omega
        clear heq hle
        go_wp2_with fail
        go_quiet (fail)
        go_wp2_with fail
        go_quiet (fail)
        go_wp2_with fail
        go_ret
        exact ⟨by simp, below_drN (below_drN hB.out _) _⟩
    · go_wp2_with fail
      go_ret
      exact ⟨rfl, hB.out⟩
end Go.Proofs.Ytbamocalhojmeaa

/- flat: levels, one behind the other; levels have no gaps. -/
namespace Go.Proofs.Ytbamocalhojmeaa
open Go.RowKit
set_option linter.unusedVariables false
attribute [local go_sem ↓] Go.wp_at_zero Go.wp_at_succ

theorem lvTo_hit {f : Nat → Nat} {ev : Nat → Ev} {j : Nat} : ∀ k, 0 < lvTo f ev j k → ∃ i, i < k ∧ hbB ev j i = true ∧ lvTo f ev j k = f i + 1
  | 0, h => by simp [lvTo] at h
  | k + 1, h => by
    simp only [lvTo] at h ⊢
    split
    · rename_i hb
      rcases Nat.le_total (lvTo f ev j k) (f k + 1) with h1 | h1
      · exact ⟨k, by omega, hb, by rw [Nat.max_eq_right h1]⟩
      · obtain ⟨i, h2, h3, h4⟩ := lvTo_hit (f := f) (ev := ev) (j := j) k (by omega)
        exact ⟨i, by omega, h3, by rw [Nat.max_eq_left h1]; exact h4⟩
    · rename_i hb
      rw [if_neg hb] at h
      obtain ⟨i, h2, h3, h4⟩ := lvTo_hit (f := f) (ev := ev) (j := j) k h
      exact ⟨i, by omega, h3, h4⟩
/-- Below each level that an event has there is one on each lower level. -/
theorem lev_below (ev : Nat → Ev) : ∀ (d j : Nat) (k : Nat), lev ev j = k + d → ∃ i, i ≤ j ∧ lev ev i = k
  | 0, j, k, h => ⟨j, Nat.le_refl _, by omega⟩
  | d + 1, j, k, h => by
    have h1 := lev_eq ev j
    obtain ⟨i, h2, h3, h4⟩ := lvTo_hit (f := lev ev) (ev := ev) (j := j) j (by rw [← h1]; omega)
    obtain ⟨x, h5, h6⟩ := lev_below ev d i k (by omega)
    exact ⟨x, by omega, h6⟩
theorem most_hit (ev : Nat → Ev) : ∀ m, 0 ≤ mostTo ev m → ∃ j, j < m ∧ mostTo ev m = (lev ev j : Int)
  | 0, h => by simp [mostTo] at h
  | m + 1, h => by
    simp only [mostTo] at h ⊢
    by_cases h1 : mostTo ev m ≤ (lev ev m : Int)
    · exact ⟨m, by omega, by omega⟩
    · obtain ⟨j, h2, h3⟩ := most_hit ev m (by omega)
      exact ⟨j, by omega, by omega⟩
/-- No level is empty. -/
theorem levels_full {ev : Nat → Ev} {m n : Nat} (hth : ∀ i, i < m → 0 ≤ (ev i).th ∧ (ev i).th < (n : Int)) : ∀ r ∈ levelsE ev m n, r ≠ [] := by
  intro r hr
  unfold levelsE levelsL at hr
  obtain ⟨k, hk, rfl⟩ := List.mem_map.1 hr
  have hk := List.mem_range.1 hk
  obtain ⟨j, h1, h2⟩ := most_hit ev m (by omega)
  obtain ⟨i, h3, h4⟩ := lev_below ev (lev ev j - k) j k (by omega)
  have hi : i < m := by omega
  have ht := hth i hi
  intro he
  have : i ∈ lvRows ev m k n := by
    unfold lvRows
    rw [List.mem_flatMap]
    refine ⟨(ev i).th.toNat, List.mem_range.2 (by omega), ?_⟩
    unfold lvRow
    rw [List.mem_filter]
    refine ⟨List.mem_range.2 hi, ?_⟩
    simp only [Bool.and_eq_true, decide_eq_true_eq]
    exact ⟨h4, by omega⟩
  rw [he] at this
  cases this
theorem wpList_appIs {ops : Array Oper} {rest : List Oper} {o : Oper} {a : Act} {Q : Exit → Act → World → Prop} {w : World} (hgd : o.guard = none) (s x : Operand) (ho : o.op = .call { callee := .builtin .append, args := #[s, x], argTypes := #[23, 23] }) (base : Nat) (v : Value) (out zs : List Int) (b : Option Addr) (m c : Nat)
    (hs : a.eval s = v) (hx : a.eval x = .slice b m c) (hown : OwnI base w v out) (hm : zs.length = m) (hne : zs ≠ []) (hrow : RowI w b zs) (hl : out.length + m ≤ 1048576) (hbase : base ≤ w.heap.size)
    (h : ∀ v' w', OwnI base w' v' (out ++ zs) → Below base w w' → wpList Try.prog ops Q rest (a.put o.dst v') w') : wpList Try.prog ops Q (o :: rest) a w := by
  obtain ⟨i0, hi, hz0, hz1, hz2⟩ := info_parts Try.info3
  rcases hrow with h0 | ⟨g, off, rfl, hr⟩
  · exact absurd h0 hne
  have hnews : ∀ j u, (zs.map I64)[j]? = some u → w.cell? ((⟨g, off, none⟩ : Addr).add j) = some u := by
    intro j u hj
    rw [List.getElem?_map] at hj
    cases hzj : zs[j]? with
    | none => rw [hzj] at hj; cases hj
    | some z =>
      rw [hzj] at hj
      cases hj
      rw [add_none]
      exact hr j z hzj
  refine wpList_append_own (w := w) hgd s x 23 ho base 3 i0 (.int .i64 0) 1 8 Try.underlying23 hi hz0 hz1 hz2 rfl (by decide) v out.length (out.map I64) hs hown ⟨g, off, none⟩ m c (zs.map I64) hx (by rw [List.length_map, hm]; omega) hnews (fun u hu => by obtain ⟨z, _, rfl⟩ := List.mem_map.1 hu; rfl) (by unfold maxLen; omega) (by omega) hbase ?_
  intro v' w' h1 h2 _
  refine h v' w' ?_ ((Below.refl base w).grown h2 hbase hown.block)
  unfold OwnI
  rw [List.length_append, List.map_append, hm]
  exact h1
set_option maxRecDepth 100000 in
set_option maxHeartbeats 3200000 in
theorem flat_any (rows : List (List Int)) (a : Option Addr) (c : Nat) (w : World) (hr : RowII w a rows) (hne : ∀ r ∈ rows, r ≠ []) (hc : rows.length ≤ c) (hl : rows.flatten.length ≤ 1024) (hl2 : rows.length ≤ 1048576) :
    Calls Try.prog 26 #[.slice a rows.length c] w fun r w' => ∃ v, r = .returned v ∧ OwnI w.heap.size w' v rows.flatten ∧ Below w.heap.size w w' := by
  obtain ⟨N, hN⟩ : ∃ N, Hid (N = rows.length) := ⟨_, (rfl : _ = rows.length)⟩
  rw [← hN.out] at hc hl2 ⊢
  have HR : Hid (RowII w a rows ∧ (∀ r ∈ rows, r ≠ []) ∧ rows.flatten.length ≤ 1024) := ⟨hr, hne, hl⟩
  clear hr hne hl
  go_enter Try.func26, Try.ntmps26
  go_wp2_with fail
  go_loopw [3, 4] (fun v t wr => ∃ i : Nat, i ≤ N ∧ t = .int .i64 (i : Int) ∧ Hid (OwnI w.heap.size wr v (rows.take i).flatten) ∧ Hid (Below w.heap.size w wr)) (fun _ t _ => N - (intOf t).toNat)
  case atStart => exact ⟨0, Nat.zero_le _, rfl, (show OwnI _ _ _ _ from World.ownsRow_nil _ _ _ _), Below.refl _ _⟩
  case round =>
    obtain ⟨i, hi, rfl, hO, hB⟩ := hrel
    by_cases hiN : i < N
    · obtain ⟨zs, hz⟩ : ∃ zs, rows[i]? = some zs := ⟨rows[i]'(by rw [← hN.out]; exact hiN), by rw [List.getElem?_eq_getElem]⟩
      obtain ⟨g, o, b, k, rfl, r1, r2, r3, -⟩ := (HR.out.1.below hB.out).at i zs hz
      have HT : Hid (∀ v w', OwnI w.heap.size w' v ((rows.take i).flatten ++ zs) → OwnI w.heap.size w' v (rows.take (i + 1)).flatten) := fun v w' h => by
        rw [List.take_add_one, hz, List.flatten_append]
        simpa using h
      have hlen : (rows.take i).flatten.length + zs.length ≤ 1048576 := by
        have h1 : ((rows.take (i + 1)).flatten).length ≤ rows.flatten.length := by
          conv => rhs; rw [← List.take_append_drop (i + 1) rows]
          rw [List.flatten_append, List.length_append]
          omega
        have h2 : (rows.take (i + 1)).flatten.length = (rows.take i).flatten.length + zs.length := by
          rw [List.take_add_one, hz, List.flatten_append, List.length_append]
          simp
        have := HR.out.2.2
        omega
      have hne := HR.out.2.1 zs (List.mem_of_getElem? hz)
      have hsz := hB.out.size
      obtain ⟨k2, hk2⟩ : ∃ k2, zs.length = k2 := ⟨_, rfl⟩
      rw [hk2] at r1 hlen
      clear hz r3
      go_wp2_with (at_builtin; refine wpList_appIs rfl (.tmp 11) (.tmp 15) rfl w.heap.size _ (rows.take i).flatten zs b k2 k rfl rfl hO.out hk2 hne r2 hlen hsz ?_; intro v' w' hO' hb'; have HO' : Hid (OwnI w.heap.size w' v' (rows.take (i + 1)).flatten) := HT.out v' w' hO'; have HB' : Hid (Below w.heap.size w w') := hB.out.trans hb'; clear hO' hb')
      go_roundw
      case rel => exact ⟨i + 1, by omega, by go_num, HO'.out, HB'.out⟩
      case measure => simp [intOf]; omega
    · have hOf := hO.out
      rw [List.take_of_length_le (by rw [← hN.out]; omega)] at hOf
      go_wp2_with fail
      go_ret
      exact ⟨_, rfl, hOf, hB.out⟩
end Go.Proofs.Ytbamocalhojmeaa

/- The laws' calls of norm, where nothing is wrong. -/
namespace Go.Proofs.Ytbamocalhojmeaa
open Go.RowKit
set_option linter.unusedVariables false
attribute [local go_sem ↓] Go.wp_at_zero Go.wp_at_succ

theorem own_events {base : Nat} {w : World} {v : Value} {es : List Ev} (h : w.ownsRow base 50 3 v es.length (flatE es)) (h0 : 0 < es.length) :
    ∃ g cap cs, v = .slice (some ⟨g, 0, none⟩) es.length cap ∧ base ≤ g ∧ At 50 w g cs ∧ OnE cs es ∧ es.length ≤ cap ∧ es.length * 3 ≤ cs.length := by
  obtain ⟨_, ⟨rfl, h2⟩ | ⟨g, cap, cur, rfl, hg, hh, hl, hm, hs, ht⟩⟩ := h
  · omega
  · have ht2 : cur.toList.take (es.length * 3) = flatE es := ht
    refine ⟨g, cap, cur.toList, rfl, hg, by unfold At; rw [hh], fun i e he j v hj => ?_, hl, ?_⟩
    · have h1 := flatE_at es i e he j v hj
      rw [← ht2] at h1
      have hlt := (List.getElem?_eq_some_iff.1 h1).1
      rw [List.length_take] at hlt
      rwa [List.getElem?_take_of_lt (by omega)] at h1
    · have := Nat.mul_le_mul_right 3 hl
      simp
      omega
/-- A trace of n threads whose events are fit. -/
structure Fit (es : List Ev) (n : Nat) (m : Nat) : Prop where
  wr : wrongZ es n = 0
  ok : ∀ x ∈ es, x.ok
  len : es.length = m
theorem Fit.m2 {es : List Ev} {n m : Nat} (h : Fit es n m) : m ≤ 1024 := by rw [← h.len]; exact (wrongZ_ok h.wr).2.2.1
theorem Fit.sub {es fs : List Ev} {n m : Nat} (h : Fit es n m) (hl : fs.length = m) (hs : ∀ x ∈ fs, x ∈ es) : Fit fs n m := by
  obtain ⟨h1, h2, h3, h4⟩ := wrongZ_ok h.wr
  exact ⟨wrongZ_of h1 h2 (by rw [hl, ← h.len]; exact h3) (fun x hx => h4 x (hs x hx)), fun x hx => h.ok x (hs x hx), hl⟩
theorem Fit.lin {es : List Ev} {n m : Nat} {out : List Nat} (h : Fit es n m) (hL : Lin (evAt es) out m) : Fit (evsAt (evAt es) out) n m := h.sub (by simp [evsAt, hL.len]) fun x hx => by
  obtain ⟨i, hi, rfl⟩ := List.mem_map.1 hx
  exact evAt_mem (by rw [h.len]; exact hL.lt i hi)
theorem Fit.least {es : List Ev} {n m : Nat} (h : Fit es n m) : Fit (leastE es) n m := by
  have := h.lin (out := leastL (evAt es) m) (lin_least _ _)
  unfold leastE
  rw [h.len]
  exact this
theorem Fit.sw {es : List Ev} {n m p : Nat} (h : Fit es n m) (hp : p + 1 < m) : Fit (swL es p) n m := h.sub (by rw [swL_length]; exact h.len) fun x hx => swE_mem (by rw [h.len]; exact hp) x hx
theorem least_at {es : List Ev} {m : Nat} (h : es.length = m) : evsAt (evAt es) (leastL (evAt es) m) = leastE es := by unfold leastE; rw [h]
theorem least_c (HL : LeT 10) {es : List Ev} {n m : Nat} (hF : Fit es n m) (a : Option Addr) (c : Nat) (u : World) (hE : RowEv u a es) (hc : m ≤ c) :
    Calls Try.prog 10 #[.slice a m c, .int .i64 n] u fun r w' => ∃ ap cp, r = .returned (.tuple #[.slice ap m cp, .int .i64 0]) ∧ m ≤ cp ∧ Hid (RowI w' ap (natI (leastL (evAt es) m))) ∧ Below u.heap.size u w' := by
  have := HL es n a c u hE hF.ok (by rw [hF.len]; have := hF.m2; omega) (by rw [hF.len]; exact hc)
  have e : leastZ es n = natI (leastL (evAt es) m) := by unfold leastZ; rw [if_pos hF.wr, hF.len]
  have e2 : (natI (leastL (evAt es) m)).length = m := by rw [natI_length]; exact leastN_length _ _ _
  rw [hF.wr, e, hF.len, e2] at this
  exact this
theorem levels_c (HV : LvT 12) {es : List Ev} {n m : Nat} (hF : Fit es n m) (a : Option Addr) (c : Nat) (u : World) (hE : RowEv u a es) (hc : m ≤ c) :
    Calls Try.prog 12 #[.slice a m c, .int .i64 n] u fun r w' => ∃ ap cp, r = .returned (.tuple #[.slice ap (levelsE (evAt es) m n).length cp, .int .i64 0]) ∧ (levelsE (evAt es) m n).length ≤ cp ∧ Hid (RowII w' ap ((levelsE (evAt es) m n).map natI)) ∧ Below u.heap.size u w' := by
  have := HV es n a c u hE hF.ok (by rw [hF.len]; have := hF.m2; omega) (by rw [hF.len]; exact hc)
  have e : levelsZ es n = (levelsE (evAt es) m n).map natI := by unfold levelsZ; rw [if_pos hF.wr, hF.len]; rfl
  rw [hF.wr, e, hF.len, List.length_map] at this
  exact this
theorem at_c (HS : ScT 16) {es : List Ev} {n m : Nat} (hF : Fit es n m) {out : List Nat} (hL : Lin (evAt es) out m) (a b : Option Addr) (c d : Nat) (u : World) (hE : RowEv u a es) (hr : RowI u b (natI out)) (hc : m ≤ c) (hd : m ≤ d) :
    Calls Try.prog 25 #[.slice a m c, .slice b m d] u fun r w' => ∃ al cl, r = .returned (.slice al m cl) ∧ m ≤ cl ∧ Hid (RowEv w' al (evsAt (evAt es) out)) ∧ Below u.heap.size u w' := by
  refine (at_ok HS es out m a b c d u hE hF.ok hr hF.len hL hc hd (by have := hF.m2; omega)).mono fun r w' ⟨v, d1, d2, d3⟩ => ?_
  obtain ⟨al, cl, rfl, f2, f3⟩ := d2.row
  have e : (evsAt (evAt es) out).length = m := by simp [evsAt, hL.len]
  rw [e] at d1 f2
  exact ⟨al, cl, d1, f2, f3, d3⟩
theorem equiv_c (HE : EqT 14) {es fs : List Ev} {n m : Nat} (hF : Fit es n m) (hG : Fit fs n m) (a b : Option Addr) (c d : Nat) (u : World) (h1 : RowEv u a es) (h2 : RowEv u b fs) (hc : m ≤ c) (hd : m ≤ d) :
    Calls Try.prog 27 #[.slice a m c, .slice b m d, .int .i64 n] u fun r w' => r = .returned (.bool (decide (leastE es = leastE fs))) ∧ Below u.heap.size u w' := by
  have := equivalent_any HE es fs n a b c d u h1 h2 hF.ok hG.ok (by rw [hF.len]; have := hF.m2; omega) (by rw [hG.len]; have := hF.m2; omega) (by rw [hF.len]; exact hc) (by rw [hG.len]; exact hd)
  have e : (equivZ es fs n && decide (equivW es fs n = 0)) = decide (leastE es = leastE fs) := by
    unfold equivZ equivW
    rw [if_pos ⟨hF.wr, hG.wr⟩, if_pos hF.wr, decide_eq_true hG.wr, Bool.and_true]
    rfl
  rw [hF.len, hG.len, e] at this
  exact this
theorem same_c {es fs : List Ev} {m : Nat} (e1 : es.length = m) (e2 : fs.length = m) (hm : m ≤ 1048576) (a b : Option Addr) (c d : Nat) (u : World) (h1 : RowEv u a es) (h2 : RowEv u b fs) (hc : m ≤ c) (hd : m ≤ d) :
    Calls Try.prog 28 #[.slice a m c, .slice b m d] u fun r w' => r = .returned (.bool (decide (es = fs))) ∧ Below u.heap.size u w' := by
  have := sameEvents_any es fs a b c d u h1 h2 (by omega) (by omega) (by omega) (by omega)
  rw [e1, e2] at this
  exact this
theorem natI_flatten (rows : List (List Nat)) : (rows.map natI).flatten = natI rows.flatten := by
  induction rows with
  | nil => rfl
  | cons r rows ih => simp only [List.map_cons, List.flatten_cons, ih]; simp [natI]
theorem levels_lin {es : List Ev} {n m : Nat} (hF : Fit es n m) : Lin (evAt es) (levelsE (evAt es) m n).flatten m := by
  refine lin_levels fun i hi => ?_
  have := (wrongZ_ok hF.wr).2.2.2 (evAt es i) (evAt_mem (by rw [hF.len]; exact hi))
  exact this
theorem flat_c {es : List Ev} {n m : Nat} (hF : Fit es n m) (a : Option Addr) (c : Nat) (u : World) (hR : RowII u a ((levelsE (evAt es) m n).map natI)) (hc : (levelsE (evAt es) m n).length ≤ c) :
    Calls Try.prog 26 #[.slice a (levelsE (evAt es) m n).length c] u fun r w' => ∃ ap cp, r = .returned (.slice ap m cp) ∧ m ≤ cp ∧ Hid (RowI w' ap (natI (levelsE (evAt es) m n).flatten)) ∧ Below u.heap.size u w' := by
  have hlin := levels_lin hF
  have hfull : ∀ r ∈ levelsE (evAt es) m n, r ≠ [] := levels_full fun i hi => (wrongZ_ok hF.wr).2.2.2 (evAt es i) (evAt_mem (by rw [hF.len]; exact hi))
  have hle : (levelsE (evAt es) m n).length ≤ m := by
    have h1 : ∀ rows : List (List Nat), (∀ r ∈ rows, r ≠ []) → rows.length ≤ rows.flatten.length := by
      intro rows
      induction rows with
      | nil => intro _; simp
      | cons r rows ih =>
        intro h
        have h2 := ih fun r hr => h r (List.mem_cons_of_mem _ hr)
        have h3 : 0 < r.length := List.length_pos_iff.2 (h r (List.mem_cons_self ..))
        rw [List.flatten_cons, List.length_append, List.length_cons]
        omega
    have := h1 _ hfull
    rw [hlin.len] at this
    exact this
  have e : ((levelsE (evAt es) m n).map natI).flatten.length = m := by rw [natI_flatten, natI_length, hlin.len]
  have := flat_any ((levelsE (evAt es) m n).map natI) a c u hR (fun r hr => by
    obtain ⟨x, hx, rfl⟩ := List.mem_map.1 hr
    intro h0
    exact hfull x hx (by simpa [natI] using h0)) (by rw [List.length_map]; exact hc) (by rw [e]; exact hF.m2) (by rw [List.length_map]; have := hF.m2; omega)
  rw [List.length_map] at this
  refine this.mono fun r w' ⟨v, d1, d2, d3⟩ => ?_
  obtain ⟨ap, cp, rfl, f2, f3⟩ := d2.row
  rw [e] at d1 f2
  rw [natI_flatten] at f3
  exact ⟨ap, cp, d1, f2, f3, d3⟩
end Go.Proofs.Ytbamocalhojmeaa
