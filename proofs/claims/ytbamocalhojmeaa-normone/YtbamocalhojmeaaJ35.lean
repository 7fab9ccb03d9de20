/- Joined texts of the proof. -/
import Derived.Test.YtbamocalhojmeaaJ34
import Derived.Test.YtbamocalhojmeaaJ22

/- norm.Levels: the walk. -/
namespace Go.Proofs.Ytbamocalhojmeaa
open Go.RowKit
set_option linter.unusedVariables false
attribute [local go_sem ↓] Go.wp_at_zero Go.wp_at_succ

theorem appLg {ops : Array Oper} {rest : List Oper} {o : Oper} {a : Act} {Q : Exit → Act → World → Prop} {w0 : World} (s x : Operand) (z : Value) (base : Nat) (v : Value) (vs : List Value)
    (hgd : o.guard = none) (ho : o.op = .call { callee := .builtin .append, args := #[s, x], argTypes := #[32, 32] })
    (hs : a.eval s = v) (hx : a.eval x = .slice (some ⟨w0.heap.size, 0, none⟩) 1 1) (hz1c : z.oneCell' = true) (hown : OwnL base w0 v vs) (hlen : vs.length ≤ 1048576) (hbase : base ≤ w0.heap.size)
    (h : ∀ v' w', OwnL base w' v' (vs ++ [z]) → (w0.alloc (.cells #[z] 23)).grownBy w' v.ownBlock → wpList Try.prog ops Q rest (a.put o.dst v') w') :
    wpList Try.prog ops Q (o :: rest) a (w0.alloc (.cells #[z] 23)) := by
  obtain ⟨i0, hi, hz0, hz1, hz2⟩ := info_parts Try.info23
  refine wpList_append_own (w := w0.alloc (.cells #[z] 23)) hgd s x 32 ho base 23 i0 (.slice none 0 0) 1 24 Try.underlying32 hi hz0 hz1 hz2 rfl (by decide) v vs.length vs hs (World.ownsRow.alloc hown _)
    ⟨w0.heap.size, 0, none⟩ 1 1 [z] hx rfl ?c1 ?c2 ?c3 ?c4 ?c5 ?_
  case c1 =>
    intro j u hj
    match j, hj with
    | 0, hj => simp at hj; subst hj; simp [Addr.add]
  case c2 => intro u hu; simp at hu; subst hu; exact hz1c
  case c3 => unfold maxLen; omega
  case c4 => omega
  case c5 => simp; omega
  intro v' w' h1 h2 _
  exact h v' w' (by simpa [OwnL] using h1) h2
theorem ownL_cells {base : Nat} {w : World} {v : Value} {vs : List Value} (h : OwnL base w v vs) : ∀ g, v.ownBlock = some g → base ≤ g ∧ ∃ cs, w.heap[g]? = some (.cells cs 23 (0, 0)) := fun g hg => by
  obtain ⟨_, ⟨rfl, _⟩ | ⟨g', cap, cur, rfl, h1, h2, _⟩⟩ := h
  · cases hg
  · cases hg
    exact ⟨h1, cur, h2⟩
theorem ownL_kept {base : Nat} {w w' : World} {v : Value} {vs : List Value} (h : OwnL base w v vs) {o : Option Nat} (hg : w.grownBy w' o) (ho : ∀ g, o = some g → ∃ cs, w.heap[g]? = some (.cells cs 3 (0, 0))) : OwnL base w' v vs := by
  refine World.ownsRow.kept h hg ?_
  cases hv : v.ownBlock with
  | none => exact .inl rfl
  | some g =>
    refine .inr fun e => ?_
    obtain ⟨_, cs, h1⟩ := ownL_cells h g hv
    obtain ⟨cs2, h2⟩ := ho g e.symm
    rw [h1] at h2
    cases h2

set_option maxRecDepth 100000 in
set_option maxHeartbeats 6400000 in
theorem levels_s : LvS 12 := fun es n a c w hE hok hl hc => by
  unfold levelsZ
  obtain ⟨w0, hw0⟩ : ∃ u, Hid (u = w.alloc (.cells #[.slice a es.length c] 22)) := ⟨_, (rfl : _ = _)⟩
  have hb0 : Below w.heap.size w w0 := by rw [hw0.out]; exact (Below.refl _ w).alloc (Nat.le_refl _) _
  obtain ⟨bl, hbl⟩ : ∃ b, Hid (b = w.heap.size) := ⟨_, (rfl : _ = w.heap.size)⟩
  have hbox : Boxed w0 bl 22 (.slice a es.length c) := by rw [hw0.out, hbl.out]; exact Boxed.new w 22 _
  have hE0 := hE.below hb0
  by_cases hw : wrongZ es n = 0
  · obtain ⟨h1, h2, h3, h4⟩ := wrongZ_ok hw
    obtain ⟨nn, hnn⟩ : ∃ k : Nat, n = (k : Int) := ⟨n.toNat, by omega⟩
    subst hnn
    rw [if_pos hw, hw, Int.toNat_natCast]
    have HC := hidU (clocks_ok a c nn es w0 hE0 hok hc hw)
    have HL : Hid (∀ u G M, ClkAt w0.heap.size u G M nn (clksL (evAt es) nn es.length) → Below w0.heap.size w0 u → Calls Try.prog 41 #[.slice (some ⟨G, 0, none⟩) es.length es.length, .slice a es.length c] u fun r w' => ∃ g, r = .returned (.slice (some ⟨g, 0, none⟩) es.length es.length) ∧ At 3 w' g (cellsN es.length (lev (evAt es))) ∧ Below w0.heap.size w0 w') := fun u G M hK hb => by
      refine (levelNumbers_any es nn (some ⟨G, 0, none⟩) a es.length c u ⟨hK.row (by omega), hE0.below hb, by omega, by omega, h3, hok, h4⟩ (Nat.le_refl _) hc).mono ?_
      rintro r w' ⟨g, rfl, k1, k2, k3⟩
      exact ⟨g, rfl, k1, hb.trans (k3.mono hb.size)⟩
    have HG : Hid (∀ u g, At 3 u g (cellsN es.length (lev (evAt es))) → Below w0.heap.size w0 u → Calls Try.prog 40 #[.slice (some ⟨g, 0, none⟩) es.length es.length] u fun r w' => ∃ b V, r = .returned (.map (some b)) ∧ Grp (b + 1) w' b (srtL (evAt es) es.length nn 0) V ∧ w0.heap.size ≤ b ∧ b + 1 ≤ w'.heap.size ∧ Below w0.heap.size w0 w') := fun u g hA hb => by
      refine (gathered_any (evAt es) es.length g u hA h3).mono ?_
      rintro r w' ⟨b, V, rfl, k1, k2, k3, k4⟩
      exact ⟨b, V, rfl, by rw [srtL_zero]; exact k1, Nat.le_trans hb.size k2, k3, hb.trans (k4.mono hb.size)⟩
    obtain ⟨K, hK⟩ : ∃ K, Hid (K = kN (evAt es) es.length) := ⟨_, (rfl : _ = kN _ _)⟩
    have hKb : K ≤ 1024 := by
      rw [hK.out]
      unfold kN
      have := mostTo_le (evAt es) es.length
      omega
    have HSRT : Hid (∀ (u : World) (b : Nat) (V : List Value) (vo v : Value) (q : Nat), q < K → Grp (b + 1) u b (srtL (evAt es) es.length nn q) V → V[q]? = some v → OwnL (b + 1) u vo (V.take q) → Below w0.heap.size w0 u → w0.heap.size ≤ b → Calls Try.prog 42 #[v, .func (.func 38) #[] #[.pointer (some ⟨bl, 0, none⟩)]] u fun r w' => r = .returned (.tuple #[]) ∧ Grp (b + 1) w' b (srtL (evAt es) es.length nn (q + 1)) V ∧ OwnL (b + 1) w' vo (V.take q) ∧ Below w0.heap.size w0 w' ∧ u.heap.size ≤ w'.heap.size) := fun u b V vo v q hq hG hv hO hb hbb => by
      have hq2 : q < kN (evAt es) es.length := by rw [← hK.out]; exact hq
      have hrow := hG.row q v _ hv (srtL_at (evAt es) hq2)
      rw [if_neg (by omega)] at hrow
      obtain ⟨gv, e1, e2, e3⟩ := rwz_block hrow
      have hm0 : 0 < es.length := by
        rcases Nat.eq_zero_or_pos es.length with h | h
        · rw [h] at hq2
          simp [kN, mostTo] at hq2
        · exact h
      have hsz := hb0.size
      have hlt0 := hbox.lt
      refine (sortFunc_any es (b + 1) u v (gLv (evAt es) es.length q) bl a c hrow (fun x hx => by simp [gLv] at hx; exact hx.1) hm0 ((hb.block bl hlt0).trans hbox) (hE0.below hb) (by rw [e1]; intro e; cases e; omega) (fun G O ha => by
        rw [e1]
        intro e
        cases e
        have := hE.lt hm0 _ _ ha
        omega) (by have := gLv_length (evAt es) es.length q; omega)).mono ?_
      rintro r w' ⟨rfl, N', k1, k2, k3, k4⟩
      have hN : N' = lvRows (evAt es) es.length q nn := lv_sorted (fun x hx => h4 _ (evAt_mem hx)) k1 k2
      subst hN
      have hG2 := hG.turn hv k4 k3
      rw [srtL_set (evAt es) hq2] at hG2
      refine ⟨rfl, hG2, ownL_kept hO k4 (fun g e => ?_), hb.grown k4 hb.size (fun k e => by rw [e1] at e; cases e; omega), k4.size⟩
      obtain ⟨g3, cs3, e4, _, e5, _⟩ := hrow
      rw [e4] at e
      cases e
      exact ⟨cs3.toArray, e5⟩
    have hlv : ((levelsE (evAt es) es.length nn).map natI).length = K := by
      rw [← srtL_end, srtL_length, hK.out]
    rw [hlv]
    have HEND : Hid (∀ (u : World) (b : Nat) (V : List Value) (vo : Value), Grp (b + 1) u b (srtL (evAt es) es.length nn K) V → OwnL (b + 1) u vo (V.take K) → Below w0.heap.size w0 u → w0.heap.size ≤ b → ∃ ap cp bb cc, vo = .slice ap K cp ∧ K ≤ cp ∧ LvR (fun k => w.heap.size ≤ k) 0 u ap ((levelsE (evAt es) es.length nn).map natI) bb cc ∧ Below w.heap.size w u) := fun u b V vo hG hO hb hbb => by
      have hVl : V.length = K := by rw [hG.len, srtL_length, hK.out]
      rw [List.take_of_length_le (by omega)] at hO
      have hsz := hb0.size
      rw [hK.out, srtL_end] at hG
      obtain ⟨ap, cp, bb, cc, q1, q2, q3⟩ := levels_r (d := w.heap.size) hG hO (by omega) (fun zs hz => by
        obtain ⟨r, hr, rfl⟩ := List.mem_map.1 hz
        unfold levelsE levelsL at hr
        obtain ⟨l, _, rfl⟩ := List.mem_map.1 hr
        rw [natI_length]
        have h7 := lvRows_length (evAt es) es.length l nn
        have h8 := Nat.mul_le_mul (show nn ≤ 16 by omega) h3
        omega)
      rw [hlv] at q1 q2
      exact ⟨ap, cp, bb, cc, q1, q2, q3, hb0.trans (hb.mono hb0.size)⟩
    have HK0 : Hid ((srtL (evAt es) es.length nn 0).length = K) := by rw [srtL_length, hK.out]; exact (rfl : _ = _)
    have cbl : w0.cell? ⟨bl, 0, none⟩ = some (.slice a es.length c) := hbox.cell
    have HBX : Hid (∀ u, Below w0.heap.size w0 u → u.cell? ⟨bl, 0, none⟩ = some (.slice a es.length c)) := fun u hu => (hu.cell (lt_of_cell cbl)).trans cbl
    obtain ⟨Z, hZ⟩ : ∃ Z, Hid (Z = (levelsE (evAt es) es.length nn).map natI) := ⟨_, (rfl : _ = _)⟩
    rw [← hZ.out] at HEND ⊢
    obtain ⟨S, hS⟩ : ∃ S, Hid (S = srtL (evAt es) es.length nn) := ⟨_, (rfl : _ = srtL _ _ _)⟩
    rw [← hS.out] at HG HSRT HEND HK0
    have HSL : Hid (∀ q, (S q).length = K) := fun q => by rw [hS.out, srtL_length, hK.out]
    obtain ⟨CL, hCL⟩ : ∃ CL, Hid (CL = fun (u : World) (G M : Nat) => ClkAt w0.heap.size u G M nn (clksL (evAt es) nn es.length)) := ⟨_, (rfl : _ = _)⟩
    have HC2 : Hid (Calls Try.prog 34 #[.slice a es.length c, .int .i64 nn] w0 fun r w' => ∃ G M, r = .returned (.tuple #[.slice (some ⟨G, 0, none⟩) es.length es.length, .int .i64 0]) ∧ CL w' G M ∧ Below w0.heap.size w0 w') := by
      rw [hCL.out]
      exact HC.out
    have HL2 : Hid (∀ u G M, CL u G M → Below w0.heap.size w0 u → Calls Try.prog 41 #[.slice (some ⟨G, 0, none⟩) es.length es.length, .slice a es.length c] u fun r w' => ∃ g, r = .returned (.slice (some ⟨g, 0, none⟩) es.length es.length) ∧ At 3 w' g (cellsN es.length (lev (evAt es))) ∧ Below w0.heap.size w0 w') := by
      rw [hCL.out]
      exact HL.out
    obtain ⟨AL, hAL⟩ : ∃ AL, Hid (AL = fun (u : World) (g : Nat) => At 3 u g (cellsN es.length (lev (evAt es)))) := ⟨_, (rfl : _ = _)⟩
    have HL3 : Hid (∀ u G M, CL u G M → Below w0.heap.size w0 u → Calls Try.prog 41 #[.slice (some ⟨G, 0, none⟩) es.length es.length, .slice a es.length c] u fun r w' => ∃ g, r = .returned (.slice (some ⟨g, 0, none⟩) es.length es.length) ∧ AL w' g ∧ Below w0.heap.size w0 w') := by
      rw [hAL.out]
      exact HL2.out
    have HG2 : Hid (∀ u g, AL u g → Below w0.heap.size w0 u → Calls Try.prog 40 #[.slice (some ⟨g, 0, none⟩) es.length es.length] u fun r w' => ∃ b V, r = .returned (.map (some b)) ∧ Grp (b + 1) w' b (S 0) V ∧ w0.heap.size ≤ b ∧ b + 1 ≤ w'.heap.size ∧ Below w0.heap.size w0 w') := by
      rw [hAL.out]
      exact HG.out
    obtain ⟨m, hm⟩ : ∃ m, Hid (m = es.length) := ⟨_, (rfl : _ = es.length)⟩
    rw [← hm.out] at HC2 HL3 HG2 HBX ⊢
    clear HC HL HG HL2 hE hE0 hok hl hc hw h1 h2 h3 h4 hlv hbox cbl hb0
    go_enter Try.func12, Try.ntmps12
    rw [← hm.out] at hw0
    go_wp2_with fail
    rw [← hw0.out, ← hbl.out]
    refine HC2.out.mono ?_
    rintro e w1 ⟨G, M, rfl, hcl, hb1⟩
    have HCL := hidU hcl
    have cb1 := HBX.out w1 hb1
    have HL4 := hidU (HL3.out w1 G M hcl hb1)
    clear hcl hb1
    go_wp2_with (first | (go_at_call 41; refine HL4.out.mono ?_; rintro e w2 ⟨g2, rfl, ha2, hb2⟩; have HG4 := hidU (HG2.out w2 g2 ha2 hb2); clear ha2 hb2) | (go_at_call 40; refine HG4.out.mono ?_; rintro e w3 ⟨b, V, rfl, k1, k2, k3, k4⟩; have hlen := k1.len_run; rw [HSL.out] at hlen; have KK := hidU (And.intro k1 (And.intro k2 (And.intro k3 k4))); clear k1 k2 k3 k4))
    clear hlen cb1 HL4 HG4 HCL
    have hbb := KK.out.2.1
    go_loopw [10, 28] (fun vo s wr => ∃ q : Nat, s = .int .i64 (q : Int) ∧ q ≤ K ∧ Hid (Grp (b + 1) wr b (S q) V ∧ OwnL (b + 1) wr vo (V.take q) ∧ Below w0.heap.size w0 wr ∧ b + 1 ≤ wr.heap.size)) (fun _ s _ => K - (intOf s).toNat)
    case atStart => exact ⟨0, rfl, Nat.zero_le _, KK.out.1, World.ownsRow_nil _ _ _ _, KK.out.2.2.2, KK.out.2.2.1⟩
    case round =>
      obtain ⟨q, rfl, hq, hI⟩ := hrel
      clear KK
      by_cases hqK : q < K
      · have q1 : (q : Int) < (K : Int) := by omega
        obtain ⟨hG, hO, hB, hsz⟩ := hI.out
        have hVl : V.length = K := by rw [hG.len, HSL.out]
        obtain ⟨v, hv⟩ : ∃ v, V[q]? = some v := ⟨V[q]'(by omega), by rw [List.getElem?_eq_getElem]⟩
        obtain ⟨gv, lv, cv, rfl⟩ : ∃ gv lv cv, v = .slice (some ⟨gv, 0, none⟩) lv cv := by
          obtain ⟨gv, cs, e, _⟩ := hG.row q v _ hv (List.getElem?_eq_getElem (by rw [HSL.out]; exact hqK))
          exact ⟨gv, _, _, e⟩
        have hlu := hG.lookup hv
        have HST := hidU (HSRT.out wr b V u10 _ q hqK hG hv hO hB hbb)
        have HNX : Hid (∀ (W1 : World) (v' : Value) (W2 : World), Grp (b + 1) W1 b (S (q + 1)) V → Below w0.heap.size w0 W1 → b + 1 ≤ W1.heap.size → OwnL (b + 1) W1 u10 (V.take q) → OwnL (b + 1) W2 v' (V.take q ++ [.slice (some ⟨gv, 0, none⟩) lv cv]) → (W1.alloc (.cells #[.slice (some ⟨gv, 0, none⟩) lv cv] 23)).grownBy W2 (Value.ownBlock u10) → Grp (b + 1) W2 b (S (q + 1)) V ∧ OwnL (b + 1) W2 v' (V.take (q + 1)) ∧ Below w0.heap.size w0 W2 ∧ b + 1 ≤ W2.heap.size) := fun W1 v' W2 h1 h2 h3 h4 h5 h6 => by
          have g1 := World.grownBy_alloc W1 (.cells #[.slice (some ⟨gv, 0, none⟩) lv cv] 23) none
          have hO1 := World.ownsRow.alloc h4 (.cells #[.slice (some ⟨gv, 0, none⟩) lv cv] 23)
          have hb1 := h2.alloc h2.size (.cells #[.slice (some ⟨gv, 0, none⟩) lv cv] 23)
          refine ⟨(h1.keep g1 (fun g e => by cases e)).keep h6 (fun g e => (ownL_cells hO1 g e).2), ?_, hb1.grown h6 hb1.size (fun k e => by have := (ownL_cells hO1 k e).1; omega), Nat.le_trans h3 (Nat.le_trans g1.size h6.size)⟩
          rw [List.take_add_one, hv]
          exact h5
        have htk : (V.take q).length ≤ 1048576 := by rw [List.length_take]; omega
        clear hG hO hB hI
        go_wp2_with (go_at_call 42; refine HST.out.mono ?_; rintro e W1 ⟨rfl, k1, k2, k3, k4⟩; have hlu2 := k1.lookup hv; have k5 : b + 1 ≤ W1.heap.size := Nat.le_trans hsz k4; have K1 := hidU k1; have K2 := hidU k2; have K3 := hidU k3; clear k1 k2 k3 k4 hlu; refine Hid.out ?_)
        refine hidU ?_
        go_wp2_with (at_builtin; refine appLg (.tmp 36) (.tmp 40) (.slice (some ⟨gv, 0, none⟩) lv cv) (b + 1) u10 (V.take q) rfl rfl rfl rfl rfl K2.out htk k5 ?_; intro v' W2 h5 h6; have HE := hidU (HNX.out W1 v' W2 K1.out K3.out k5 K2.out h5 h6); clear h5 h6)
        go_roundw
        case rel => exact ⟨q + 1, by go_num, by omega, HE.out⟩
        case measure => simp [intOf]; omega
      · have e : K = q := by omega
        subst e
        obtain ⟨ap, cp, bb, cc, e1, e2, e3, e4⟩ := HEND.out wr b V u10 hI.out.1 hI.out.2.1 hI.out.2.2.1 hbb
        subst e1
        have HE := hidU (And.intro e2 (And.intro e3 e4))
        clear hI e2 e3 e4
        go_wp2_with fail
        go_ret2
        exact ⟨ap, cp, bb, cc, rfl, HE.out⟩
  · rw [if_neg hw]
    have HC := hidU (clocks_bad a c n es w0 hE0 hl hc hw)
    obtain ⟨R, hR⟩ : ∃ R, Hid (R = wrongZ es n) := ⟨_, (rfl : _ = wrongZ es n)⟩
    rw [← hR.out] at HC hw ⊢
    have hw2 : (R == 0) = false := beq_eq_false_iff_ne.2 hw
    have HB0 := hidU hb0
    obtain ⟨m, hm⟩ : ∃ m, Hid (m = es.length) := ⟨_, (rfl : _ = es.length)⟩
    rw [← hm.out] at HC hw0 ⊢
    clear hE hE0 hok hl hc hbox hb0
    go_enter Try.func12, Try.ntmps12
    go_wp2_with fail
    rw [← hw0.out, ← hbl.out]
    refine HC.out.mono ?_
    rintro e w1 ⟨rfl, hb⟩
    have HB := hidU hb
    clear hb
    go_wp2_with fail
    go_ret2
    exact ⟨none, 0, fun _ => none, fun _ => 0, rfl, Nat.le_refl _, ⟨.inl rfl, fun i zs _ hz => by simp at hz, fun i zs hz => by simp at hz, fun i hi => by simp at hi, fun i j hi => by simp at hi⟩, HB0.out.trans (HB.out.mono HB0.out.size)⟩
end Go.Proofs.Ytbamocalhojmeaa

/- norm.Schedule. -/
namespace Go.Proofs.Ytbamocalhojmeaa
open Go.RowKit
set_option linter.unusedVariables false
attribute [local go_sem ↓] Go.wp_at_zero Go.wp_at_succ

theorem ord_of {zs : List Int} {m : Nat} (h : orderOk zs m = true) {k : Nat} (hk : k < m) : ∃ x : Nat, zs[k]? = some (x : Int) ∧ x < m := by
  unfold orderOk at h
  rw [Bool.and_eq_true, decide_eq_true_eq] at h
  have h2 := List.all_eq_true.1 h.2 k (List.mem_range.2 (by omega))
  unfold goodAt at h2
  rw [Bool.and_eq_true, decide_eq_true_eq] at h2
  have hz := List.getElem?_eq_getElem (l := zs) (i := k) (by omega)
  have e : zs.getD k 0 = zs[k]'(by omega) := by simp [List.getD, hz]
  rw [e] at h2
  exact ⟨(zs[k]'(by omega)).toNat, by rw [hz]; congr 1; omega, by omega⟩

set_option maxRecDepth 100000 in
set_option maxHeartbeats 6400000 in
theorem isEachOnce_any (zs : List Int) (b : Option Addr) (d m : Nat) (w : World) (hr : RowI w b zs) (hd : zs.length ≤ d) (hm : m ≤ 1048576) (hm2 : zs.length ≤ 1048576) :
    Calls Try.prog 46 #[.slice b zs.length d, .int .i64 (m : Int)] w fun r w' => r = .returned (.bool (orderOk zs m)) ∧ Below w.heap.size w w' := by
  obtain ⟨i0, hi0, hz0, hz1, hz2⟩ := info_parts Try.info4
  obtain ⟨N, hN⟩ : ∃ N, Hid (N = zs.length) := ⟨_, (rfl : _ = zs.length)⟩
  obtain ⟨R, hR⟩ : ∃ R, Hid (R = orderOk zs m) := ⟨_, (rfl : _ = orderOk _ _)⟩
  have HR := hidU hr
  rw [← hN.out, ← hR.out]
  rw [← hN.out] at hd hm2
  clear hr
  by_cases hNm : N = m
  · subst hNm
    go_enter Try.func46, Try.ntmps46
    go_wp2_with (at_make; refine wpList_make_full _ rfl (.tmp 12) (.tmp 12) 65 rfl w.heap.size 4 i0 (.bool false) 1 Try.underlying65 hi0 hz0 hz1 .i64 .i64 _ _ N rfl rfl rfl rfl (by rw [hz2]; omega) (by unfold maxLen; omega) (Nat.le_refl _) ?_)
    intro w4 hown4 hgrow4
    obtain ⟨gi, hgi⟩ : ∃ g, Hid (g = w.heap.size) := ⟨_, (rfl : _ = w.heap.size)⟩
    have HB4 : Hid (Below w.heap.size w w4) := (Below.refl _ w).grown hgrow4 (Nat.le_refl _) (by intro k hk; cases hk)
    have HA4 : Hid (At 4 w4 gi (cellsB N (metB zs 0))) := by
      obtain ⟨_, ⟨h, _⟩ | ⟨g, cp, cur, h, hg, hh, _, _, hs, ht⟩⟩ := hown4
      · cases h
      · cases h
        show At _ _ _ _
        rw [hgi.out, met_none, ← toList_madeCells_one]
        unfold At
        rw [hh]
        have e : cur.toList = (madeCells #[Value.bool false] N).toList := by rw [← ht, List.take_of_length_le (by simp [hs])]
        rw [← e]
    rw [← hgi.out]
    clear hown4 hgrow4
    go_wp2_with fail
    go_loopw [16] (fun t wr => ∃ k : Nat, k ≤ N ∧ t = .int .i64 k ∧ Hid (goodTo zs N k = true) ∧ Hid (At 4 wr gi (cellsB N (metB zs k))) ∧ Hid (Below w.heap.size w wr)) (fun t _ => N - (intOf t).toNat)
    case atStart => exact ⟨0, Nat.zero_le _, rfl, (show _ = _ from rfl), HA4.out, HB4.out⟩
    case round =>
      obtain ⟨k, hk, rfl, hgood, hA, hB⟩ := hrel
      clear HA4 HB4
      by_cases hkN : k < N
      · obtain ⟨z, hz⟩ : ∃ z, zs[k]? = some z := ⟨zs[k]'(by rw [← hN.out]; exact hkN), by rw [List.getElem?_eq_getElem]⟩
        obtain ⟨gb, ob, rfl, q1⟩ := (HR.out.below hB.out).at k z hz
        have hgd : zs.getD k 0 = z := by simp [List.getD, hz]
        have k1 : (k : Int) < (N : Int) := by omega
        have bad : goodAt zs N k = false → R = false := fun h => by
          rw [hR.out]
          unfold orderOk
          rw [← hN.out, Bool.and_eq_false_iff]
          exact .inr (goodTo_mono (show k + 1 ≤ N from hkN) (by rw [goodTo_step, h, Bool.and_false]))
        have HX : Hid (zs[k]? = some z) := hz
        clear hz
        by_cases hz0 : z < 0
        · have HF := hidU (bad (by unfold goodAt; rw [hgd, decide_eq_false (by omega)]; rfl))
          clear bad
          go_wp2_with fail
          go_ret
          exact ⟨by rw [HF.out]; rfl, hB.out⟩
        · by_cases hzN : (N : Int) ≤ z
          · have HF := hidU (bad (by unfold goodAt; rw [hgd, decide_eq_false (by omega)]; rfl))
            clear bad
            go_wp2_with fail
            go_ret
            exact ⟨by rw [HF.out]; rfl, hB.out⟩
          · obtain ⟨x, rfl⟩ : ∃ x : Nat, z = (x : Int) := ⟨z.toNat, by omega⟩
            have hxN : x < N := by omega
            have hin : wr.cell? ⟨gi, x, none⟩ = some (.bool (metB zs k x)) := by rw [hA.out.cell]; exact cellsB_at hxN
            have hfr := hA.out.frozen x
            obtain ⟨M, hM⟩ : ∃ M, M = metB zs k x := ⟨_, rfl⟩
            rw [← hM] at hin
            have z3 : (x : Int) < (N : Int) := by omega
            have z4 : ¬ (x : Int) < 0 := by omega
            have z5 : ¬ (N : Int) ≤ (x : Int) := by omega
            cases M
            · have hg1 : goodAt zs N k = true := by
                unfold goodAt
                rw [hgd, decide_eq_true ⟨by omega, z3⟩]
                unfold metB at hM
                rw [← hM]
                rfl
              have HG2 : Hid (goodTo zs N (k + 1) = true) := by show _ = _; rw [goodTo_step, hgood.out, hg1]; rfl
              have HN : Hid (At 4 (wr.setCell ⟨gi, x, none⟩ (.bool true)) gi (cellsB N (metB zs (k + 1))) ∧ Below w.heap.size w (wr.setCell ⟨gi, x, none⟩ (.bool true))) := by
                rw [← met_set hxN HX.out]
                exact ⟨hA.out.set x _, hB.out.setCell (by show w.heap.size ≤ gi; rw [hgi.out]; exact Nat.le_refl _) _⟩
              clear bad hg1 hM hgood hgd
              go_wp2_with fail
              go_roundw
              case rel => exact ⟨k + 1, by omega, by go_num, HG2.out, HN.out.1, HN.out.2⟩
              case measure => simp [intOf]; omega
            · have HF := hidU (bad (by
                unfold goodAt
                unfold metB at hM
                rw [hgd, ← hM, Bool.not_true, Bool.and_false]))
              clear bad hM hgd
              go_wp2_with fail
              go_ret
              exact ⟨by rw [HF.out]; rfl, hB.out⟩
      · have e : N = k := by omega
        subst e
        have HE : Hid (R = true) := by
          show _ = _
          rw [hR.out]
          unfold orderOk
          rw [← hN.out, hgood.out]
          simp
        go_wp2_with fail
        go_ret
        exact ⟨by rw [HE.out]; rfl, hB.out⟩
  · have hne : ((N : Int) == (m : Int)) = false := beq_eq_false_iff_ne.2 (by omega)
    have HE : Hid (R = false) := by
      show _ = _
      rw [hR.out]
      unfold orderOk
      rw [← hN.out, decide_eq_false hNm, Bool.false_and]
    go_enter Try.func46, Try.ntmps46
    go_wp2_with fail
    go_ret
    exact ⟨by rw [HE.out]; rfl, Below.refl _ _⟩
/-- The schedule's row up to k. -/
def fSc (ev : Nat → Ev) (zs : List Int) (k x : Nat) : Int := if x < k then (ev (zs.getD x 0).toNat).th else 0
theorem fSc_set {ev : Nat → Ev} {zs : List Int} {N k x : Nat} (hk : k < N) (hx : zs[k]? = some (x : Int)) : (cellsZ N (fSc ev zs k)).set k (.int .i64 (ev x).th) = cellsZ N (fSc ev zs (k + 1)) := by
  rw [cellsZ_set _ _ hk]
  congr 1
  funext y
  unfold updZ fSc
  by_cases h : y = k
  · subst h
    simp [List.getD, hx]
  · rw [if_neg h]
    by_cases h2 : y < k
    · rw [if_pos h2, if_pos (by omega)]
    · rw [if_neg h2, if_neg (by omega)]
theorem fSc_end (ev : Nat → Ev) (zs : List Int) : cellsZ zs.length (fSc ev zs zs.length) = (thOf ev zs).map I64 := by
  apply List.ext_getElem?
  intro i
  by_cases h : i < zs.length
  · rw [cellsZ_at h]
    simp [fSc, h, thOf, I64, List.getD]
  · rw [List.getElem?_eq_none (by rw [cellsZ_length]; omega), List.getElem?_eq_none (by simp [thOf]; omega)]

set_option maxRecDepth 100000 in
set_option maxHeartbeats 6400000 in
theorem schedule_s : ScS 16 := fun es zs a b c d w hE hok hr hzs hc hd hm hm2 => by
  obtain ⟨i0, hi0, hz0, hz1, hz2⟩ := info_parts Try.info3
  obtain ⟨ev, hev⟩ : ∃ ev, Hid (ev = evAt es) := ⟨_, (rfl : _ = evAt _)⟩
  have HI := hidU (isEachOnce_any zs b d es.length w hr hd hm hm2)
  unfold schedZ schedW
  obtain ⟨m, hmm⟩ : ∃ m, Hid (m = es.length) := ⟨_, (rfl : _ = es.length)⟩
  have HR : Hid (RowEv w a es ∧ RowI w b zs) := ⟨hE, hr⟩
  cases ho : orderOk zs es.length with
  | false =>
    rw [ho] at HI
    simp only [Bool.false_eq_true, if_false]
    obtain ⟨N, hN⟩ : ∃ N, Hid (N = zs.length) := ⟨_, (rfl : _ = zs.length)⟩
    rw [← hmm.out, ← hN.out] at HI ⊢
    clear hE hr hok hzs ho
    go_enter Try.func16, Try.ntmps16
    go_wp2_with (go_at_call 46; refine HI.out.mono ?_; rintro e w1 ⟨rfl, hb⟩; have HB := hidU hb; clear hb)
    go_ret2
    exact ⟨none, 0, rfl, Nat.le_refl _, .inl rfl, ⟨by omega, .inl rfl⟩, HB.out⟩
  | true =>
    rw [ho] at HI
    simp only [if_true]
    have HO := hidU ho
    have hlen : zs.length = es.length := by
      unfold orderOk at ho
      rw [Bool.and_eq_true, decide_eq_true_eq] at ho
      exact ho.1
    have hth : (thOf (evAt es) zs).length = es.length := by simp [thOf, hlen]
    rw [hth]
    have HZ : Hid (∀ k, k < m → ∃ x : Nat, zs[k]? = some (x : Int) ∧ x < m) := fun k hk => by
      rw [hmm.out] at hk ⊢
      exact ord_of HO.out hk
    rw [hlen] at HI hd ⊢
    rw [← hmm.out] at HI hd hc hm ⊢
    have HLN := hidU hlen
    clear hE hr hok hzs ho hlen hth hm2
    go_enter Try.func16, Try.ntmps16
    go_wp2_with (first | (go_at_call 46; refine HI.out.mono ?_; rintro e w1 ⟨rfl, hb⟩; have HB := hidU hb; clear hb) | (at_make; refine wpList_make_full _ rfl (.tmp 15) (.tmp 15) 23 rfl w1.heap.size 3 i0 (.int .i64 0) 1 Try.underlying23 hi0 hz0 hz1 .i64 .i64 _ _ m rfl rfl rfl rfl (by rw [hz2]; omega) (by unfold maxLen; omega) (Nat.le_refl _) ?_))
    intro w4 hown4 hgrow4
    have hA0 := made_cellsN hown4
    obtain ⟨g, hg⟩ : ∃ g, Hid (g = w1.heap.size) := ⟨_, (rfl : _ = w1.heap.size)⟩
    have hwg : w.heap.size ≤ g := by rw [hg.out]; exact HB.out.size
    have HA4 : Hid (At 3 w4 g (cellsZ m (fSc ev zs 0)) ∧ Below w.heap.size w w4) := by
      refine ⟨?_, HB.out.trans (((Below.refl _ w1).grown hgrow4 (Nat.le_refl _) (by intro k hk; cases hk)).mono HB.out.size)⟩
      rw [hg.out]
      exact hA0
    rw [← hg.out]
    clear hown4 hgrow4 hA0 HI
    go_wp2_with fail
    go_loopw [19] (fun t wr => ∃ k : Nat, k ≤ m ∧ t = .int .i64 k ∧ Hid (At 3 wr g (cellsZ m (fSc ev zs k)) ∧ Below w.heap.size w wr)) (fun t _ => m - (intOf t).toNat)
    case atStart => exact ⟨0, Nat.zero_le _, rfl, HA4.out⟩
    case round =>
      obtain ⟨k, hk, rfl, hA⟩ := hrel
      clear HA4
      by_cases hkm : k < m
      · obtain ⟨x, hx, hxm⟩ := HZ.out k hkm
        have k1 : (k : Int) < (m : Int) := by omega
        have x1 : (x : Int) < (m : Int) := by omega
        obtain ⟨gb, ob, rfl, q1⟩ := (HR.out.2.below hA.out.2).at k _ hx
        obtain ⟨ga, oa, rfl, r1⟩ := (HR.out.1.below hA.out.2).at x (evAt es x) (evAt_get (by rw [← hmm.out]; exact hxm))
        have e1 := (range_cells r1).1
        rw [← hev.out] at e1
        obtain ⟨T, hT⟩ : ∃ T, Hid (T = (ev x).th) := ⟨_, (rfl : _ = (ev x).th)⟩
        rw [← hT.out] at e1
        have ck : wr.cell? ⟨g, k, none⟩ = some (.int .i64 (fSc ev zs k k)) := by rw [hA.out.1.cell, cellsZ_at hkm]
        have fk := hA.out.1.frozen k
        have HN : Hid (At 3 (wr.setCell ⟨g, k, none⟩ (.int .i64 T)) g (cellsZ m (fSc ev zs (k + 1))) ∧ Below w.heap.size w (wr.setCell ⟨g, k, none⟩ (.int .i64 T))) := by
          rw [← fSc_set hkm hx, hT.out]
          exact ⟨hA.out.1.set k _, hA.out.2.setCell (by show w.heap.size ≤ g; exact hwg) _⟩
        clear hA r1 hx
        go_wp2_with fail
        go_roundw
        case rel => exact ⟨k + 1, by omega, by go_num, HN.out⟩
        case measure => simp [intOf]; omega
      · have e : m = k := by omega
        subst e
        have HE : Hid (RowI wr (some ⟨g, 0, none⟩) (thOf (evAt es) zs) ∧ WrZ (fun k => w.heap.size ≤ k) wr (some ⟨g, 0, none⟩) m ∧ Below w.heap.size w wr) := by
          have h1 := hA.out.1
          rw [hmm.out, ← HLN.out, fSc_end, hev.out] at h1
          refine ⟨.inr ⟨g, 0, rfl, fun i z hz => ?_⟩, ⟨by omega, .inr ⟨g, 0, _, rfl, hwg, h1, fun i hi => ?_⟩⟩, hA.out.2⟩
          · rw [Nat.zero_add, h1.cell, List.getElem?_map, hz]
            rfl
          · have hi2 : i < (thOf (evAt es) zs).length := by simp [thOf]; rw [HLN.out, ← hmm.out]; exact hi
            exact ⟨(thOf (evAt es) zs)[i]'hi2, by rw [Nat.zero_add, List.getElem?_map, List.getElem?_eq_getElem hi2]; rfl⟩
        go_wp2_with fail
        go_ret2
        exact ⟨_, _, rfl, Nat.le_refl _, HE.out⟩
end Go.Proofs.Ytbamocalhojmeaa
