/- Joined texts of the proof. -/
import Derived.Test.YtjgggmjjikopeaaGreatDoorJ20
import Derived.Test.YtjgggmjjikopeaaGreatDoorJ21

/- The document's rules. -/
namespace Go.Proofs.YtjgggmjjikopeaaGreatDoor
open Go.RowKit
set_option linter.unusedVariables false

theorem bind_pos (x : List UInt8) (h : (bindOf x).2 ≠ 0) : (bindOf x).1 ≠ 0 := by
  have go : ∀ (c : Prop) [Decidable c] (a b : Nat × Nat), a.1 ≠ 0 → (b.2 ≠ 0 → b.1 ≠ 0) → ((if c then a else b).2 ≠ 0 → (if c then a else b).1 ≠ 0) := fun c _ a b h1 h2 => by
    by_cases h : c
    · rw [if_pos h]; exact fun _ => h1
    · rw [if_neg h]; exact h2
  revert h
  unfold bindOf
  refine go _ _ _ (by decide) (go _ _ _ (by decide) (go _ _ _ (by decide) (go _ _ _ (by decide) (go _ _ _ (by decide) (go _ _ _ (by decide) (go _ _ _ (by decide) (go _ _ _ (by decide) (go _ _ _ (by decide) (go _ _ _ (by decide) (go _ _ _ (by decide) (go _ _ _ (by decide) (go _ _ _ (by decide) ?_))))))))))))
  intro h
  exact absurd rfl h
/-- How far the document's reader is. -/
def kOf (w : World) (g : Nat) : Nat := match w.cell? ⟨g, 1, none⟩ with | some (.int _ z) => z.toNat | _ => 0
theorem Qd.kOf {B : Nat} {w : World} {g : Nat} {L : List Tk} {a : Option Addr} {c k en er pl ne bl : Nat} (h : Qd B w g L a c k en er pl ne bl) : kOf w g = k := by
  have := (q7_cells h.cell).2.1
  unfold YtjgggmjjikopeaaGreatDoor.kOf
  rw [this]
  rfl
/-- What a rule's loop keeps. -/
def RuI (B g n : Nat) (L : List Tk) (a : Option Addr) (c en d bl : Nat) (w : World) (b1 A f : Nat) (R : Rs Ex) (wr : World) : Prop :=
  ∃ (R0 : Rs Ex) (y : ET) (k er pl ne : Nat), StOf L en k er pl R0 ∧ Qd B wr g L a c k en er pl ne bl ∧ d ≤ ne ∧ ne ≤ 33 ∧ (∀ e l, R0 = .ok e l → y.ex = e ∧ ne = d ∧ htX e ≤ 32 ∧ ∃ j, j ≤ f ∧ lpF j n d e l = some R) ∧ (∀ e p, R0 = .bad e p → R = .bad e p) ∧ Tz A b1 wr y ∧ At 43 wr b1 y.cells ∧ At 43 wr w.heap.size [.int .u8 0, .int .u8 0, .int .u64 0, .string ⟨#[]⟩, .slice none 0 0] ∧ But g w wr ∧ A ≤ wr.heap.size ∧ b1 < wr.heap.size
/-- A node of two, from any state. -/
theorem two_end {L : List Tk} {en k er pl p op : Nat} {x : Ex} {Y : Rs Ex} {y z N : ET} {ne ne' : Nat}
    (hS : StOf L en k er pl ((Y.andThen fun _ r => (.ok () r : Rs Unit)).andThen fun _ r => (if 32 < htX N.ex then .bad 160 p else .ok () r : Rs Unit)))
    (hN : N.ex = .mk op 0 0 [] [y.ex, z.ex]) (hx : y.ex = x) (hy : ∀ e r, Y = .ok e r → z.ex = e ∧ ne' = ne) : StOf L en k er pl (Y.andThen fun e r => nodeR p op [x, e] r) := by
  cases Y with
  | bad e q => exact hS
  | ok e r =>
    have h1 := (hy e r rfl).1
    simp only [andThen_ok] at hS ⊢
    unfold nodeR
    rw [hN, h1, hx] at hS
    split
    · next hc => rw [if_pos hc] at hS; exact hS
    · next hc => rw [if_neg hc] at hS; exact hS
theorem two_val {p op : Nat} {x : Ex} {Y : Rs Ex} {y z N : ET} {ne ne' : Nat} {e : Ex} {l2 : List Tk} (he : (Y.andThen fun e r => nodeR p op [x, e] r) = .ok e l2)
    (hN : N.ex = .mk op 0 0 [] [y.ex, z.ex]) (hx : y.ex = x) (hy : ∀ e r, Y = .ok e r → z.ex = e ∧ ne' = ne) : N.ex = e ∧ ne' = ne ∧ htX e ≤ 32 := by
  cases Y with
  | bad e q => cases he
  | ok e' r =>
    have h1 := hy e' r rfl
    simp only [andThen_ok] at he
    have h2 := nodeR_ht he
    unfold nodeR at he
    split at he
    · cases he
    · cases he
      exact ⟨by rw [hN, h1.1, hx], h1.2, h2⟩
theorem two_ht {j m d op : Nat} {l : List Tk} {Y : Rs Ex} {y z : ET} {x : Ex} {ne ne' : Nat} (hY : ruleF j m d l = some Y) (hx : y.ex = x) (hhx : htX x ≤ 32) (hy : ∀ e r, Y = .ok e r → z.ex = e ∧ ne' = ne) {l2 : List Tk}
    (q : (Y.andThen fun _ r => (.ok () r : Rs Unit)) = .ok () l2) : htX (.mk op 0 0 [] [y.ex, z.ex]) ≤ 1048576 := by
  cases Y with
  | bad e p => cases q
  | ok e r =>
    have h1 := (hy e r rfl).1
    have h2 := (rule_ht j).1 _ _ _ _ _ hY
    rw [h1, hx]
    simp only [htX, htL]
    omega

theorem two_spec {n p op : Nat} {x : Ex} {Y R : Rs Ex} (F : Ex → List Tk → Option (Rs Ex))
    (h : (match (some Y : Option (Rs Ex)) with | none => none | some (.bad e p) => some (.bad e p) | some (.ok y r) => match nodeR p op [x, y] r with | .bad e p => some (.bad e p) | .ok z r => if n = 2 then some (.ok z r) else F z r : Option (Rs Ex)) = some R) :
    (∀ e l, (Y.andThen fun e r => nodeR p op [x, e] r) = .ok e l → if n = 2 then R = .ok e l else F e l = some R) ∧ (∀ e q, (Y.andThen fun e r => nodeR p op [x, e] r) = .bad e q → R = .bad e q) := by
  cases Y with
  | bad e q => cases h; exact ⟨(fun e l he => by cases he), (fun e q he => by cases he; rfl)⟩
  | ok y r =>
    dsimp only at h
    simp only [andThen_ok]
    cases hm : nodeR p op [x, y] r with
    | bad e q => rw [hm] at h; cases h; exact ⟨(fun e l he => by cases he), (fun e q he => by cases he; rfl)⟩
    | ok z r2 =>
      rw [hm] at h
      dsimp only at h
      refine ⟨fun e l he => ?_, (fun e q he => by cases he)⟩
      cases he
      split
      · next hc => rw [if_pos hc] at h; exact (Option.some.inj h).symm
      · next hc => rw [if_neg hc] at h; exact h
theorem ruleF_left {f n d : Nat} {l : List Tk} {Y : Rs Ex} (hn : n ≤ 5) (h : ruleF f n d l = some Y) : Y.Left l.length := by
  obtain ⟨f', r', h1⟩ := row_total l (n + 1) d (by omega)
  have h2 := rowF_left (by omega) h1
  obtain ⟨f2, h3⟩ := (alike f').1 (n + 1) d l r' (by omega) (by omega) h1
  rw [show n + 1 - 1 = n by omega] at h3
  have h4 := ruleF_le h3 (show f2 ≤ max f f2 by omega)
  rw [ruleF_le h (show f ≤ max f f2 by omega)] at h4
  rw [Option.some.inj h4]
  exact h2
theorem len_ahead (L : List Tk) (k en : Nat) : (aheadT L k en).length = L.length - k + 1 := by
  unfold aheadT
  simp
theorem far_on {L : List Tk} {k k' en er pl p op j m d : Nat} {x : Ex} {Y : Rs Ex} (hm : m ≤ 5) (hY : ruleF j m d (aheadT L (k + 1) en) = some Y) (hk : k < L.length) (hk' : k' ≤ L.length) (hS : StOf L en k' er pl (Y.andThen fun e r => nodeR p op [x, e] r)) : L.length - k' < L.length - k := by
  have hl := ruleF_left hm hY
  cases Y with
  | bad e q =>
    obtain ⟨-, -, h3, -⟩ := hS
    omega
  | ok e r =>
    simp only [andThen_ok] at hS
    have hl : r.length < (aheadT L (k + 1) en).length := hl
    rw [len_ahead] at hl
    unfold nodeR at hS
    split at hS
    · obtain ⟨-, -, h3, -⟩ := hS
      omega
    · obtain ⟨-, -, h3⟩ := hS
      rw [← h3, len_ahead] at hl
      omega

set_option maxRecDepth 100000 in
set_option maxHeartbeats 6400000 in
theorem rule_of (f : Nat) (hU : UnW f) (hR : ∀ j, j ≤ f → RuW j) : RuW (f + 1) := by
  intro n R B g L a c k en d bl w hn hd hok h hQ hB
  have hlt := hQ.lt
  have hlow := hQ.low
  rw [ruleF] at h
  by_cases hn4 : 4 < n
  · rw [if_pos hn4] at h
    have HC : Hid (∀ u, Below w.heap.size w u → Calls Tryz.prog 143 #[.pointer (some ⟨g, 0, none⟩)] u fun r w' => PostR B g L a c en d bl u R r w') := fun u hu => hU R B g L a c k en d bl u hd hok h (hQ.below hu) (Nat.le_trans hB hu.size)
    clear h hQ hU hR
    go_enter Tryz.func110, Tryz.ntmps110
    go_wp2_with (first
      | ((with_reducible show wpList _ _ _ _ _ _); refine wpList_alloc_at (o := { dst := some 4, .. }) rfl 43 rfl [.int .u8 0, .int .u8 0, .int .u64 0, .string ⟨#[]⟩, .slice none 0 0] 5 z29 ?_; intro w1 hA1 hb1 hs1; clear hs1)
      | (go_at_call 143; refine (HC.out _ hb1).mono ?_; rintro _ w2 ⟨y, k2, er2, pl2, ne2, rfl, hT2, hb2, hQ2, hS2, hn1, hn2, hy⟩; have hA12 := hb2.at hA1 (by omega))
      | ((with_reducible show wpList _ _ _ _ _ _); refine wpList_store_at (P := Tryz.prog) rfl 43 (.tmp 4) (.tmp 12) rfl w.heap.size y.cells rfl rfl 43 _ hA12 (i43 _) (len43 _) (ET.one _) ?_; intro wz hAz hbz hsz; clear hsz))
    refine bodyPost_ret (results_at rfl _ _ w.heap.size 43 y.cells _ rfl hAz Tryz.underlying43 rfl (i43 _)) rfl ?_
    have l1 := hA1.lt
    exact ⟨y, k2, er2, pl2, ne2, rfl, (hT2.but hbz (.inl l1)).low hb1.size, ((But.of_below hb1).trans hb2).fresh hbz (Nat.le_refl _), hQ2.but hbz hB, hS2, hn1, hn2, hy⟩
  · rw [if_neg hn4] at h
    cases hx : ruleF f (n + 1) d (aheadT L k en) with
    | none => rw [hx] at h; cases h
    | some R0 =>
      rw [hx] at h
      have HC : Hid (∀ u, Below w.heap.size w u → Calls Tryz.prog 110 #[.pointer (some ⟨g, 0, none⟩), .int .i64 ((n : Int) + 1)] u fun r w' => PostR B g L a c en d bl u R0 r w') := fun u hu => by
        have := hR f (Nat.le_refl _) (n + 1) R0 B g L a c k en d bl u (by omega) hd hok hx (hQ.below hu) (Nat.le_trans hB hu.size)
        rwa [show ((n + 1 : Nat) : Int) = (n : Int) + 1 by omega] at this
      have HX : Hid ((∀ e l, R0 = .ok e l → htX e ≤ 32 ∧ ∃ j, j ≤ f ∧ lpF j n d e l = some R) ∧ ∀ e p, R0 = .bad e p → R = .bad e p) := ⟨fun e l he => by subst he; exact ⟨(rule_ht f).1 _ _ _ _ _ hx, f, Nat.le_refl _, h⟩, fun e p he => by subst he; cases h; rfl⟩
      have HR : Hid (∀ j, j ≤ f → RuW j) := hR
      clear h hx hQ hU hR
      go_enter Tryz.func110, Tryz.ntmps110
      go_wp2_with (first
        | ((with_reducible show wpList _ _ _ _ _ _); refine wpList_alloc_at (o := { dst := some 4, .. }) rfl 43 rfl [.int .u8 0, .int .u8 0, .int .u64 0, .string ⟨#[]⟩, .slice none 0 0] 5 z29 ?_; intro w1 hA1 hb1 hs1; clear hs1)
        | (go_at_call 110; refine (HC.out _ hb1).mono ?_; rintro _ w2 ⟨y, k2, er2, pl2, ne2, rfl, hT, hb2, hQ2, hS2, hn1, hn2, hy⟩)
        | ((with_reducible show wpList _ _ _ _ _ _); refine wpList_alloc_at (o := { dst := some 5, .. }) rfl 43 rfl [.int .u8 0, .int .u8 0, .int .u64 0, .string ⟨#[]⟩, .slice none 0 0] 5 z29 ?_; intro w3 hA3 hb3 hs3; clear hs3)
        | ((with_reducible show wpList _ _ _ _ _ _); refine wpList_store_at (P := Tryz.prog) rfl 43 (.tmp 5) (.tmp 16) rfl w2.heap.size y.cells rfl rfl 43 _ hA3 (i43 _) (len43 _) (ET.one _) ?_; intro w4 hA4 hb4 hs4; clear hs4; refine Hid.out ?_))
      refine hidU ?_
      have l1 := hA1.lt
      have l2 := hb2.size
      have l3 := hA3.lt
      have l4 := hb4.size
      have l0 := hb1.size
      have hT : Tz w1.heap.size w2.heap.size w2 y := ⟨hT.1, (ET.In.lies hT.1 hT.2).mono fun k hk => ⟨hk.1, by omega⟩⟩
      have HI : Hid (RuI B g n L a c en d bl w w2.heap.size w1.heap.size f R w4) :=
        ⟨R0, y, k2, er2, pl2, ne2, hS2, (hQ2.below hb3).but hb4 (by omega), hn1, hn2, fun e l he => ⟨(hy e l he).1, (hy e l he).2, HX.out.1 e l he⟩, HX.out.2, (hT.below hb3).but hb4 (.inr (.inl rfl)), hA4, hb4.at ((hb2.at hA1 (by omega)).below hb3) (by omega), (((But.of_below hb1).trans hb2).trans (But.of_below hb3)).fresh hb4 (by omega), by omega, by omega⟩
      clear hA1 hA3 hA4 hb1 hb2 hb3 hb4 hT HC hQ2 hS2 hy HX hn1 hn2
      go_wp2_with fail
      go_loopw [6] (fun _ wr => Hid (RuI B g n L a c en d bl w w2.heap.size w1.heap.size f R wr)) (fun _ wr => L.length - kOf wr g)
      case atStart => exact HI
      case round =>
        clear HI
        obtain ⟨R0, y, k, er, pl, ne, hS, hQ, hn1, hn2, hy, hbd, hT, hA5, hA4, hBw, hAs, hbs⟩ := hrel.out
        clear hrel
        have hSg := refSignOf_any g n (by omega) L a c k en er pl ne bl wr hQ
        have hkO := hQ.kOf
        cases R0 with
        | bad e p =>
          obtain ⟨rfl, rfl, rfl, he0⟩ := hS
          have hv : signV (decide (er = 0) && decide (pl = 0)) n (hdT (aheadT L L.length en)).text = 0 := by rw [decide_eq_false he0]; rfl
          rw [hv] at hSg
          obtain rfl := hbd _ _ rfl
          clear hv hy hbd HR
          go_wp2_with (first
            | (go_at_call 144; refine hSg.mono ?_; rintro r u2 ⟨rfl, hb2⟩; have hA52 := hA5.below hb2; have hA42 := hA4.below hb2)
            | ((with_reducible show wpList _ _ _ _ _ _); refine wpList_load_at (P := Tryz.prog) rfl 43 (.tmp 5) rfl w2.heap.size rfl 43 y.cells hA52 _ Tryz.underlying43 rfl (i43 _) ?_)
            | ((with_reducible show wpList _ _ _ _ _ _); refine wpList_store_at (P := Tryz.prog) rfl 43 (.tmp 4) (.tmp 22) rfl w.heap.size y.cells rfl rfl 43 _ hA42 (i43 _) (len43 _) (ET.one _) ?_; intro wz hAz hbz hsz; clear hsz))
          refine bodyPost_ret (results_at rfl _ _ w.heap.size 43 y.cells _ rfl hAz Tryz.underlying43 rfl (i43 _)) rfl ?_
          exact ⟨y, _, _, _, ne, rfl, (((hT.below hb2).tw).but hbz (.inl (by omega))).low (by omega), (hBw.trans (But.of_below hb2)).fresh hbz (Nat.le_refl _), (hQ.below hb2).but hbz hB, ⟨rfl, rfl, rfl, he0⟩, hn1, hn2, fun e l he => by cases he⟩
        | ok x l =>
          obtain ⟨rfl, rfl, hl⟩ := hS
          obtain ⟨hyx, hned, hhx, j, hj, hlp⟩ := hy x l rfl
          subst hned
          cases j with
          | zero => simp [lpF] at hlp
          | succ j =>
            rw [lpF] at hlp
            have hat := @ahead_tl L k en
            rw [hl] at hSg hat
            by_cases hc : (bindOf (hdT l).text).2 ≠ n + 1
            · rw [if_pos hc] at hlp
              obtain rfl := Option.some.inj hlp
              have hv : signV (decide ((0 : Nat) = 0) && decide ((0 : Nat) = 0)) n (hdT l).text = 0 := by
                unfold signV
                rw [if_neg]
                intro hh
                simp only [Bool.and_eq_true, decide_eq_true_iff] at hh
                exact hc hh.2
              rw [hv] at hSg
              clear hv hy hbd HR hlp hc hat
              go_wp2_with (first
                | (go_at_call 144; refine hSg.mono ?_; rintro r u2 ⟨rfl, hb2⟩; have hA52 := hA5.below hb2; have hA42 := hA4.below hb2)
                | ((with_reducible show wpList _ _ _ _ _ _); refine wpList_load_at (P := Tryz.prog) rfl 43 (.tmp 5) rfl w2.heap.size rfl 43 y.cells hA52 _ Tryz.underlying43 rfl (i43 _) ?_)
                | ((with_reducible show wpList _ _ _ _ _ _); refine wpList_store_at (P := Tryz.prog) rfl 43 (.tmp 4) (.tmp 22) rfl w.heap.size y.cells rfl rfl 43 _ hA42 (i43 _) (len43 _) (ET.one _) ?_; intro wz hAz hbz hsz; clear hsz))
              refine bodyPost_ret (results_at rfl _ _ w.heap.size 43 y.cells _ rfl hAz Tryz.underlying43 rfl (i43 _)) rfl ?_
              exact ⟨y, k, 0, 0, ne, rfl, (((hT.below hb2).tw).but hbz (.inl (by omega))).low (by omega), (hBw.trans (But.of_below hb2)).fresh hbz (Nat.le_refl _), (hQ.below hb2).but hbz hB, ⟨rfl, rfl, hl⟩, hn1, hn2, fun e l he => by cases he; exact ⟨hyx, rfl⟩⟩
            · have ht : (bindOf (hdT l).text).2 = n + 1 := by omega
              rw [if_neg hc] at hlp
              obtain ⟨hk, htl⟩ := hat (.inl (bind_nil (by omega)))
              have hop0 := bind_pos (hdT l).text (by omega)
              have hop := bind_lt (hdT l).text
              have hv : signV (decide ((0 : Nat) = 0) && decide ((0 : Nat) = 0)) n (hdT l).text = (bindOf (hdT l).text).1 := by
                unfold signV
                rw [if_pos]
                simp [ht]
              rw [hv] at hSg
              have HN : Hid (∀ u, Below wr.heap.size wr u → Calls Tryz.prog 41 #[.pointer (some ⟨g, 0, none⟩)] u fun r w' => r = .returned (.int .i64 ((hdT l).place : Int)) ∧ ∃ m, w' = u.drewN m) := fun u hu => by
                have := here_any g L a c k en 0 0 ne bl u (hQ.below hu)
                rwa [hl] at this
              rw [htl] at hlp
              cases hx : ruleF j (n + 1) ne (aheadT L (k + 1) en) with
              | none => rw [hx] at hlp; cases hlp
              | some Y =>
                rw [hx] at hlp
                have hsp := two_spec (fun z r => lpF j n ne z r) hlp
                have HC : Hid (∀ u, Qd B u g L a c (k + 1) en 0 0 ne bl → B ≤ u.heap.size → Calls Tryz.prog 110 #[.pointer (some ⟨g, 0, none⟩), .int .i64 ((n : Int) + 1)] u fun r w' => PostR B g L a c en ne bl u Y r w') := fun u hu hs => by
                  have := HR.out j (by omega) (n + 1) Y B g L a c (k + 1) en ne bl u (by omega) hd hok hx hu hs
                  rwa [show ((n + 1 : Nat) : Int) = (n : Int) + 1 by omega] at this
                generalize (bindOf (hdT l).text).1 = op at *
                generalize (hdT l).place = p at *
                clear hlp hc hat hv ht htl hy hbd hl
                have hop0' : ¬ (op : Int) = 0 := by omega
                have hlen := hQ.len
                go_wp2_with (first
                  | (go_at_call 144; refine hSg.mono ?_; rintro r u2 ⟨rfl, hb2⟩)
                  | (go_at_call 41; refine (HN.out _ hb2).mono ?_; rintro r u3 ⟨rfl, m, hw⟩; have hb3 : Below u2.heap.size u2 u3 := (by rw [hw]; exact below_drewN _ _); clear hw m; have hQ3 := (hQ.below hb2).below hb3; obtain ⟨q0, q1, q2, q3, q4, q5, q6⟩ := q7_cells hQ3.cell)
                  | ((with_reducible show wpList _ _ _ _ _ _); refine wpList_store_one (P := Tryz.prog) rfl 3 (.tmp 31) (.tmp 29) rfl g 1 (.int .i64 ((k : Int) + 1)) rfl rfl 71 _ hQ3.cell (show 1 + 1 ≤ 7 by decide) i3 rfl rfl ?_; intro u4 hA4' hb4 hs; clear hs; refine Hid.out ?_))
                refine hidU ?_
                have hQ4 : Qd B u4 g L a c (k + 1) en 0 0 ne bl := hQ3.set hA4' hb4 hk
                have l2' := hb2.size
                have l3' := hb3.size
                have l4' := hb4.size
                have hA54 := hb4.at ((hA5.below hb2).below hb3) (by omega)
                have hA44 := hb4.at ((hA4.below hb2).below hb3) (by omega)
                have hT4 := ((hT.below hb2).below hb3).but hb4 (.inl (by omega))
                have hB4 := ((hBw.trans (But.of_below hb2)).trans (But.of_below hb3)).trans hb4
                clear q0 q1 q2 q3 q4 q5 q6 hb2 hb3 hb4 hQ hQ3 hA5 hA4 hT hBw hA4' hSg HN
                go_wp2_with (first
                  | (go_at_call 110; refine (HC.out _ hQ4 (by omega)).mono ?_; rintro _ u5 ⟨z, k5, er5, pl5, ne5, rfl, hTz, hb5, hQ5, hS5, m1, m2, hz⟩)
                  | ((with_reducible show wpList _ _ _ _ _ _); refine wpList_alloc_at (o := { dst := some 8, .. }) rfl 43 rfl [.int .u8 0, .int .u8 0, .int .u64 0, .string ⟨#[]⟩, .slice none 0 0] 5 z29 ?_; intro u6 hA6 hb6 hs6; clear hs6)
                  | ((with_reducible show wpList _ _ _ _ _ _); refine wpList_store_at (P := Tryz.prog) rfl 43 (.tmp 8) (.tmp 35) rfl u5.heap.size z.cells rfl rfl 43 _ hA6 (i43 _) (len43 _) (ET.one _) ?_; intro u8 hA8 hb8 hs8; clear hs8; refine Hid.out ?_))
                refine hidU ?_
                have l5' := hb5.size
                have l6' := hA6.lt
                have l8' := hb8.size
                have hA58 := hb8.at ((hb5.at hA54 (by omega)).below hb6) (by omega)
                have hA48 := hb8.at ((hb5.at hA44 (by omega)).below hb6) (by omega)
                have hT8 := (hT4.but hb5 (.inl (by omega))).but ((But.of_below (g := g) hb6).fresh hb8 (Nat.le_refl _)) (.inl (by omega))
                have hTz8 : Tw u4.heap.size u8 z := hTz.but ((But.of_below (g := g) hb6).fresh hb8 (Nat.le_refl _)) (.inl (by omega))
                have hQ8 := (hQ5.below hb6).but hb8 (by omega)
                have hB8 : But g w u8 := ((hB4.trans hb5).trans (But.of_below hb6)).fresh hb8 (by have := hB4.size; omega)
                clear hb5 hb6 hb8 hA6 hT4 hTz hQ4 hQ5 hB4 hA54 hA44 HC
                go_wp2_with (first
                  | ((with_reducible show wpList _ _ _ _ _ _); refine wpList_load_at (P := Tryz.prog) rfl 43 (.tmp 5) rfl w2.heap.size rfl 43 y.cells hA58 _ Tryz.underlying43 rfl (i43 _) ?_)
                  | ((with_reducible show wpList _ _ _ _ _ _); refine wpList_load_at (P := Tryz.prog) rfl 43 (.tmp 8) rfl u5.heap.size rfl 43 z.cells hA8 _ Tryz.underlying43 rfl (i43 _) ?_)
                  | ((with_reducible show wpList _ _ _ _ _ _); refine wpList_kid2 rfl (.tmp 38) (.tmp 39) rfl y z rfl rfl ?_; intro u9 hA9 hb9 hs9; clear hs9; refine Hid.out ?_))
                refine hidU ?_
                have l9' := hA9.lt
                have hTy9 := hT8.below hb9
                have hTz9 := hTz8.below hb9
                have hk9 := kid2_in (op := op) hA9 hTy9.tw (hTz9.low (by omega)) hop (by omega)
                have hkl : (ET.mk op 0 0 ⟨#[]⟩ (some ⟨u8.heap.size, 0, none⟩) 2 [y, z]).Lies (fun j => w1.heap.size ≤ j ∧ j ≠ w2.heap.size) := kid2_lies hTy9.2 (hTz9.2.mono fun j hj => ⟨by omega, by omega⟩) ⟨by omega, by omega⟩
                obtain ⟨N, hNd⟩ : ∃ N : ET, N = ET.mk op 0 0 ⟨#[]⟩ (some ⟨u8.heap.size, 0, none⟩) 2 [y, z] := ⟨_, rfl⟩
                have hNc : N.cells = [.int .u8 (op : Int), .int .u8 0, .int .u64 0, .string ⟨#[]⟩, .slice (some ⟨u8.heap.size, 0, none⟩) 2 2] := by rw [hNd]; rfl
                have hNx : N.ex = .mk op 0 0 [] [y.ex, z.ex] := by rw [hNd]; rfl
                rw [← hNd] at hk9 hkl
                have hM := made_gen (B := B) g L a c k5 en er5 pl5 ne5 bl _ hS5.unit N p u9 (hQ8.below hb9) (by omega) hk9 (by omega) (fun l2 q => by rw [hNx]; exact two_ht hx hyx hhx hz q)
                rw [hNc] at hM
                have hA59 := hA58.below hb9
                have hA49 := hA48.below hb9
                have hB9 : But g w u9 := hB8.trans (But.of_below hb9)
                clear hNd hA58 hA48 hQ8 hB8 hT8 hTz8 hTy9 hTz9 hA9 hb9 hA8
                go_wp2_with (first
                  | ((with_reducible show wpList _ _ _ _ _ _); refine wpList_build_at rfl 43 _ rfl [.int .u8 (op : Int), .int .u8 0, .int .u64 0, .string ⟨#[]⟩, .slice (some ⟨u8.heap.size, 0, none⟩) 2 2] (by kernel_rfl) ?_)
                  | (go_at_call 145; refine hM.mono ?_; rintro r u10 ⟨rfl, hT10, k10, er10, pl10, hQ10, hS10, hb10⟩; have hA5a := hb10.at hA59 (by omega))
                  | ((with_reducible show wpList _ _ _ _ _ _); refine wpList_store_at (P := Tryz.prog) rfl 43 (.tmp 5) (.tmp 43) rfl w2.heap.size [.int .u8 (op : Int), .int .u8 0, .int .u64 0, .string ⟨#[]⟩, .slice (some ⟨u8.heap.size, 0, none⟩) 2 2] rfl rfl 43 _ hA5a i29 (by rw [ET.cells5]; rfl) (by rw [← hNc]; exact ET.one N) ?_; intro u11 hA11 hb11 hs11; clear hs11; refine Hid.out ?_))
                refine hidU ?_
                rw [← hNc] at hA11
                have l10' := hb10.size
                have l11' := hb11.size
                have hTN : Tz w1.heap.size w2.heap.size u11 N := (Tz.but (w := u9) ⟨hk9.1, hkl⟩ hb10 (.inl (by omega))).but hb11 (.inr (.inl rfl))
                have hA4b := hb11.at (hb10.at hA49 (by omega)) (by omega)
                have hQb := hQ10.but hb11 (by omega)
                have hBb : But g w u11 := (hB9.trans hb10).fresh hb11 (by have := hB9.size; omega)
                have hSb := two_end hS10 hNx hyx hz
                have hfar := far_on (by omega) hx hk hQ10.le hSb
                have hval := fun e l (he : (Y.andThen fun e r => nodeR p op [x, e] r) = .ok e l) => two_val (e := e) (l2 := l) he hNx hyx hz
                clear hA59 hA49 hB9 hk9 hkl hM hT10 hQ10 hb10 hb11 hA5a hx hS5 hz hS10 hNx hNc
                by_cases n2 : n = 2
                · subst n2
                  have hRR : R = Y.andThen fun e r => nodeR p op [x, e] r := by
                    cases hq : Y.andThen fun e r => nodeR p op [x, e] r with
                    | ok e l => have := hsp.1 e l hq; rwa [if_pos rfl] at this
                    | bad e q => exact hsp.2 e q hq
                  subst hRR
                  go_wp2_with (first
                    | ((with_reducible show wpList _ _ _ _ _ _); refine wpList_load_at (P := Tryz.prog) rfl 43 (.tmp 5) rfl w2.heap.size rfl 43 N.cells hA11 _ Tryz.underlying43 rfl (i43 _) ?_)
                    | ((with_reducible show wpList _ _ _ _ _ _); refine wpList_store_at (P := Tryz.prog) rfl 43 (.tmp 4) (.tmp 46) rfl w.heap.size N.cells rfl rfl 43 _ hA4b (i43 _) (len43 _) (ET.one _) ?_; intro wz hAz hbz hsz; clear hsz))
                  refine bodyPost_ret (results_at rfl _ _ w.heap.size 43 N.cells _ rfl hAz Tryz.underlying43 rfl (i43 _)) rfl ?_
                  exact ⟨N, k10, er10, pl10, ne5, rfl, ((hTN.tw).but hbz (.inl (by omega))).low (by omega), hBb.fresh hbz (Nat.le_refl _), hQb.but hbz hB, hSb, m1, m2, fun e l he => ⟨(hval e l he).1, (hval e l he).2.1⟩⟩
                · have HI2 : Hid (RuI B g n L a c en ne bl w w2.heap.size w1.heap.size f R u11) :=
                    ⟨_, N, k10, er10, pl10, ne5, hSb, hQb, m1, m2, fun e l he => ⟨(hval e l he).1, (hval e l he).2.1, (hval e l he).2.2, j, by omega, by have := hsp.1 e l he; rwa [if_neg n2] at this⟩, hsp.2, hTN, hA11, hA4b, hBb, by omega, by omega⟩
                  have hkN := hQb.kOf
                  clear hTN hA4b hQb hBb hA11 hSb hval hsp
                  go_wp2_with fail
                  go_roundw
                  case rel => exact HI2
                  case measure => rw [hkN, hkO]; exact hfar

end Go.Proofs.YtjgggmjjikopeaaGreatDoor

/- The document's rules, however far, and whole expressions. -/
namespace Go.Proofs.YtjgggmjjikopeaaGreatDoor
open Go.RowKit
set_option linter.unusedVariables false

/-- The rules, however far. -/
theorem all_W : ∀ f, (∀ j, j ≤ f → RuW j) ∧ (∀ j, j ≤ f → UnW j) := by
  intro f
  induction f with
  | zero =>
    refine ⟨fun j hj => ?_, fun j hj => ?_⟩
    · obtain rfl : j = 0 := by omega
      intro n R B g L a c k en d bl w _ _ _ h
      simp [ruleF] at h
    · obtain rfl : j = 0 := by omega
      intro R B g L a c k en d bl w _ _ h
      simp [unF] at h
  | succ f ih =>
    have hU := unary_of f (ih.2 f (Nat.le_refl _)) (primary_of f fun j hj => ih.1 j (by omega))
    have hR := rule_of f (ih.2 f (Nat.le_refl _)) ih.1
    refine ⟨fun j hj => ?_, fun j hj => ?_⟩
    · by_cases h : j ≤ f
      · exact ih.1 j h
      · obtain rfl : j = f + 1 := by omega
        exact hR
    · by_cases h : j ≤ f
      · exact ih.2 j h
      · obtain rfl : j = f + 1 := by omega
        exact hU
theorem rules (f : Nat) : RuW f := (all_W f).1 f (Nat.le_refl _)

set_option maxRecDepth 100000 in
set_option maxHeartbeats 3200000 in
/-- An expression that stands for itself: its depth begins anew. -/
theorem whole_ok (f : Nat) (R : Rs Ex) (B g : Nat) (L : List Tk) (a : Option Addr) (c k en d bl : Nat) (w : World) (hok : ∀ t ∈ L, TkOk t) (h : ruleF f 0 0 (aheadT L k en) = some R) (hQ : Qd B w g L a c k en 0 0 d bl) (hB : B ≤ w.heap.size) :
    Calls Tryz.prog 39 #[.pointer (some ⟨g, 0, none⟩)] w fun r w' => PostR B g L a c en 0 bl w R r w' := by
  have hlt := hQ.lt
  have HR : Hid (∀ u, Qd B u g L a c k en 0 0 0 bl → B ≤ u.heap.size → Calls Tryz.prog 72 #[.pointer (some ⟨g, 0, none⟩)] u fun r w' => PostR B g L a c en 0 bl u R r w') := fun u hu hs => refExpr_ok f (rules f) R B g L a c k en 0 bl u (by omega) hok h hu hs
  have HQ : Hid (Qd B w g L a c k en 0 0 d bl) := hQ
  have hA := hQ.cell
  have hle := hQ.le
  clear h hQ
  generalize hn : L.length = n at *
  go_enter Tryz.func39, Tryz.ntmps39
  go_wp2_with (first
    | ((with_reducible show wpList _ _ _ _ _ _); refine wpList_alloc_at (o := { dst := some 2, .. }) rfl 43 rfl [.int .u8 0, .int .u8 0, .int .u64 0, .string ⟨#[]⟩, .slice none 0 0] 5 z29 ?_; intro w1 hA1 hb1 hs1; clear hs1)
    | ((with_reducible show wpList _ _ _ _ _ _); refine wpList_store_one (P := Tryz.prog) rfl 3 (.tmp 5) (.const (.int .i64 0)) rfl g 5 (.int .i64 0) rfl rfl 71 _ (hA.below hb1) (show 5 + 1 ≤ 7 by decide) i3 rfl rfl ?_; intro w2 hA2 hb2 hs; clear hs; refine Hid.out ?_))
  refine hidU ?_
  have l1 := hA1.lt
  have l2 := hb2.size
  have hA2 : At 71 w2 g (q7 a n c k en 0 0 0 bl) := hA2
  have hQ2 : Qd B w2 g L a c k en 0 0 0 bl := by subst hn; exact (HQ.out.below hb1).set hA2 hb2 hle
  have hA12 := hb2.at hA1 (by omega)
  have hs1' := hb1.size
  clear hA hA2 hA1
  go_wp2_with (first
    | (go_at_call 72; refine (HR.out _ hQ2 (by omega)).mono ?_; rintro _ w3 ⟨y, k', er', pl', ne', rfl, hT, hb3, hQ3, hS3, hn1, hn2, hy⟩; have hA13 := hb3.at hA12 (by omega))
    | ((with_reducible show wpList _ _ _ _ _ _); refine wpList_store_at (P := Tryz.prog) rfl 43 (.tmp 2) (.tmp 7) rfl w.heap.size y.cells rfl rfl 43 _ hA13 (i43 _) (len43 _) (ET.one _) ?_; intro w9 hA9 hb9 hs9; clear hs9))
  refine bodyPost_ret (results_at rfl _ _ w.heap.size 43 y.cells _ rfl hA9 Tryz.underlying43 rfl (i43 _)) rfl ?_
  exact ⟨y, k', er', pl', ne', rfl, (hT.but hb9 (.inl (by omega))).low (by omega), (((But.of_below hb1).trans hb2).trans hb3).fresh hb9 (Nat.le_refl _), hQ3.but hb9 hB, hS3, hn1, hn2, hy⟩

end Go.Proofs.YtjgggmjjikopeaaGreatDoor

/- The document's Expr. -/
namespace Go.Proofs.YtjgggmjjikopeaaGreatDoor
open Go.RowKit
set_option linter.unusedVariables false

theorem lexS_place (l : List UInt8) (h : (lexS l).err = 0) : (lexS l).place = 0 := by
  unfold lexS at h ⊢
  split
  · next hc => rw [if_pos hc] at h; cases h
  · next hc => rw [if_neg hc] at h; exact lexA_place _ _ _ h
set_option maxRecDepth 100000 in
set_option maxHeartbeats 3200000 in
/-- The document's 'Expr', of a text that has a fault of its tokens. -/
theorem refText_bad (s : ByteArray) (er pl : Nat) (hc : er ≠ 0) (w : World) (ts : List Tk) (HL : Hid (∀ u, Calls Tryz.prog 28 #[.string s] u fun e w' => LexPost u ⟨ts, er, pl⟩ e w')) :
    Calls Tryz.prog 14 #[.string s] w fun r w' => PostP w (noX.ex, er, pl) r w' := by
  unfold LexPost at HL
  dsimp only at HL
  go_enter Tryz.func14, Tryz.ntmps14
  go_wp2_with (first
    | ((with_reducible show wpList _ _ _ _ _ _); refine wpList_alloc_at (o := { dst := some 2, .. }) rfl 43 rfl [.int .u8 0, .int .u8 0, .int .u64 0, .string ⟨#[]⟩, .slice none 0 0] 5 z29 ?_; intro w1 hA1 hb1 hs1; clear hs1)
    | ((with_reducible show wpList _ _ _ _ _ _); refine wpList_alloc_at (o := { dst := some 3, .. }) rfl 29 rfl (fa2 0 0) 2 z25 ?_; intro w2 hA2 hb2 hs2; clear hs2)
    | (go_at_call 28; refine (HL.out _).mono ?_; rintro r w3 ⟨v, rfl, hTk, hb3⟩)
    | ((with_reducible show wpList _ _ _ _ _ _); refine wpList_alloc_at (o := { dst := some 5, .. }) rfl 29 rfl (fa2 0 0) 2 z25 ?_; intro w4 hA4 hb4 hs4; clear hs4)
    | ((with_reducible show wpList _ _ _ _ _ _); refine wpList_store_at (P := Tryz.prog) rfl 29 (.tmp 5) (.tmp 12) rfl w3.heap.size (fa2 er pl) rfl rfl 29 _ hA4 i25 rfl (one2f _ _) ?_; intro w5 hA5 hb5 hs; clear hs; refine Hid.out ?_))
  refine hidU ?_
  have l1 := hA1.lt
  have l2 := hA2.lt
  have l3 := hb3.size
  have l4 := hA4.lt
  have l5 := hb5.size
  have s1 := hb1.size
  have s2 := hb2.size
  have hB2 : Below w.heap.size w w2 := hb1.trans (hb2.mono s1)
  have hB3 : Below w.heap.size w w3 := hB2.trans (hb3.mono (by omega))
  have hB5 : Below w.heap.size w w5 := hb5.below (hB3.trans (hb4.mono (by omega))) (by omega) (by omega)
  have hA15 := hb5.at (((hA1.below hb2).below hb3).below hb4) (by omega)
  have hA25 := hb5.at ((hA2.below hb3).below hb4) (by omega)
  obtain ⟨c0, c1⟩ := fa_cells hA5
  clear hA1 hA2 hA4 hb1 hb2 hb3 hb4 hb5 hTk hB2 hB3
  go_wp2
  have hRa : At 43 w5 w.heap.size noX.cells := hA15
  have hRb := hA25
  have hBW := hB5
  have hS0 : At 29 w5.drew w3.heap.size (fa2 er pl) := hA5.drew
  refine wp_region_held_drew (S := fun x => At 29 x w3.heap.size (fa2 er pl)) (by kernel_rfl) hS0 (fun _ => ?_)
  refine wpAnyH_take (i := 0) (oi := { dst := some 16, op := .build 43 #[], type := _, pos := _, after := _, guard := none }) (v := .agg noX.cells.toArray) rfl (by kernel_rfl) (by kernel_rfl) (by kernel_rfl) (fun _ _ _ h => h) (Or.inl ⟨by rfl, ?_⟩) hS0 ?_
  · intro w hSw
    go_simp; rfl
  simp only [Act.put, List.setIfInBounds_toArray, List.set_cons_zero, List.set_cons_succ]
  refine wpAnyH_take (i := 1) (oi := { dst := some 17, op := .load 29 (.tmp 5), type := _, pos := _, after := _, guard := none }) (v := .agg #[.int .i64 (er : Int), .int .i64 (pl : Int)]) rfl (by kernel_rfl) (by kernel_rfl) (by kernel_rfl) (fun _ _ _ h => h) (Or.inl ⟨by rfl, ?_⟩) hS0 ?_
  · intro w hSw
    obtain ⟨c0, c1⟩ := fa_cells hSw; go_simp
  simp only [Act.put, List.setIfInBounds_toArray, List.set_cons_zero, List.set_cons_succ]
  refine wpAnyH_ready (rs := [2]) (by kernel_rfl) (by simp) ?_
  refine AllReadyH.cons (o := { dst := none, op := .store 43 (.tmp 2) (.tmp 16), type := _, pos := _, after := _, guard := none }) rfl (fun K hK => ?_) AllReadyH.nil
  rw [if_pos (by rfl)]
  have hD1 : At 43 w5.drew w.heap.size noX.cells := hRa.drew
  have hD2 : At 29 w5.drew w1.heap.size (fa2 0 0) := hRb.drew
  refine wp_store_mid (P := Tryz.prog) 43 (.tmp 2) (.tmp 16) rfl w.heap.size 0 noX.cells.toArray rfl rfl (hD1.there 0 5 (by decide)) (i43 noX) (all_oneCell_toArray (ET.one noX)) ?_
  have hbu : But w.heap.size w5.drew (w5.drew.setCells w.heap.size 0 noX.cells) := (((((But.refl _ _).setCell 0 _).setCell 1 _).setCell 2 _).setCell 3 _).setCell 4 _
  have hS1 := hbu.at hS0 (by omega)
  have hD3 : At 43 (w5.drew.setCells w.heap.size 0 noX.cells) w.heap.size noX.cells := ((((hD1.set 0 _).set 1 _).set 2 _).set 3 _).set 4 _
  have hD4 := hbu.at hD2 (by omega)
  refine hK.out _ _ hS1 (fun _ => ?_)
  clear hK K
  generalize w5.drew.setCells w.heap.size 0 noX.cells = wy at *
  refine wpAnyH_ready (rs := [3]) (by kernel_rfl) (by simp) ?_
  refine AllReadyH.cons (o := { dst := none, op := .store 29 (.tmp 3) (.tmp 17), type := _, pos := _, after := _, guard := none }) rfl (fun K hK => ?_) AllReadyH.nil
  rw [if_pos (by rfl)]
  refine wp_store_mid (P := Tryz.prog) 29 (.tmp 3) (.tmp 17) rfl w1.heap.size 0 (fa2 er pl).toArray rfl rfl (hD4.there 0 2 (by decide)) i25 (all_oneCell_toArray (one2f _ _)) ?_
  have hbv : But w1.heap.size wy (wy.setCells w1.heap.size 0 (fa2 er pl)) := ((But.refl _ _).setCell 0 _).setCell 1 _
  have hS2 := hbv.at hS1 (by omega)
  have hD5 : At 29 (wy.setCells w1.heap.size 0 (fa2 er pl)) w1.heap.size (fa2 er pl) := (hD4.set 0 _).set 1 _
  have hD6 := hbv.at hD3 (by omega)
  refine hK.out _ _ hS2 (fun _ => ?_)
  clear hK K
  generalize wy.setCells w1.heap.size 0 (fa2 er pl) = wz at *
  refine wpAnyH_done (by kernel_rfl) ?_ _
  go_wp2
  refine bodyPost_ret (results_two (P := Tryz.prog) (fn := Tryz.f14) (p := 2) (q := 3) (ty := 43) (tz := 29) rfl _ _ w.heap.size w1.heap.size 43 29 noX.cells (fa2 er pl) _ _ rfl rfl hD6 hD5 Tryz.underlying43 rfl (i43 _) Tryz.underlying29 rfl i25) rfl ?_
  have l7 := hbu.size
  have hBd : Below w.heap.size w w5.drew := Below.drew hBW
  have l8 := hBd.size
  exact ⟨noX, rfl, rfl, noX_tw _ _, hbv.below (hbu.below hBd (Nat.le_refl _) (by omega)) (by omega) (by omega)⟩

end Go.Proofs.YtjgggmjjikopeaaGreatDoor

/- The document's Expr, of tokens. -/
namespace Go.Proofs.YtjgggmjjikopeaaGreatDoor
open Go.RowKit
set_option linter.unusedVariables false

/-- What stands for a text's expression, once its tokens are in order. -/
def exR (R : Rs Ex) : Ex × Nat × Nat := match R with
  | .bad e p => (noX.ex, e, p)
  | .ok x r => match endR r with
    | .bad e p => (noX.ex, e, p)
    | .ok _ _ => (x, 0, 0)
set_option maxRecDepth 100000 in
set_option maxHeartbeats 6400000 in
/-- The document's 'Expr', of a text whose tokens are in order. -/
theorem refText_ok (s : ByteArray) (hmax : s.size ≤ 9223372036854775807) (w : World) (ts : List Tk) (hok : ∀ t ∈ ts, TkOk t) (hlen : ts.length ≤ 16385) (R : Rs Ex) (f : Nat) (hR : ruleF f 0 0 (aheadT ts 0 s.size) = some R) (HL : Hid (∀ u, Calls Tryz.prog 28 #[.string s] u fun e w' => LexPost u ⟨ts, 0, 0⟩ e w')) :
    Calls Tryz.prog 14 #[.string s] w fun r w' => PostP w (exR R) r w' := by
  have hr' : Hid (ruleF f 0 0 (aheadT ts 0 s.size) = some R) := hR
  obtain ⟨O, hO⟩ : ∃ O : Ex × Nat × Nat, O = exR R := ⟨_, rfl⟩
  rw [← hO]
  have HP : Hid (O = (exR R)) := hO
  clear hR hO
  unfold LexPost at HL
  dsimp only at HL
  go_enter Tryz.func14, Tryz.ntmps14
  go_wp2_with (first
    | ((with_reducible show wpList _ _ _ _ _ _); refine wpList_alloc_at (o := { dst := some 2, .. }) rfl 43 rfl [.int .u8 0, .int .u8 0, .int .u64 0, .string ⟨#[]⟩, .slice none 0 0] 5 z29 ?_; intro w1 hA1 hb1 hs1; clear hs1)
    | ((with_reducible show wpList _ _ _ _ _ _); refine wpList_alloc_at (o := { dst := some 3, .. }) rfl 29 rfl (fa2 0 0) 2 z25 ?_; intro w2 hA2 hb2 hs2; clear hs2)
    | (go_at_call 28; refine (HL.out _).mono ?_; rintro r w3 ⟨v, rfl, hTk, hb3⟩)
    | ((with_reducible show wpList _ _ _ _ _ _); refine wpList_alloc_at (o := { dst := some 5, .. }) rfl 29 rfl (fa2 0 0) 2 z25 ?_; intro w4 hA4 hb4 hs4; clear hs4)
    | ((with_reducible show wpList _ _ _ _ _ _); refine wpList_store_at (P := Tryz.prog) rfl 29 (.tmp 5) (.tmp 12) rfl w3.heap.size (fa2 0 0) rfl rfl 29 _ hA4 i25 rfl (one2f _ _) ?_; intro w5 hA5 hb5 hs; clear hs; refine Hid.out ?_))
  refine hidU ?_
  have l1 := hA1.lt
  have l2 := hA2.lt
  have l3 := hb3.size
  have l4 := hA4.lt
  have l5 := hb5.size
  have s1 := hb1.size
  have s2 := hb2.size
  have hB2 : Below w.heap.size w w2 := hb1.trans (hb2.mono s1)
  have hB3 : Below w.heap.size w w3 := hB2.trans (hb3.mono (by omega))
  have hB5 : Below w.heap.size w w5 := hb5.below (hB3.trans (hb4.mono (by omega))) (by omega) (by omega)
  have hA15 := hb5.at (((hA1.below hb2).below hb3).below hb4) (by omega)
  have hA25 := hb5.at ((hA2.below hb3).below hb4) (by omega)
  obtain ⟨c0, c1⟩ := fa_cells hA5

  have hv : ∃ a c, v = .slice a ts.length c ∧ (ts = [] ∨ ∃ gt, a = some ⟨gt, 0, none⟩ ∧ gt < w3.heap.size ∧ w3.rangeAt gt 0 (flat ts)) := by
    rcases hTk.open with ⟨rfl, rfl⟩ | ⟨gt, cap, rfl, g1, g2, g3, g4, g5, g6⟩
    · exact ⟨none, 0, rfl, .inl rfl⟩
    · exact ⟨_, cap, rfl, .inr ⟨gt, rfl, g2, flat_range g5⟩⟩
  obtain ⟨a, c, rfl, htk⟩ := hv
  have hk5 : ∀ gt, gt < w3.heap.size → w5.heap[gt]? = w3.heap[gt]? := fun gt h => by rw [hb5.block gt (by omega) (by omega), hb4.block gt h]
  clear hA1 hA2 hA4 hb1 hb2 hb3 hb4 hb5 hTk hB2 hB3 HL
  go_wp2_with (first
    | ((with_reducible show wpList _ _ _ _ _ _); refine wpList_build_at rfl 71 _ rfl (q7 a ts.length c 0 s.size 0 0 0 0) (by kernel_rfl) ?_)
    | ((with_reducible show wpList _ _ _ _ _ _); refine wpList_box_at rfl 71 (.tmp 21) rfl (q7 a ts.length c 0 s.size 0 0 0 0) rfl ?_; intro w6 hA6 hb6 hs6; clear hs6; refine Hid.out ?_))
  refine hidU ?_
  have l6 := hA6.lt
  have hB6 : Below w.heap.size w w6 := hB5.trans (hb6.mono (by omega))
  have hA16 := hA15.below hb6
  have hA26 := hA25.below hb6
  have hQ6 : Qd w6.heap.size w6 w5.heap.size ts a c 0 s.size 0 0 0 0 := by
    refine ⟨hA6, ?_, Nat.zero_le _, by omega, l6⟩
    rcases htk with h | ⟨gt, rfl, hl, hr⟩
    · exact .inl h
    · refine .inr ⟨gt, rfl, by omega, by omega, fun j v hj => ?_⟩
      rw [World.cell?_of_block (w := w3) (by rw [hb6.block gt (by omega), hk5 gt hl])]
      exact hr j v hj
  have lg : w1.heap.size < w5.heap.size := by omega
  have lw : w.heap.size < w1.heap.size := by omega
  clear hA6 hb6 hA15 hA25 hA5 c0 c1 htk hk5 hB5 l1 l2 l3 l4 l5 s1 s2
  generalize w5.heap.size = g at *
  go_wp2_with (first
    | (go_at_call 39; refine (whole_ok f R w6.heap.size g ts a c 0 s.size 0 0 w6 hok hr'.out hQ6 (Nat.le_refl _)).mono ?_; rintro _ w7 ⟨y, k', er', pl', ne', rfl, hT, hb7, hQ7, hS7, hn1, hn2, hy⟩)
    | ((with_reducible show wpList _ _ _ _ _ _); refine wpList_alloc_at (o := { dst := some 7, .. }) rfl 43 rfl [.int .u8 0, .int .u8 0, .int .u64 0, .string ⟨#[]⟩, .slice none 0 0] 5 z29 ?_; intro w8 hA8 hb8 hs8; clear hs8)
    | ((with_reducible show wpList _ _ _ _ _ _); refine wpList_store_at (P := Tryz.prog) rfl 43 (.tmp 7) (.tmp 24) rfl w7.heap.size y.cells rfl rfl 43 _ hA8 (i43 _) (len43 _) (ET.one _) ?_; intro w9 hA9 hb9 hs9; clear hs9; refine Hid.out ?_))
  refine hidU ?_
  have l7 := hb7.size
  have l8 := hb8.size
  have l9 := hb9.size
  have hB7 : Below w.heap.size w w7 := hb7.below hB6 (by omega) (by omega)
  have hB9 : Below w.heap.size w w9 := hb9.below (hB7.trans (hb8.mono hB7.size)) hB7.size (by omega)
  have hA19 : At 43 w9 w.heap.size noX.cells := hb9.at ((hb7.at hA16 (by omega)).below hb8) (by omega)
  have hA29 := hb9.at ((hb7.at hA26 (by omega)).below hb8) (by omega)
  have hQ9 := (hQ7.below hb8).but hb9 l7
  have hT9 : Tw w6.heap.size w9 y := hT.but ((But.of_below (g := g) hb8).fresh hb9 (Nat.le_refl _)) (.inl (by omega))
  clear hA16 hA26 hA8 hb7 hb8 hb9 hQ6 hQ7 hT hB6 hB7 hr'
  cases R with
  | bad e p =>
    obtain ⟨rfl, rfl, rfl, he⟩ := hS7
    have hP := HP.out
    unfold exR at hP
    dsimp only at hP
    subst hP
    have hO : ∀ m, Calls Tryz.prog 30 #[.pointer (some ⟨g, 0, none⟩)] (w9.drewN m) fun r w' => r = .returned (.bool false) ∧ w' = w9.drewN m := fun m => by
      have := refOk_any g ts.length a c _ s.size _ _ ne' 0 (w9.drewN m) (hQ9.cell.drewN m)
      rwa [decide_eq_false he, Bool.false_and] at this
    obtain ⟨q0, q1, q2, q3, q4, q5, q6⟩ := q7_cells hQ9.cell
    go_wp2_with fail
    go_quiet (first | (go_at_call 30; exact Calls.quiet_of_same (hO _)))
    clear q0 q1 q2 q3 q4 q5 q6 hO
    obtain ⟨wa, hwa⟩ : ∃ x, x = w9.drewN nq := ⟨_, rfl⟩
    have hba : Below w9.heap.size w9 wa := by rw [hwa]; exact below_drewN w9 nq
    rw [← hwa]
    clear hwa
    have la := hba.size
    have hQa := hQ9.below hba
    have hRa' := hA19.below hba
    have hRb' := hA29.below hba
    have hBa : Below w.heap.size w wa := hB9.trans (hba.mono (by omega))
    clear hQ9 hA19 hA29 hB9 hT9 hA9
    go_wp2_with (first
      | (go_at_call 30; refine (refOk_any g ts.length a c _ s.size er' pl' ne' 0 wa hQa.cell).mono ?_; rintro r u ⟨hr, hu⟩; rw [decide_eq_false he, Bool.false_and] at hr; subst hr; obtain rfl := hu.symm))
    have hRa := hRa'
    have hRb := hRb'
    have hBW := hBa
    have hQn := hQa
    have hS0 : At 71 wa.drew g (q7 a ts.length c ts.length s.size er' pl' ne' 0) := hQn.cell.drew
    refine wp_region_held_drew (S := fun x => At 71 x g (q7 a ts.length c ts.length s.size er' pl' ne' 0)) (by kernel_rfl) hS0 (fun _ => ?_)
    refine wpAnyH_take (i := 0) (oi := { dst := some 46, op := .build 43 #[], type := _, pos := _, after := _, guard := none }) (v := .agg noX.cells.toArray) rfl (by kernel_rfl) (by kernel_rfl) (by kernel_rfl) (fun _ _ _ h => h) (Or.inl ⟨by rfl, ?_⟩) hS0 ?_
    · intro w hSw
      go_simp; rfl
    simp only [Act.put, List.setIfInBounds_toArray, List.set_cons_zero, List.set_cons_succ]
    refine wpAnyH_take (i := 1) (oi := { dst := some 47, op := .move (.tmp 6), type := _, pos := _, after := _, guard := none }) (v := .pointer (some ⟨g, 0, none⟩)) rfl (by kernel_rfl) (by kernel_rfl) (by kernel_rfl) (fun _ _ _ h => h) (Or.inl ⟨by rfl, ?_⟩) hS0 ?_
    · intro w hSw
      go_simp
    simp only [Act.put, List.setIfInBounds_toArray, List.set_cons_zero, List.set_cons_succ]
    refine wpAnyH_take (i := 2) (oi := { dst := some 48, op := .nilCheck (.tmp 47), type := _, pos := _, after := _, guard := none }) (v := .pointer (some ⟨g, 0, none⟩)) rfl (by kernel_rfl) (by kernel_rfl) (by kernel_rfl) (fun _ _ _ h => h) (Or.inl ⟨by rfl, ?_⟩) hS0 ?_
    · intro w hSw
      go_simp
    simp only [Act.put, List.setIfInBounds_toArray, List.set_cons_zero, List.set_cons_succ]
    refine wpAnyH_take (i := 3) (oi := { dst := some 49, op := .fieldAddr 71 (.tmp 48) 3, type := _, pos := _, after := _, guard := none }) (v := .pointer (some ⟨g, 3, none⟩)) rfl (by kernel_rfl) (by kernel_rfl) (by kernel_rfl) (fun _ _ _ h => h) (Or.inl ⟨by rfl, ?_⟩) hS0 ?_
    · intro w hSw
      obtain ⟨q0, q1, q2, q3, q4, q5, q6⟩ := q7_cells hSw; go_simp
    simp only [Act.put, List.setIfInBounds_toArray, List.set_cons_zero, List.set_cons_succ]
    refine wpAnyH_take (i := 4) (oi := { dst := some 50, op := .load 29 (.tmp 49), type := _, pos := _, after := _, guard := none }) (v := .agg #[.int .i64 (er' : Int), .int .i64 (pl' : Int)]) rfl (by kernel_rfl) (by kernel_rfl) (by kernel_rfl) (fun _ _ _ h => h) (Or.inl ⟨by rfl, ?_⟩) hS0 ?_
    · intro w hSw
      obtain ⟨q0, q1, q2, q3, q4, q5, q6⟩ := q7_cells hSw; go_simp
    simp only [Act.put, List.setIfInBounds_toArray, List.set_cons_zero, List.set_cons_succ]
    refine wpAnyH_ready (rs := [5]) (by kernel_rfl) (by simp) ?_
    refine AllReadyH.cons (o := { dst := none, op := .store 43 (.tmp 2) (.tmp 46), type := _, pos := _, after := _, guard := none }) rfl (fun K hK => ?_) AllReadyH.nil
    rw [if_pos (by rfl)]
    have hD1 : At 43 wa.drew w.heap.size noX.cells := hRa.drew
    have hD2 : At 29 wa.drew w1.heap.size (fa2 0 0) := hRb.drew
    refine wp_store_mid (P := Tryz.prog) 43 (.tmp 2) (.tmp 46) rfl w.heap.size 0 noX.cells.toArray rfl rfl (hD1.there 0 5 (by decide)) (i43 noX) (all_oneCell_toArray (ET.one noX)) ?_
    have hbu : But w.heap.size wa.drew (wa.drew.setCells w.heap.size 0 noX.cells) := (((((But.refl _ _).setCell 0 _).setCell 1 _).setCell 2 _).setCell 3 _).setCell 4 _
    have hS1 := hbu.at hS0 (by omega)
    have hD3 : At 43 (wa.drew.setCells w.heap.size 0 noX.cells) w.heap.size noX.cells := ((((hD1.set 0 _).set 1 _).set 2 _).set 3 _).set 4 _
    have hD4 := hbu.at hD2 (by omega)
    refine hK.out _ _ hS1 (fun _ => ?_)
    clear hK K
    generalize wa.drew.setCells w.heap.size 0 noX.cells = wy at *
    refine wpAnyH_ready (rs := [6]) (by kernel_rfl) (by simp) ?_
    refine AllReadyH.cons (o := { dst := none, op := .store 29 (.tmp 3) (.tmp 50), type := _, pos := _, after := _, guard := none }) rfl (fun K hK => ?_) AllReadyH.nil
    rw [if_pos (by rfl)]
    refine wp_store_mid (P := Tryz.prog) 29 (.tmp 3) (.tmp 50) rfl w1.heap.size 0 (fa2 er' pl').toArray rfl rfl (hD4.there 0 2 (by decide)) i25 (all_oneCell_toArray (one2f _ _)) ?_
    have hbv : But w1.heap.size wy (wy.setCells w1.heap.size 0 (fa2 er' pl')) := ((But.refl _ _).setCell 0 _).setCell 1 _
    have hS2 := hbv.at hS1 (by omega)
    have hD5 : At 29 (wy.setCells w1.heap.size 0 (fa2 er' pl')) w1.heap.size (fa2 er' pl') := (hD4.set 0 _).set 1 _
    have hD6 := hbv.at hD3 (by omega)
    refine hK.out _ _ hS2 (fun _ => ?_)
    clear hK K
    generalize wy.setCells w1.heap.size 0 (fa2 er' pl') = wz at *
    refine wpAnyH_done (by kernel_rfl) ?_ _
    go_wp2
    refine bodyPost_ret (results_two (P := Tryz.prog) (fn := Tryz.f14) (p := 2) (q := 3) (ty := 43) (tz := 29) rfl _ _ w.heap.size w1.heap.size 43 29 noX.cells (fa2 er' pl') _ _ rfl rfl hD6 hD5 Tryz.underlying43 rfl (i43 _) Tryz.underlying29 rfl i25) rfl ?_
    have l7 := hbu.size
    have hBd : Below w.heap.size w wa.drew := Below.drew hBW
    have l8 := hBd.size
    exact ⟨noX, rfl, rfl, noX_tw _ _, hbv.below (hbu.below hBd (Nat.le_refl _) (by omega)) (by omega) (by omega)⟩

  | ok x l =>
    obtain ⟨rfl, rfl, hl⟩ := hS7
    have hP := HP.out
    unfold exR at hP
    dsimp only at hP
    have hle : l.length = ts.length - k' + 1 := by rw [← hl]; simp [aheadT]
    have hyx := (hy x l rfl).1
    have hQle := hQ9.le
    by_cases hk : k' < ts.length
    · have hen : endR l = .bad 4 (hdT (aheadT ts k' s.size)).place := by unfold endR; rw [if_pos (by omega), hl]
      obtain ⟨p, hp⟩ : ∃ p, p = (hdT (aheadT ts k' s.size)).place := ⟨_, rfl⟩
      rw [← hp] at hen
      rw [hen] at hP
      dsimp only at hP
      subst hP
      have hO : ∀ m, Calls Tryz.prog 30 #[.pointer (some ⟨g, 0, none⟩)] (w9.drewN m) fun r w' => r = .returned (.bool true) ∧ w' = w9.drewN m := fun m => by
        have := refOk_any g ts.length a c _ s.size _ _ ne' 0 (w9.drewN m) (hQ9.cell.drewN m)
        simpa using this
      obtain ⟨q0, q1, q2, q3, q4, q5, q6⟩ := q7_cells hQ9.cell
      go_wp2_with fail
      go_quiet (first | (go_at_call 30; exact Calls.quiet_of_same (hO _)))
      clear q0 q1 q2 q3 q4 q5 q6 hO
      obtain ⟨wa, hwa⟩ : ∃ x, x = w9.drewN nq := ⟨_, rfl⟩
      have hba : Below w9.heap.size w9 wa := by rw [hwa]; exact below_drewN w9 nq
      rw [← hwa]
      clear hwa
      have la := hba.size
      have hQa := hQ9.below hba
      have hRa' := hA19.below hba
      have hRb' := hA29.below hba
      have hBa : Below w.heap.size w wa := hB9.trans (hba.mono (by omega))
      have HN := here_any g ts a c k' s.size 0 0 ne' 0 wa hQa
      rw [← hp] at HN
      clear hQ9 hA19 hA29 hB9 hT9 hA9 hen hle hyx hl hy hp
      go_wp2_with (first
        | (go_at_call 41; refine HN.mono ?_; rintro r wb ⟨rfl, m, hwb⟩; have hbb : Below wa.heap.size wa wb := (by rw [hwb]; exact below_drewN _ _); clear hwb)
        | (go_at_call 40; refine (bad_any g ts a c k' s.size 0 0 ne' 0 4 p wb (hQa.below hbb)).mono ?_; rintro r wc ⟨rfl, hQc, hbc⟩; rw [if_pos ⟨rfl, rfl⟩] at hQc)
        | (go_at_call 30; refine (refOk_any g ts.length a c _ s.size 4 p ne' 0 wc hQc.cell).mono ?_; rintro r u ⟨hr, hu⟩; rw [decide_eq_false (by decide), Bool.false_and] at hr; subst hr; obtain rfl := hu.symm))
      have lb := hbb.size
      have hRa := hbc.at (hRa'.below hbb) (by omega)
      have hRb := hbc.at (hRb'.below hbb) (by omega)
      have hBW : Below w.heap.size w wc := hbc.below (hBa.trans (hbb.mono (by omega))) (by omega) (by omega)
      have hQn := hQc
      have hS0 : At 71 wc.drew g (q7 a ts.length c ts.length s.size 4 p ne' 0) := hQn.cell.drew
      refine wp_region_held_drew (S := fun x => At 71 x g (q7 a ts.length c ts.length s.size 4 p ne' 0)) (by kernel_rfl) hS0 (fun _ => ?_)
      refine wpAnyH_take (i := 0) (oi := { dst := some 46, op := .build 43 #[], type := _, pos := _, after := _, guard := none }) (v := .agg noX.cells.toArray) rfl (by kernel_rfl) (by kernel_rfl) (by kernel_rfl) (fun _ _ _ h => h) (Or.inl ⟨by rfl, ?_⟩) hS0 ?_
      · intro w hSw
        go_simp; rfl
      simp only [Act.put, List.setIfInBounds_toArray, List.set_cons_zero, List.set_cons_succ]
      refine wpAnyH_take (i := 1) (oi := { dst := some 47, op := .move (.tmp 6), type := _, pos := _, after := _, guard := none }) (v := .pointer (some ⟨g, 0, none⟩)) rfl (by kernel_rfl) (by kernel_rfl) (by kernel_rfl) (fun _ _ _ h => h) (Or.inl ⟨by rfl, ?_⟩) hS0 ?_
      · intro w hSw
        go_simp
      simp only [Act.put, List.setIfInBounds_toArray, List.set_cons_zero, List.set_cons_succ]
      refine wpAnyH_take (i := 2) (oi := { dst := some 48, op := .nilCheck (.tmp 47), type := _, pos := _, after := _, guard := none }) (v := .pointer (some ⟨g, 0, none⟩)) rfl (by kernel_rfl) (by kernel_rfl) (by kernel_rfl) (fun _ _ _ h => h) (Or.inl ⟨by rfl, ?_⟩) hS0 ?_
      · intro w hSw
        go_simp
      simp only [Act.put, List.setIfInBounds_toArray, List.set_cons_zero, List.set_cons_succ]
      refine wpAnyH_take (i := 3) (oi := { dst := some 49, op := .fieldAddr 71 (.tmp 48) 3, type := _, pos := _, after := _, guard := none }) (v := .pointer (some ⟨g, 3, none⟩)) rfl (by kernel_rfl) (by kernel_rfl) (by kernel_rfl) (fun _ _ _ h => h) (Or.inl ⟨by rfl, ?_⟩) hS0 ?_
      · intro w hSw
        obtain ⟨q0, q1, q2, q3, q4, q5, q6⟩ := q7_cells hSw; go_simp
      simp only [Act.put, List.setIfInBounds_toArray, List.set_cons_zero, List.set_cons_succ]
      refine wpAnyH_take (i := 4) (oi := { dst := some 50, op := .load 29 (.tmp 49), type := _, pos := _, after := _, guard := none }) (v := .agg #[.int .i64 (4 : Int), .int .i64 (p : Int)]) rfl (by kernel_rfl) (by kernel_rfl) (by kernel_rfl) (fun _ _ _ h => h) (Or.inl ⟨by rfl, ?_⟩) hS0 ?_
      · intro w hSw
        obtain ⟨q0, q1, q2, q3, q4, q5, q6⟩ := q7_cells hSw; go_simp
      simp only [Act.put, List.setIfInBounds_toArray, List.set_cons_zero, List.set_cons_succ]
      refine wpAnyH_ready (rs := [5]) (by kernel_rfl) (by simp) ?_
      refine AllReadyH.cons (o := { dst := none, op := .store 43 (.tmp 2) (.tmp 46), type := _, pos := _, after := _, guard := none }) rfl (fun K hK => ?_) AllReadyH.nil
      rw [if_pos (by rfl)]
      have hD1 : At 43 wc.drew w.heap.size noX.cells := hRa.drew
      have hD2 : At 29 wc.drew w1.heap.size (fa2 0 0) := hRb.drew
      refine wp_store_mid (P := Tryz.prog) 43 (.tmp 2) (.tmp 46) rfl w.heap.size 0 noX.cells.toArray rfl rfl (hD1.there 0 5 (by decide)) (i43 noX) (all_oneCell_toArray (ET.one noX)) ?_
      have hbu : But w.heap.size wc.drew (wc.drew.setCells w.heap.size 0 noX.cells) := (((((But.refl _ _).setCell 0 _).setCell 1 _).setCell 2 _).setCell 3 _).setCell 4 _
      have hS1 := hbu.at hS0 (by omega)
      have hD3 : At 43 (wc.drew.setCells w.heap.size 0 noX.cells) w.heap.size noX.cells := ((((hD1.set 0 _).set 1 _).set 2 _).set 3 _).set 4 _
      have hD4 := hbu.at hD2 (by omega)
      refine hK.out _ _ hS1 (fun _ => ?_)
      clear hK K
      generalize wc.drew.setCells w.heap.size 0 noX.cells = wy at *
      refine wpAnyH_ready (rs := [6]) (by kernel_rfl) (by simp) ?_
      refine AllReadyH.cons (o := { dst := none, op := .store 29 (.tmp 3) (.tmp 50), type := _, pos := _, after := _, guard := none }) rfl (fun K hK => ?_) AllReadyH.nil
      rw [if_pos (by rfl)]
      refine wp_store_mid (P := Tryz.prog) 29 (.tmp 3) (.tmp 50) rfl w1.heap.size 0 (fa2 4 p).toArray rfl rfl (hD4.there 0 2 (by decide)) i25 (all_oneCell_toArray (one2f _ _)) ?_
      have hbv : But w1.heap.size wy (wy.setCells w1.heap.size 0 (fa2 4 p)) := ((But.refl _ _).setCell 0 _).setCell 1 _
      have hS2 := hbv.at hS1 (by omega)
      have hD5 : At 29 (wy.setCells w1.heap.size 0 (fa2 4 p)) w1.heap.size (fa2 4 p) := (hD4.set 0 _).set 1 _
      have hD6 := hbv.at hD3 (by omega)
      refine hK.out _ _ hS2 (fun _ => ?_)
      clear hK K
      generalize wy.setCells w1.heap.size 0 (fa2 4 p) = wz at *
      refine wpAnyH_done (by kernel_rfl) ?_ _
      go_wp2
      refine bodyPost_ret (results_two (P := Tryz.prog) (fn := Tryz.f14) (p := 2) (q := 3) (ty := 43) (tz := 29) rfl _ _ w.heap.size w1.heap.size 43 29 noX.cells (fa2 4 p) _ _ rfl rfl hD6 hD5 Tryz.underlying43 rfl (i43 _) Tryz.underlying29 rfl i25) rfl ?_
      have l7 := hbu.size
      have hBd : Below w.heap.size w wc.drew := Below.drew hBW
      have l8 := hBd.size
      exact ⟨noX, rfl, rfl, noX_tw _ _, hbv.below (hbu.below hBd (Nat.le_refl _) (by omega)) (by omega) (by omega)⟩

    · have hen : endR l = .ok () l := by unfold endR; rw [if_neg (by omega)]
      rw [hen] at hP
      dsimp only at hP
      subst hP
      have hO : ∀ m, Calls Tryz.prog 30 #[.pointer (some ⟨g, 0, none⟩)] (w9.drewN m) fun r w' => r = .returned (.bool true) ∧ w' = w9.drewN m := fun m => by
        have := refOk_any g ts.length a c _ s.size _ _ ne' 0 (w9.drewN m) (hQ9.cell.drewN m)
        simpa using this
      obtain ⟨q0, q1, q2, q3, q4, q5, q6⟩ := q7_cells hQ9.cell
      go_wp2_with fail
      go_quiet (first | (go_at_call 30; exact Calls.quiet_of_same (hO _)))
      clear q0 q1 q2 q3 q4 q5 q6 hO
      obtain ⟨wa, hwa⟩ : ∃ x, x = w9.drewN nq := ⟨_, rfl⟩
      have hba : Below w9.heap.size w9 wa := by rw [hwa]; exact below_drewN w9 nq
      rw [← hwa]
      clear hwa
      have la := hba.size
      have hQa := hQ9.below hba
      have hRa' := hA19.below hba
      have hRb' := hA29.below hba
      have hBa : Below w.heap.size w wa := hB9.trans (hba.mono (by omega))
      have hT9a := hT9.but (But.of_below (g := g) hba) (.inl (by omega))
      have hA9a := hA9.below hba
      clear hQ9 hA19 hA29 hB9 hT9 hA9 hen hle hl hy
      go_wp2_with (first
        | (go_at_call 30; refine (refOk_any g ts.length a c _ s.size 0 0 ne' 0 wa hQa.cell).mono ?_; rintro r u ⟨hr, hu⟩; rw [show (decide (0 = 0) && decide (0 = 0)) = true by decide] at hr; subst hr; obtain rfl := hu.symm)
        | ((with_reducible show wpList _ _ _ _ _ _); refine wpList_load_at (P := Tryz.prog) rfl 43 (.tmp 7) rfl w7.heap.size rfl 43 y.cells hA9a _ Tryz.underlying43 rfl (i43 _) ?_)
        | ((with_reducible show wpList _ _ _ _ _ _); refine wpList_build_at rfl 29 _ rfl (fa2 0 0) (by kernel_rfl) ?_)
        | ((with_reducible show wpList _ _ _ _ _ _); refine wpList_store_at (P := Tryz.prog) rfl 43 (.tmp 2) (.tmp 51) rfl w.heap.size y.cells rfl rfl 43 _ hRa' (i43 _) (len43 _) (ET.one _) ?_; intro wd hAd hbd hsd; clear hsd; have hBd2 := hbd.at hRb' (by omega))
        | ((with_reducible show wpList _ _ _ _ _ _); refine wpList_store_at (P := Tryz.prog) rfl 29 (.tmp 3) (.tmp 52) rfl w1.heap.size (fa2 0 0) rfl rfl 29 _ hBd2 i25 rfl (one2f _ _) ?_; intro we hAe hbe hs; clear hs; refine Hid.out ?_))
      refine hidU ?_
      have hD6 := hbe.at hAd (by omega)
      go_wp2
      refine bodyPost_ret (results_two (P := Tryz.prog) (fn := Tryz.f14) (p := 2) (q := 3) (ty := 43) (tz := 29) rfl _ _ w.heap.size w1.heap.size 43 29 y.cells (fa2 0 0) _ _ rfl rfl hD6 hAe Tryz.underlying43 rfl (i43 _) Tryz.underlying29 rfl i25) rfl ?_
      have ld := hbd.size
      exact ⟨y, rfl, hyx, ((hT9a.but hbd (.inl (by omega))).but hbe (.inl (by omega))).low (by omega), hbe.below (hbd.below hBa (Nat.le_refl _) (by omega)) (by omega) (by omega)⟩

end Go.Proofs.YtjgggmjjikopeaaGreatDoor

/- The document's Expr, of any text. -/
namespace Go.Proofs.YtjgggmjjikopeaaGreatDoor
open Go.RowKit
set_option linter.unusedVariables false

/-- The document's 'Expr'. -/
theorem refText_any (s : ByteArray) (w : World) (hmax : s.size ≤ 9223372036854775807) (R : Rs Ex) (hR : ∃ f, rowF f 1 0 (toksOf (bytes s)) = some R) :
    Calls Tryz.prog 14 #[.string s] w fun r w' => PostP w (exO (bytes s) R) r w' := by
  have HL : Hid (∀ u, Calls Tryz.prog 28 #[.string s] u fun e w' => LexPost u (lexS (bytes s)) e w') := fun u => refLex_any s u hmax
  have hok := lexS_ok (bytes s)
  have hpl := lexS_place (bytes s)
  obtain ⟨f, hf⟩ := hR
  obtain ⟨g, hg⟩ := (alike f).1 1 0 _ _ (by omega) (by omega) hf
  have hg : ruleF g 0 0 (toksOf (bytes s)) = some R := hg
  unfold exO
  unfold toksOf at hg
  rw [bytes_length] at hg
  clear hf
  generalize lexS (bytes s) = O at *
  obtain ⟨ts, er, pl⟩ := O
  dsimp only at hok hpl hg ⊢
  by_cases hc : er = 0
  · obtain rfl := hpl hc
    subst hc
    rw [if_pos rfl]
    exact refText_ok s hmax w ts hok.1 hok.2 R g (by unfold aheadT; simpa using hg) HL
  · rw [if_neg hc]
    exact refText_bad s er pl hc w ts HL

end Go.Proofs.YtjgggmjjikopeaaGreatDoor

/- What stands for the awake's texts. -/
namespace Go.Proofs.YtjgggmjjikopeaaGreatDoor
open Go.RowKit
set_option linter.unusedVariables false

/-- The awake's texts. -/
def txA : List UInt8 := [97, 32, 45, 32, 98, 32, 45, 32, 99, 32, 42, 32, 45, 100]
def txB : List UInt8 := [97, 32, 60, 32, 98, 32, 60, 32, 99]
def rsA : Rs Ex := (rowF 60 1 0 (toksOf txA)).getD (.bad 0 0)
def rsB : Rs Ex := (rowF 60 1 0 (toksOf txB)).getD (.bad 0 0)
theorem getD_some {α : Type} {o : Option α} {d : α} (h : o.isSome = true) : o = some (o.getD d) := by
  cases o with
  | none => cases h
  | some x => rfl
theorem evA : ∃ f, rowF f 1 0 (toksOf txA) = some rsA := ⟨60, getD_some (by kernel_rfl)⟩
theorem evB : ∃ f, rowF f 1 0 (toksOf txB) = some rsB := ⟨60, getD_some (by kernel_rfl)⟩
theorem exB_ev : exO txB rsB = (noX.ex, 4, 6) := by kernel_rfl
theorem exA_ev : (exO txA rsA).2 = (0, 0) := by kernel_rfl
theorem exA_tx : exT (exO txA rsA).1 = [40, 40, 97, 32, 45, 32, 98, 41, 32, 45, 32, 40, 99, 32, 42, 32, 45, 100, 41, 41] := by kernel_rfl
theorem exA_may : mayE 32 (exO txA rsA).1 = true := by kernel_rfl

end Go.Proofs.YtjgggmjjikopeaaGreatDoor
