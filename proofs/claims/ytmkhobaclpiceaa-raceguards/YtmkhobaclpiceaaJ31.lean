/- Joined texts of the proof. -/
import Derived.Test.YtmkhobaclpiceaaJ30

/- The law's guarded. -/
namespace Go.Proofs.Ytmkhobaclpiceaa
open Go.RowKit
set_option linter.unusedVariables false
attribute [local go_sem ↓] Go.wp_at_zero Go.wp_at_succ

theorem appEn {ops : Array Oper} {rest : List Oper} {o : Oper} {a : Act} {Q : Exit → Act → World → Prop} {w0 : World} (s x : Operand) (fs : List Ev) (k base : Nat) (v : Value) (es : List Ev)
    (hgd : o.guard = none) (ho : o.op = .call { callee := .builtin .append, args := #[s, x], argTypes := #[22, 22] })
    (hs : a.eval s = v) (hx : a.eval x = .slice (some ⟨w0.heap.size, 0, none⟩) k k) (hk : fs.length = k) (hown : OwnE base w0 v es) (hlen : es.length + k ≤ 1048576) (hbase : base ≤ w0.heap.size)
    (h : ∀ v' w', OwnE base w' v' (es ++ fs) → Below base w0 w' → wpList Try.prog ops Q rest (a.put o.dst v') w') :
    wpList Try.prog ops Q (o :: rest) a (w0.alloc (.cells (flatE fs).toArray 24)) := by
  have hb0 : Below w0.heap.size w0 (w0.alloc (.cells (flatE fs).toArray 24)) := (Below.refl _ w0).alloc (Nat.le_refl _) _
  have hrow : RowEv (w0.alloc (.cells (flatE fs).toArray 24)) (some ⟨w0.heap.size, 0, none⟩) fs := rowEv_of (heap_new w0 _)
  refine wpList_plain hgd fun K hK => ?_
  refine wp_appE s x ho base v es fs (some ⟨w0.heap.size, 0, none⟩) k k hs hx (hown.below hb0) hk (fun h => by cases h) (Nat.le_refl _) hrow hlen (Nat.le_trans hbase hb0.size) ?_
  intro v' w' h1 h2 _ _
  exact hK _ _ (h v' w' h1 ((hb0.mono hbase).trans h2))

theorem and_one : ∀ p : Fin 128, bits .and .i64 ((p.val : Nat) : Int) 1 = ((p.val % 2 : Nat) : Int) ∧ bits .and .i64 (((p.val : Nat) : Int) / 2) 1 = ((p.val / 2 % 2 : Nat) : Int) ∧ bits .and .i64 ((p.val : Nat) : Int) 4 = ((p.val / 4 % 2 * 4 : Nat) : Int) := by decide +kernel
theorem and_two (p : Nat) (h : p < 128) : ∃ A O F B T : Nat, O ≤ 1 ∧ B ≤ 2 ∧ bits .and .i64 (p : Int) 1 = (A : Int) ∧ bits .and .i64 ((p : Int) / 2) 1 = (O : Int) ∧ bits .and .i64 (p : Int) 4 = (F : Int) ∧ wrap64 (1 + (A : Int)) = (B : Int) ∧ (p : Int) / 8 = (T : Int) ∧ T = p / 8 := by
  have h0 := and_one ⟨p, h⟩
  refine ⟨p % 2, p / 2 % 2, p / 4 % 2 * 4, 1 + p % 2, p / 8, by omega, by omega, h0.1, h0.2.1, h0.2.2, ?_, by omega, rfl⟩
  unfold wrap64
  omega
theorem turn_ok {n T : Nat} (h : T < n) (hn : n ≤ 16) (k o : Nat) (hk : k ≤ 100) (ho : o ≤ 100) : Ev.ok ⟨T, k, o⟩ ∧ 0 ≤ (Ev.mk T k o).th ∧ (Ev.mk T k o).th < (n : Int) := by
  refine ⟨⟨⟨?_, ?_⟩, ⟨?_, ?_⟩, ⟨?_, ?_⟩⟩, ?_, ?_⟩ <;> dsimp only <;> omega
theorem turn_all {n T : Nat} {es : List Ev} (h0 : ∀ x ∈ es, x.ok ∧ 0 ≤ x.th ∧ x.th < (n : Int)) (h : T < n) (hn : n ≤ 16) (ps : List (Nat × Nat)) (hps : ∀ q ∈ ps, q.1 ≤ 100 ∧ q.2 ≤ 100) :
    ∀ x ∈ es ++ ps.map (fun q => (⟨T, q.1, q.2⟩ : Ev)), x.ok ∧ 0 ≤ x.th ∧ x.th < (n : Int) := by
  intro x hx
  rcases List.mem_append.1 hx with h1 | h1
  · exact h0 x h1
  · obtain ⟨q, hq, rfl⟩ := List.mem_map.1 h1
    exact turn_ok h hn q.1 q.2 (hps q hq).1 (hps q hq).2

set_option maxRecDepth 100000 in
set_option maxHeartbeats 6400000 in
theorem guarded_any (zs : List Int) (n : Nat) (a : Option Addr) (c : Nat) (w : World) (hr : RowI w a zs) (hz : ∀ z ∈ zs, -9223372036854775808 ≤ z ∧ z < 9223372036854775808) (hc : zs.length ≤ c) (hm : zs.length ≤ 40) (hn1 : 1 ≤ n) (hn16 : n ≤ 16) :
    Calls Try.prog 24 #[.slice a zs.length c, .int .i64 n] w fun r w' => ∃ v es, r = .returned v ∧ OwnE w.heap.size w' v es ∧ Gd es ∧ (∀ x ∈ es, x.ok ∧ 0 ≤ x.th ∧ x.th < n) ∧ es.length ≤ 200 ∧ Below w.heap.size w w' := by
  obtain ⟨m, hmm⟩ : ∃ m, Hid (m = zs.length) := ⟨_, (rfl : _ = zs.length)⟩
  have HR : Hid (RowI w a zs ∧ ∀ z ∈ zs, -9223372036854775808 ≤ z ∧ z < 9223372036854775808) := ⟨hr, hz⟩
  rw [← hmm.out] at hc hm ⊢
  clear hr hz
  have hw8 : IntKind.i64.wrap (8 * (n : Int)) = ((8 * n : Nat) : Int) := by rw [IntKind.wrap_i64]; omega
  go_enter Try.func24, Try.ntmps24
  go_wp2_with fail
  go_loopw [5, 6] (fun v t wr => ∃ (k : Nat) (es : List Ev), k ≤ m ∧ t = .int .i64 k ∧ Hid (OwnE w.heap.size wr v es) ∧ Hid (Gd es) ∧ Hid (∀ x ∈ es, x.ok ∧ 0 ≤ x.th ∧ x.th < n) ∧ es.length ≤ 5 * k ∧ Hid (Below w.heap.size w wr)) (fun _ t _ => m - (intOf t).toNat)
  case atStart => exact ⟨0, [], Nat.zero_le _, rfl, World.ownsRow_nil _ _ _ _, Gd.nil, (fun x hx => by cases hx), Nat.zero_le _, Below.refl _ _⟩
  case round =>
    obtain ⟨k, es, hk, rfl, hown, hgd, hall, hlen, hB⟩ := hrel
    by_cases hkm : k < m
    · obtain ⟨z, hz⟩ : ∃ z, zs[k]? = some z := ⟨zs[k]'(by rw [← hmm.out]; exact hkm), by rw [List.getElem?_eq_getElem]⟩
      have hzb := HR.out.2 z (List.mem_of_getElem? hz)
      obtain ⟨ga, oa, rfl, hcell⟩ := (HR.out.1.below hB.out).at k z hz
      have HP : Hid (∀ u, Calls Try.prog 45 #[.int .i64 z, .int .i64 ((8 * n : Nat) : Int)] u fun e w' => ∃ p : Nat, e = .returned (.int .i64 p) ∧ p < 8 * n ∧ w' = u) := fun u =>
        (pick_any z ((8 * n : Nat) : Int) u hzb.1 hzb.2 (by omega)).mono fun e w' ⟨⟨p, d1, d2, d3⟩, d4⟩ => ⟨p, d1, by have := d2 (by omega); omega, d4⟩
      clear hz hzb
      go_wp2_with (first | (go_at_call 45; refine (HP.out _).mono ?_; rintro _ w4' ⟨p, rfl, hp, hww⟩; obtain rfl : wr = w4' := hww.symm; clear hww; refine Hid.out ?_))
      refine hidU ?_
      clear hcell HP
      obtain ⟨A, O, F, B, T, hO1, hB1, hA, hO, hF, hAk, hT, hT0⟩ := and_two p (by omega)
      have hTn : T < n := by rw [hT0]; omega
      clear hT0
      have hsz := hB.out.size
      go_wp2_with (first | (at_builtin; refine appEn (.tmp 24) (.tmp 35) [⟨T, 3, 0⟩, ⟨T, B, O⟩] 2 w.heap.size _ es rfl rfl rfl rfl rfl hown.out (by omega) hsz ?_; intro v5 w5 hown5 hb5; refine Hid.out ?_))
      refine hidU ?_
      have HO5 : Hid (OwnE w.heap.size w5 v5 (es ++ [⟨T, 3, 0⟩, ⟨T, B, O⟩])) := hown5
      have HB5 : Hid (Below w.heap.size w w5) := hB.out.trans hb5
      have hsz5 := HB5.out.size
      clear hown5 hb5 hown hB hA hO hAk hsz
      by_cases hf : F = 0
      · have hF1 : bits BinOp.and IntKind.i64 (p : Int) 4 = 0 := by rw [hF, hf]; rfl
        clear hF
        go_wp2_with (first | (at_builtin; refine appEn (.tmp 47) (.tmp 50) [⟨T, 4, 0⟩] 1 w.heap.size _ _ rfl rfl rfl rfl rfl HO5.out (by rw [List.length_append]; simp; omega) hsz5 ?_; intro v6 w6 hown6 hb6))
        have hnew : (es ++ [⟨T, 3, 0⟩, ⟨T, B, O⟩]) ++ [⟨T, 4, 0⟩] = es ++ turnE T [⟨T, B, O⟩] := by simp [turnE]
        have hnew2 : es ++ turnE T [⟨T, B, O⟩] = es ++ [(3, 0), (B, O), (4, 0)].map (fun q => (⟨T, (q.1 : Nat), (q.2 : Nat)⟩ : Ev)) := rfl
        rw [hnew] at hown6
        go_roundw
        case rel =>
          refine ⟨k + 1, es ++ turnE T [⟨T, B, O⟩], by omega, by go_num, hown6, hgd.out.add (by intro e he; simp at he; rw [he]), ?_, by rw [List.length_append, turnE_length]; simp; omega, HB5.out.trans hb6⟩
          rw [hnew2]
          exact turn_all hall.out hTn hn16 _ (by intro q hq; simp at hq; rcases hq with rfl | rfl | rfl <;> exact ⟨by dsimp only; omega, by dsimp only; omega⟩)
        case measure => simp [intOf]; omega
      · have hF1 : ¬ bits BinOp.and IntKind.i64 (p : Int) 4 = 0 := by rw [hF]; omega
        have hF2 : (bits BinOp.and IntKind.i64 (p : Int) 4 == 0) = false := by rw [beq_eq_false_iff_ne]; exact hF1
        clear hF
        go_wp2_with (first | (at_builtin; refine appEn (.tmp 40) (.tmp 45) [⟨T, 0, 0⟩, ⟨T, 2, 0⟩] 2 w.heap.size _ _ rfl rfl rfl rfl rfl HO5.out (by rw [List.length_append]; simp; omega) hsz5 ?_; intro v6 w6 hown6 hb6; refine Hid.out ?_))
        refine hidU ?_
        have HO6 : Hid (OwnE w.heap.size w6 v6 ((es ++ [⟨T, 3, 0⟩, ⟨T, B, O⟩]) ++ [⟨T, 0, 0⟩, ⟨T, 2, 0⟩])) := hown6
        have HB6 : Hid (Below w.heap.size w w6) := HB5.out.trans hb6
        have hsz6 := HB6.out.size
        clear hown6 hb6 HO5 HB5 hsz5
        go_wp2_with (first | (at_builtin; refine appEn (.tmp 47) (.tmp 50) [⟨T, 4, 0⟩] 1 w.heap.size _ _ rfl rfl rfl rfl rfl HO6.out (by rw [List.length_append, List.length_append]; simp; omega) hsz6 ?_; intro v7 w7 hown7 hb7))
        have hnew : ((es ++ [⟨T, 3, 0⟩, ⟨T, B, O⟩]) ++ [⟨T, 0, 0⟩, ⟨T, 2, 0⟩]) ++ [⟨T, 4, 0⟩] = es ++ turnE T [⟨T, B, O⟩, ⟨T, 0, 0⟩, ⟨T, 2, 0⟩] := by simp [turnE]
        have hnew2 : es ++ turnE T [⟨T, B, O⟩, ⟨T, 0, 0⟩, ⟨T, 2, 0⟩] = es ++ [(3, 0), (B, O), (0, 0), (2, 0), (4, 0)].map (fun q => (⟨T, (q.1 : Nat), (q.2 : Nat)⟩ : Ev)) := rfl
        rw [hnew] at hown7
        go_roundw
        case rel =>
          refine ⟨k + 1, es ++ turnE T [⟨T, B, O⟩, ⟨T, 0, 0⟩, ⟨T, 2, 0⟩], by omega, by go_num, hown7, hgd.out.add (by intro e he; simp at he; rcases he with rfl | rfl | rfl <;> rfl), ?_, by rw [List.length_append, turnE_length]; simp; omega, HB6.out.trans hb7⟩
          rw [hnew2]
          exact turn_all hall.out hTn hn16 _ (by intro q hq; simp at hq; rcases hq with rfl | rfl | rfl | rfl | rfl <;> exact ⟨by dsimp only; omega, by dsimp only; omega⟩)
        case measure => simp [intOf]; omega
    · go_wp2_with fail
      go_ret
      exact ⟨_, es, rfl, hown.out, hgd.out, hall.out, by omega, hB.out⟩
end Go.Proofs.Ytmkhobaclpiceaa

/- RaceGuards: the walk, given what race.Data and RaceKnown tell. -/
namespace Go.Proofs.Ytmkhobaclpiceaa
open Go.RowKit
set_option linter.unusedVariables false
attribute [local go_sem ↓] Go.wp_at_zero Go.wp_at_succ

set_option maxRecDepth 100000 in
set_option maxHeartbeats 6400000 in
theorem raceGuards_of (HD : TellsP 10 dataZ) (HKN : KnownOk) (zs : List Int) (z : Int) (a : Option Addr) (c : Nat) (w : World) (hr : RowI w a zs) (hz : ∀ z ∈ zs, -9223372036854775808 ≤ z ∧ z < 9223372036854775808) (hl : zs.length ≤ 9223372036854775807) (hc : zs.length ≤ c) :
    Calls Try.prog 6 #[.slice a zs.length c, .int .i64 z] w fun r w' => r = .returned (.bool true) ∧ Below w.heap.size w w' := by
  have HB : Hid (∀ u v, Below w.heap.size w u → Below u.heap.size u v → Below w.heap.size w v) := fun u v h1 h2 => h1.trans (h2.mono h1.size)
  have HK := HKN w
  by_cases hout : 40 < zs.length ∨ z < 1 ∨ 16 < z
  · obtain ⟨m, hm⟩ : ∃ m, Hid (m = zs.length) := ⟨_, (rfl : _ = zs.length)⟩
    rw [← hm.out] at hout hl hc ⊢
    clear hr hz HD HKN
    by_cases h40 : 40 < m
    · have z1 : (40 : Int) < (m : Int) := by omega
      go_enter Try.func6, Try.ntmps6
      go_wp2_with (first | (go_at_call 4; refine HK.mono ?_; rintro _ w1 ⟨rfl, hb1⟩))
      go_ret
      exact ⟨rfl, hb1⟩
    · have z1 : ¬ (40 : Int) < (m : Int) := by omega
      by_cases h1 : z < 1
      · clear hout
        go_enter Try.func6, Try.ntmps6
        go_wp2_with (first | (go_at_call 4; refine HK.mono ?_; rintro _ w1 ⟨rfl, hb1⟩))
        go_ret
        exact ⟨rfl, hb1⟩
      · have h2 : 16 < z := by omega
        clear hout
        go_enter Try.func6, Try.ntmps6
        go_wp2_with (first | (go_at_call 4; refine HK.mono ?_; rintro _ w1 ⟨rfl, hb1⟩))
        go_ret
        exact ⟨rfl, hb1⟩
  · have hm40 : zs.length ≤ 40 := by omega
    have hz1 : 1 ≤ z := by omega
    have hz16 : z ≤ 16 := by omega
    clear hout
    obtain ⟨n, rfl⟩ : ∃ n : Nat, z = (n : Int) := ⟨z.toNat, by omega⟩
    have HG : Hid (∀ u, Below w.heap.size w u → Calls Try.prog 24 #[.slice a zs.length c, .int .i64 n] u fun r w' => ∃ ae ce es, r = .returned (.slice ae (List.length (α := Ev) es) ce) ∧ es.length ≤ ce ∧ RowEv w' ae es ∧ Gd es ∧ (∀ x ∈ es, x.ok ∧ 0 ≤ x.th ∧ x.th < n) ∧ es.length ≤ 200 ∧ Below u.heap.size u w') := fun u hu => by
      refine (guarded_any zs n a c u (hr.below hu) hz hc hm40 (by omega) (by omega)).mono fun r w' ⟨v, es, d1, d2, d3, d4, d5, d6⟩ => ?_
      obtain ⟨ae, ce, rfl, f2, f3⟩ := d2.row
      exact ⟨ae, ce, es, d1, f2, f3, d3, d4, d5, d6⟩
    have HDD : Hid (∀ u ae ce (es : List Ev) (L : Nat), L = es.length → RowEv u ae es → Gd es → (∀ x ∈ es, x.ok ∧ 0 ≤ x.th ∧ x.th < n) → es.length ≤ 200 → es.length ≤ ce → Calls Try.prog 10 #[.slice ae L ce, .int .i64 n] u fun r w' => ∃ ap cp, r = .returned (.tuple #[.slice ap 0 cp, .int .i64 0]) ∧ Below u.heap.size u w') := fun u ae ce es L hL h1 h2 h3 h4 h5 => by
      have hw : wrongZ es (n : Int) = 0 := wrongZ_of hz1 hz16 (by omega) fun x hx => (h3 x hx).2
      have hd : dataZ es (n : Int) = [] := by
        unfold dataZ
        rw [if_pos hw]
        exact h2.none
      have := HD es n ae ce u h1 (fun x hx => (h3 x hx).1) (by omega) h5
      rw [hd, hw, ← hL] at this
      exact this.mono fun r w' ⟨ap, cp, d1, d2, d3, d4⟩ => ⟨ap, cp, d1, d4⟩
    obtain ⟨m, hm⟩ : ∃ m, Hid (m = zs.length) := ⟨_, (rfl : _ = zs.length)⟩
    rw [← hm.out] at hm40 hl hc HG ⊢
    clear hr hz HD HKN
    have z1 : ¬ (40 : Int) < (m : Int) := by omega
    have z2 : ¬ (n : Int) < 1 := by omega
    have z3 : ¬ (16 : Int) < (n : Int) := by omega
    go_enter Try.func6, Try.ntmps6
    go_wp2_with (first | (go_at_call 4; refine HK.mono ?_; rintro _ w1 ⟨rfl, hb1⟩) | (go_at_call 24; refine (HG.out _ hb1).mono ?_; rintro _ w2 ⟨ae, ce, es, rfl, hce, hre, hgd, hall, hle, hb2⟩; refine Hid.out ?_))
    refine hidU ?_
    have hB2 : Hid (Below w.heap.size w w2) := HB.out _ _ hb1 hb2
    obtain ⟨L, hL⟩ : ∃ L, Hid (L = es.length) := ⟨_, (rfl : _ = es.length)⟩
    have HC := HDD.out w2 ae ce es L hL.out hre hgd hall hle hce
    rw [← hL.out]
    clear hb1 hb2 hre hgd hall hle hce HG HDD HK
    go_wp2_with (first | (go_at_call 10; refine HC.mono ?_; rintro _ w3 ⟨ap, cp, rfl, hb3⟩))
    go_ret
    exact ⟨rfl, HB.out _ _ hB2.out hb3⟩
end Go.Proofs.Ytmkhobaclpiceaa

/- The chapter's examples, reckoned; the law's pairs, held, awake, given what race tells. -/
namespace Go.Proofs.Ytmkhobaclpiceaa
open Go.RowKit
set_option linter.unusedVariables false
attribute [local go_sem ↓] Go.wp_at_zero Go.wp_at_succ

/-- What comes ahead, by so much fuel. -/
def hrF (R : Nat → Nat → Bool) : Nat → Nat → Nat → Bool
  | 0, _, _ => false
  | f + 1, j, i => decide (i < j) && (R i j || (List.range j).any fun k => hrF R f k i && R k j)
theorem hrF_iff (R : Nat → Nat → Bool) : ∀ f j i, j ≤ f → (hrF R f j i = true ↔ HR R i j)
  | 0, j, i, h => by
    obtain rfl : j = 0 := by omega
    simp only [hrF, Bool.false_eq_true, false_iff]
    intro h
    have := h.lt
    omega
  | f + 1, j, i, h => by
    simp only [hrF, Bool.and_eq_true, decide_eq_true_eq, Bool.or_eq_true, List.any_eq_true, List.mem_range]
    constructor
    · rintro ⟨h1, h2 | ⟨k, h3, h4, h5⟩⟩
      · exact .dep h1 h2
      · exact .step ((hrF_iff R f k i (by omega)).1 h4) h3 h5
    · intro hh
      refine ⟨hh.lt, ?_⟩
      cases hh with
      | dep h1 h2 => exact .inl h2
      | step h0 h1 h2 => exact .inr ⟨_, h1, (hrF_iff R f _ i (by omega)).2 h0, h2⟩
theorem hrF_eq (R : Nat → Nat → Bool) {f j : Nat} (i : Nat) (h : j ≤ f) : hrB R j i = hrF R f j i := by
  rw [Bool.eq_iff_iff, hrB_iff, hrF_iff R f j i h]
theorem hbF_eq (ev : Nat → Ev) {f j : Nat} (i : Nat) (h : j ≤ f) : hbB ev j i = hrF (fun i j => depB (ev i) (ev j)) f j i := by
  rw [Bool.eq_iff_iff, hbB_iff, hb_hr, hrF_iff _ f j i h]
def raceF (ev : Nat → Ev) (j i : Nat) : Bool := !decide ((ev i).th = (ev j).th) && (depB (ev i) (ev j) && !((List.range j).any fun x => decide (i < x) && (hrF (fun i j => depB (ev i) (ev j)) 8 x i && hrF (fun i j => depB (ev i) (ev j)) 8 j x)))
def dataF (ev : Nat → Ev) (j i : Nat) : Bool := !decide ((ev i).th = (ev j).th) && (varB (ev i) && (varB (ev j) && (depB (ev i) (ev j) && !hrF (lockR ev) 8 j i)))
theorem raceF_eq (ev : Nat → Ev) {j : Nat} (i : Nat) (h : j ≤ 8) : raceP ev j i = raceF ev j i := by
  unfold raceP raceF
  congr 3
  unfold btw
  rw [Bool.eq_iff_iff, List.any_eq_true, List.any_eq_true]
  constructor
  · rintro ⟨x, hx, h1⟩
    have := List.mem_range.1 hx
    exact ⟨x, hx, by rw [← hbF_eq ev i (by omega), ← hbF_eq ev x h]; exact h1⟩
  · rintro ⟨x, hx, h1⟩
    have := List.mem_range.1 hx
    exact ⟨x, hx, by rw [hbF_eq ev i (show x ≤ 8 by omega), hbF_eq ev x h]; exact h1⟩
theorem raceZ_eq (es : List Ev) (n : Int) (hw : wrongZ es n = 0) (h : es.length ≤ 8) : raceZ es n = pairsL (raceF (evAt es)) es.length := by
  unfold raceZ
  rw [if_pos hw]
  exact pairsL_congr fun i j _ hj => raceF_eq _ i (by omega)
theorem dataZ_eq (es : List Ev) (n : Int) (hw : wrongZ es n = 0) (h : es.length ≤ 8) : dataZ es n = pairsL (dataF (evAt es)) es.length := by
  unfold dataZ
  rw [if_pos hw]
  refine pairsL_congr fun i j _ hj => ?_
  unfold dataP dataF
  rw [hrF_eq (lockR (evAt es)) i (show j ≤ 8 by omega)]
theorem pendZ_eq (es : List Ev) (n : Int) (e : Ev) (hw : wrongZ (es ++ [e]) n = 0) (h : es.length ≤ 8) : pendZ es n e = ((List.range es.length).filter (raceF (evAt (es ++ [e])) es.length)).map fun (i : Nat) => (i : Int) := by
  unfold pendZ
  rw [if_pos hw]
  unfold pendL
  congr 1
  exact List.filter_congr fun i _ => raceF_eq _ i h
/-- The examples. -/
def exA : List Ev := [⟨0, 2, 0⟩, ⟨1, 1, 0⟩]
def exH (t : Int) : List Ev := [⟨t, 3, 0⟩, ⟨t, 2, 0⟩, ⟨t, 4, 0⟩]
def exT : List Ev := [⟨0, 2, 0⟩, ⟨1, 2, 0⟩, ⟨2, 2, 0⟩]
def exR : List Ev := [⟨0, 1, 0⟩, ⟨1, 1, 0⟩]
theorem exA_w : wrongZ exA 2 = 0 := by decide +kernel
theorem exA_r : raceZ exA 2 = [(0, 1)] := by rw [raceZ_eq exA 2 exA_w (by decide)]; decide +kernel
theorem exA_d : dataZ exA 2 = [(0, 1)] := by rw [dataZ_eq exA 2 exA_w (by decide)]; decide +kernel
theorem exH_w : wrongZ (exH 0 ++ exH 1) 2 = 0 := by decide +kernel
theorem exH_r : raceZ (exH 0 ++ exH 1) 2 = [(2, 3)] := by rw [raceZ_eq _ 2 exH_w (by decide)]; decide +kernel
theorem exH_d : dataZ (exH 0 ++ exH 1) 2 = [] := by rw [dataZ_eq _ 2 exH_w (by decide)]; decide +kernel
theorem exT_w : wrongZ exT 3 = 0 := by decide +kernel
theorem exT_r : raceZ exT 3 = [(0, 1), (1, 2)] := by rw [raceZ_eq exT 3 exT_w (by decide)]; decide +kernel
theorem exT_d : dataZ exT 3 = [(0, 1), (0, 2), (1, 2)] := by rw [dataZ_eq exT 3 exT_w (by decide)]; decide +kernel
theorem exR_w : wrongZ exR 2 = 0 := by decide +kernel
theorem exR_r : raceZ exR 2 = [] := by rw [raceZ_eq exR 2 exR_w (by decide)]; decide +kernel
theorem exR_d : dataZ exR 2 = [] := by rw [dataZ_eq exR 2 exR_w (by decide)]; decide +kernel
theorem exP_w : wrongZ ([⟨0, 3, 0⟩] ++ [⟨1, 3, 0⟩]) 2 = 0 := by decide +kernel
theorem exP_p : pendZ [⟨0, 3, 0⟩] 2 ⟨1, 3, 0⟩ = [0] := by rw [pendZ_eq _ 2 _ exP_w (by decide)]; decide +kernel
theorem exOk {es : List Ev} (h : es.all (fun e => decide (-100 ≤ e.th ∧ e.th ≤ 100 ∧ -100 ≤ e.kd ∧ e.kd ≤ 100 ∧ -100 ≤ e.ob ∧ e.ob ≤ 100)) = true) : ∀ x ∈ es, x.ok := fun x hx => by
  have := of_decide_eq_true (List.all_eq_true.1 h x hx)
  obtain ⟨h1, h2, h3, h4, h5, h6⟩ := this
  exact ⟨⟨by omega, by omega⟩, ⟨by omega, by omega⟩, ⟨by omega, by omega⟩⟩

set_option maxRecDepth 100000 in
set_option maxHeartbeats 6400000 in
theorem pairs_ok (HR : TellsP 8 raceZ) (HD : TellsP 10 dataZ) (es : List Ev) (n : Int) (ps qs : List (Nat × Nat)) (m l1 l2 : Nat) (a a1 a2 : Option Addr) (c c1 c2 : Nat) (w : World) (hE : RowEv w a es) (hok : ∀ x ∈ es, x.ok) (hm : es.length = m) (hl1 : ps.length = l1) (hl2 : qs.length = l2) (hm8 : m ≤ 1000) (hc : m ≤ c) (hw : wrongZ es n = 0) (h1 : raceZ es n = ps) (h2 : dataZ es n = qs) (r1 : RowP w a1 ps) (r2 : RowP w a2 qs) (hc1 : l1 ≤ c1) (hc2 : l2 ≤ c2) :
    Calls Try.prog 18 #[.slice a m c, .int .i64 n, .slice a1 l1 c1, .slice a2 l2 c2] w fun r w' => r = .returned (.bool true) ∧ Below w.heap.size w w' := by
  have HB : Hid (∀ u v, Below w.heap.size w u → Below u.heap.size u v → Below w.heap.size w v) := fun u v h1 h2 => h1.trans (h2.mono h1.size)
  have b1 : l1 ≤ 1048576 := by rw [← hl1, ← h1]; exact raceZ_length es n
  have b2 : l2 ≤ 1048576 := by rw [← hl2, ← h2]; exact dataZ_length es n
  have H1 := HR es n a c w hE hok (by omega) (by omega)
  rw [hm, h1, hl1, hw] at H1
  have H2 : Hid (∀ u, Below w.heap.size w u → Calls Try.prog 10 #[.slice a m c, .int .i64 n] u fun r w' => ∃ ap cp, r = .returned (.tuple #[.slice ap l2 cp, .int .i64 0]) ∧ l2 ≤ cp ∧ RowP w' ap qs ∧ Below u.heap.size u w') := fun u hu => by
    have := HD es n a c u (hE.below hu) hok (by omega) (by omega)
    rwa [hm, h2, hl2, hw] at this
  have S1 : Hid (∀ u x1 x2 d1 d2, RowP u x1 ps → RowP u x2 ps → l1 ≤ d1 → l1 ≤ d2 → Calls Try.prog 14 #[.slice x1 l1 d1, .slice x2 l1 d2] u fun r w' => r = .returned (.bool true) ∧ Below u.heap.size u w') := fun u x1 x2 d1 d2 g1 g2 g3 g4 => by
    have := same_any ps ps x1 x2 d1 d2 u g1 g2 (by omega) (by omega) (by omega) (by omega)
    rwa [hl1, decide_eq_true rfl] at this
  have S2 : Hid (∀ u x1 x2 d1 d2, RowP u x1 qs → RowP u x2 qs → l2 ≤ d1 → l2 ≤ d2 → Calls Try.prog 14 #[.slice x1 l2 d1, .slice x2 l2 d2] u fun r w' => r = .returned (.bool true) ∧ Below u.heap.size u w') := fun u x1 x2 d1 d2 g1 g2 g3 g4 => by
    have := same_any qs qs x1 x2 d1 d2 u g1 g2 (by omega) (by omega) (by omega) (by omega)
    rwa [hl2, decide_eq_true rfl] at this
  have HR1 : Hid (RowP w a1 ps ∧ RowP w a2 qs) := ⟨r1, r2⟩
  clear HR HD hE hok hw h1 h2 r1 r2 hm hl1 hl2
  go_enter Try.func18, Try.ntmps18
  go_wp2_with (first | (go_at_call 8; refine H1.mono ?_; rintro _ w1 ⟨x1, d1, rfl, hd1, hr1, hb1⟩; refine Hid.out ?_))
  refine hidU ?_
  have R1 : Hid (RowP w1 x1 ps) := hr1
  have B1 : Hid (Below w.heap.size w w1) := hb1
  clear hr1 hb1 H1
  go_wp2_with (first | (go_at_call 10; refine (H2.out _ B1.out).mono ?_; rintro _ w2 ⟨x2, d2, rfl, hd2, hr2, hb2⟩; refine Hid.out ?_))
  refine hidU ?_
  have B2 : Hid (Below w.heap.size w w2) := HB.out _ _ B1.out hb2
  have R12 : Hid (RowP w2 x1 ps) := R1.out.below hb2
  have R2 : Hid (RowP w2 x2 qs) := hr2
  clear hr2 hb2 H2 R1 B1
  go_wp2_with (first | (go_at_call 14; refine (S1.out _ _ _ _ _ R12.out (HR1.out.1.below B2.out) hd1 hc1).mono ?_; rintro _ w3 ⟨rfl, hb3⟩; refine Hid.out ?_))
  refine hidU ?_
  have B3 : Hid (Below w.heap.size w w3) := HB.out _ _ B2.out hb3
  have R23 : Hid (RowP w3 x2 qs) := R2.out.below hb3
  clear hb3 S1 R12 R2 B2
  go_wp2_with (first | (go_at_call 14; refine (S2.out _ _ _ _ _ R23.out (HR1.out.2.below B3.out) hd2 hc2).mono ?_; rintro _ w4 ⟨rfl, hb4⟩))
  go_ret
  exact ⟨rfl, HB.out _ _ B3.out hb4⟩
theorem rowP_of {w : World} {g : Nat} {ps : List (Nat × Nat)} (h : At 45 w g (flatP ps)) : RowP w (some ⟨g, 0, none⟩) ps := by
  refine .inr ⟨g, 0, rfl, fun i p hp => ?_⟩
  obtain ⟨e1, e2⟩ := flatP_at ps i p hp
  rw [Nat.zero_add, h.cell, h.cell]
  exact ⟨e1, e2⟩
theorem at_new {t : TypeId} {cs : List Value} {k : Nat} (w : World) (hk : w.heap.size = k) : At t (w.alloc (.cells cs.toArray t)) k cs := by
  subst hk
  exact heap_new w _
theorem held_ok (t : Int) (w : World) : Calls Try.prog 19 #[.int .i64 t] w fun r w' => r = .returned (.slice (some ⟨w.heap.size, 0, none⟩) 3 3) ∧ OwnE w.heap.size w' (.slice (some ⟨w.heap.size, 0, none⟩) 3 3) (exH t) ∧ Below w.heap.size w w' := by
  go_enter Try.func19, Try.ntmps19
  go_wp2
  go_ret
  exact ⟨rfl, ⟨rfl, .inr ⟨w.heap.size, 3, _, rfl, Nat.le_refl _, heap_new w _, Nat.le_refl _, by unfold maxLen; omega, rfl, rfl⟩⟩, (Below.refl _ w).alloc (Nat.le_refl _) _⟩

set_option maxRecDepth 100000 in
set_option maxHeartbeats 3200000 in
theorem awake_of (HR : TellsP 8 raceZ) (HD : TellsP 10 dataZ) : AwakeOk := fun w => by
  obtain ⟨u, hu⟩ : ∃ u, u = ((w.alloc (.cells (flatE exA).toArray 24)).alloc (.cells (flatP [(0, 1)]).toArray 45)).alloc (.cells (flatP [(0, 1)]).toArray 45) := ⟨_, rfl⟩
  have k1 : Below w.heap.size w u := by rw [hu]; exact (((Below.refl _ w).alloc (Nat.le_refl _) _).alloc (by simp) _).alloc (by simp; omega) _
  have g1 : At 24 u w.heap.size (flatE exA) := by
    rw [hu]
    have : At 24 (w.alloc (.cells (flatE exA).toArray 24)) w.heap.size (flatE exA) := heap_new w _
    exact (this.below ((Below.refl _ _).alloc (Nat.le_refl _) _)).below ((Below.refl _ _).alloc (Nat.le_refl _) _)
  have g2 : At 45 u (w.heap.size + 1) (flatP [(0, 1)]) := by
    rw [hu]
    have : At 45 ((w.alloc (.cells (flatE exA).toArray 24)).alloc (.cells (flatP [(0, 1)]).toArray 45)) (w.heap.size + 1) (flatP [(0, 1)]) := at_new _ (by simp)
    exact this.below ((Below.refl _ _).alloc (Nat.le_refl _) _)
  have g3 : At 45 u (w.heap.size + 1 + 1) (flatP [(0, 1)]) := by
    rw [hu]
    exact at_new _ (by simp)
  have HC := pairs_ok HR HD exA 2 [(0, 1)] [(0, 1)] 2 1 1 (some ⟨w.heap.size, 0, none⟩) (some ⟨w.heap.size + 1, 0, none⟩) (some ⟨w.heap.size + 1 + 1, 0, none⟩) 2 1 1 u (rowEv_of g1) (exOk (by decide +kernel)) rfl rfl rfl (by decide) (by decide) exA_w exA_r exA_d (rowP_of g2) (rowP_of g3) (by decide) (by decide)
  have hu2 : u = ((w.alloc (.cells #[.int .i64 0, .int .i64 2, .int .i64 0, .int .i64 1, .int .i64 1, .int .i64 0] 24)).alloc (.cells #[.int .i64 0, .int .i64 1] 45)).alloc (.cells #[.int .i64 0, .int .i64 1] 45) := hu
  rw [hu2] at HC
  have hk : Below w.heap.size w _ := hu2 ▸ k1
  clear g1 g2 g3 k1 hu hu2 HR HD
  go_enter Try.func17, Try.ntmps17
  go_wp2_with (first | (go_at_call 18; refine HC.mono ?_; rintro _ w1 ⟨rfl, hb1⟩))
  go_ret
  exact ⟨rfl, hk.trans (hb1.mono hk.size)⟩
end Go.Proofs.Ytmkhobaclpiceaa
