/- Joined texts of the proof. -/
import Derived.Test.YtmkhobaclpiceaaJ31
import Derived.BigFrame
import Derived.Test.YtmkhobaclpiceaaJ30
import Derived.Test.YtmkhobaclpiceaaJ3
import Derived.Test.YtmkhobaclpiceaaRows
import Derived.WalkKit
import Derived.ProofKit
import Derived.OpenShut
import Derived.ShutString
import Derived.ChangeOld
import Derived.Below
import Derived.Deep.Slices
import Derived.ChangeSame

/- RaceKnown: the walk, given what race tells. -/
namespace Go.Proofs.Ytmkhobaclpiceaa
open Go.RowKit
set_option linter.unusedVariables false
attribute [local go_sem ↓] Go.wp_at_zero Go.wp_at_succ

theorem wpList_appEG {ops : Array Oper} {rest : List Oper} {o : Oper} {a : Act} {Q : Exit → Act → World → Prop} {w : World} (hw : Region.wanted o (yielded ops a.tmps) = true) (s x : Operand) (ho : o.op = .call { callee := .builtin .append, args := #[s, x], argTypes := #[22, 22] }) (base : Nat) (v : Value) (es fs : List Ev) (b : Option Addr) (m c : Nat)
    (hs : a.eval s = v) (hx : a.eval x = .slice b m c) (hown : OwnE base w v es) (hm : fs.length = m) (hnil : b = none → c = 0) (hc : m ≤ c) (hrow : RowEv w b fs) (hl : es.length + m ≤ 1048576) (hbase : base ≤ w.heap.size)
    (h : ∀ v' w', OwnE base w' v' (es ++ fs) → Below base w w' → wpList Try.prog ops Q rest (a.put o.dst v') w') : wpList Try.prog ops Q (o :: rest) a w :=
  BigFrame.wpList_want hw fun K hK => wp_appE s x ho base v es fs b m c hs hx hown hm hnil hc hrow hl hbase fun v' w' h1 h2 _ _ => hK _ _ (h v' w' h1 h2)
theorem known_a (HP : TellsI 12) (u : World) : Calls Try.prog 12 #[.slice (some ⟨u.heap.size, 0, none⟩) 1 1, .int .i64 2, .agg #[.int .i64 1, .int .i64 3, .int .i64 0]] (u.alloc (.cells #[.int .i64 0, .int .i64 3, .int .i64 0] 24)) fun r w' => ∃ ap cp, r = .returned (.tuple #[.slice ap 1 cp, .int .i64 0]) ∧ 1 ≤ cp ∧ RowI w' ap [0] ∧ Below u.heap.size u w' := by
  have g1 : At 24 (u.alloc (.cells #[.int .i64 0, .int .i64 3, .int .i64 0] 24)) u.heap.size (flatE [⟨0, 3, 0⟩]) := at_new u rfl
  have hb : Below u.heap.size u (u.alloc (.cells #[.int .i64 0, .int .i64 3, .int .i64 0] 24)) := (Below.refl _ u).alloc (Nat.le_refl _) _
  have := HP [⟨0, 3, 0⟩] 2 ⟨1, 3, 0⟩ (some ⟨u.heap.size, 0, none⟩) 1 _ (rowEv_of g1) (exOk (by decide +kernel)) (exOk (es := [⟨1, 3, 0⟩]) (by decide +kernel) _ (by simp)) (by decide) (by decide) (fun h => by cases h)
  rw [exP_p, exP_w] at this
  exact this.mono fun r w' ⟨ap, cp, d1, d2, d3, d4⟩ => ⟨ap, cp, d1, d2, d3, hb.trans (d4.mono hb.size)⟩
theorem known_b (HR : TellsP 8 raceZ) (HD : TellsP 10 dataZ) (u : World) (a : Option Addr) (c : Nat) (hr : RowEv u a (exH 0 ++ exH 1)) (hc : 6 ≤ c) : Calls Try.prog 18 #[.slice a 6 c, .int .i64 2, .slice (some ⟨u.heap.size, 0, none⟩) 1 1, .slice none 0 0] (u.alloc (.cells #[.int .i64 2, .int .i64 3] 45)) fun r w' => r = .returned (.bool true) ∧ Below u.heap.size u w' := by
  have g1 : At 45 (u.alloc (.cells #[.int .i64 2, .int .i64 3] 45)) u.heap.size (flatP [(2, 3)]) := at_new u rfl
  have hb : Below u.heap.size u (u.alloc (.cells #[.int .i64 2, .int .i64 3] 45)) := (Below.refl _ u).alloc (Nat.le_refl _) _
  exact (pairs_ok HR HD (exH 0 ++ exH 1) 2 [(2, 3)] [] 6 1 0 a (some ⟨u.heap.size, 0, none⟩) none c 1 0 _ (hr.below hb) (exOk (by decide +kernel)) rfl rfl rfl (by decide) hc exH_w exH_r exH_d (rowP_of g1) (.inl rfl) (by decide) (by decide)).mono fun r w' ⟨d1, d2⟩ => ⟨d1, hb.trans (d2.mono hb.size)⟩
theorem known_c (HR : TellsP 8 raceZ) (HD : TellsP 10 dataZ) (u : World) (g : Nat) (hr : RowEv u (some ⟨g, 0, none⟩) exT) : Calls Try.prog 18 #[.slice (some ⟨g, 0, none⟩) 3 3, .int .i64 3, .slice (some ⟨u.heap.size, 0, none⟩) 2 2, .slice (some ⟨u.heap.size + 1, 0, none⟩) 3 3] ((u.alloc (.cells #[.int .i64 0, .int .i64 1, .int .i64 1, .int .i64 2] 45)).alloc (.cells #[.int .i64 0, .int .i64 1, .int .i64 0, .int .i64 2, .int .i64 1, .int .i64 2] 45)) fun r w' => r = .returned (.bool true) ∧ Below u.heap.size u w' := by
  have g1 : At 45 (u.alloc (.cells #[.int .i64 0, .int .i64 1, .int .i64 1, .int .i64 2] 45)) u.heap.size (flatP [(0, 1), (1, 2)]) := at_new u rfl
  have g2 : At 45 ((u.alloc (.cells #[.int .i64 0, .int .i64 1, .int .i64 1, .int .i64 2] 45)).alloc (.cells #[.int .i64 0, .int .i64 1, .int .i64 0, .int .i64 2, .int .i64 1, .int .i64 2] 45)) (u.heap.size + 1) (flatP [(0, 1), (0, 2), (1, 2)]) := at_new _ (by simp)
  have hb : Below u.heap.size u ((u.alloc (.cells #[.int .i64 0, .int .i64 1, .int .i64 1, .int .i64 2] 45)).alloc (.cells #[.int .i64 0, .int .i64 1, .int .i64 0, .int .i64 2, .int .i64 1, .int .i64 2] 45)) := ((Below.refl _ u).alloc (Nat.le_refl _) _).alloc (by simp) _
  exact (pairs_ok HR HD exT 3 [(0, 1), (1, 2)] [(0, 1), (0, 2), (1, 2)] 3 2 3 (some ⟨g, 0, none⟩) (some ⟨u.heap.size, 0, none⟩) (some ⟨u.heap.size + 1, 0, none⟩) 3 2 3 _ (hr.below hb) (exOk (by decide +kernel)) rfl rfl rfl (by decide) (by decide) exT_w exT_r exT_d (rowP_of (g1.below ((Below.refl _ _).alloc (Nat.le_refl _) _))) (rowP_of g2) (by decide) (by decide)).mono fun r w' ⟨d1, d2⟩ => ⟨d1, hb.trans (d2.mono hb.size)⟩
theorem known_d (HR : TellsP 8 raceZ) (HD : TellsP 10 dataZ) (u : World) : Calls Try.prog 18 #[.slice (some ⟨u.heap.size, 0, none⟩) 2 2, .int .i64 2, .slice none 0 0, .slice none 0 0] (u.alloc (.cells #[.int .i64 0, .int .i64 1, .int .i64 0, .int .i64 1, .int .i64 1, .int .i64 0] 24)) fun r w' => r = .returned (.bool true) ∧ Below u.heap.size u w' := by
  have g1 : At 24 (u.alloc (.cells #[.int .i64 0, .int .i64 1, .int .i64 0, .int .i64 1, .int .i64 1, .int .i64 0] 24)) u.heap.size (flatE exR) := at_new u rfl
  have hb : Below u.heap.size u (u.alloc (.cells #[.int .i64 0, .int .i64 1, .int .i64 0, .int .i64 1, .int .i64 1, .int .i64 0] 24)) := (Below.refl _ u).alloc (Nat.le_refl _) _
  exact (pairs_ok HR HD exR 2 [] [] 2 0 0 (some ⟨u.heap.size, 0, none⟩) none none 2 0 0 _ (rowEv_of g1) (exOk (by decide +kernel)) rfl rfl rfl (by decide) (by decide) exR_w exR_r exR_d (.inl rfl) (.inl rfl) (by decide) (by decide)).mono fun r w' ⟨d1, d2⟩ => ⟨d1, hb.trans (d2.mono hb.size)⟩
theorem known_e (u : World) (a : Option Addr) (c : Nat) (hr : RowI u a [0]) (hc : 1 ≤ c) : Calls Try.prog 15 #[.slice a 1 c, .slice (some ⟨u.heap.size, 0, none⟩) 1 1] (u.alloc (.cells #[.int .i64 0] 3)) fun r w' => r = .returned (.bool true) ∧ Below u.heap.size u w' := by
  have g1 : BlkI (u.alloc (.cells #[.int .i64 0] 3)) u.heap.size ([0].map I64) := heap_new u _
  have hb : Below u.heap.size u (u.alloc (.cells #[.int .i64 0] 3)) := (Below.refl _ u).alloc (Nat.le_refl _) _
  exact (sameInts_any [0] [0] a (some ⟨u.heap.size, 0, none⟩) c 1 _ (hr.below hb) g1.row_all (by decide) (by decide) hc (by decide)).mono fun r w' ⟨d1, d2⟩ => ⟨by rw [d1]; rfl, hb.trans (d2.mono hb.size)⟩

set_option maxRecDepth 100000 in
set_option maxHeartbeats 6400000 in
theorem known_of (HR : TellsP 8 raceZ) (HD : TellsP 10 dataZ) (HP : TellsI 12) : KnownOk := fun w => by
  have HA := awake_of HR HD
  have K1 := known_a HP
  have K2 := known_b HR HD
  have K3 := known_c HR HD
  have K4 := known_d HR HD
  clear HR HD HP
  have HB : Hid (∀ u v, Below w.heap.size w u → Below u.heap.size u v → Below w.heap.size w v) := fun u v h1 h2 => h1.trans (h2.mono h1.size)
  have K1w : Calls Try.prog 12 #[.slice (some ⟨w.heap.size + 1, 0, none⟩) 1 1, .int .i64 2, .agg #[.int .i64 1, .int .i64 3, .int .i64 0]] ((w.alloc (.cells #[.int .i64 0, .int .i64 2, .int .i64 0, .int .i64 1, .int .i64 2, .int .i64 0, .int .i64 2, .int .i64 2, .int .i64 0] 24)).alloc (.cells #[.int .i64 0, .int .i64 3, .int .i64 0] 24)) fun r w' => ∃ ap cp, r = .returned (.tuple #[.slice ap 1 cp, .int .i64 0]) ∧ 1 ≤ cp ∧ RowI w' ap [0] ∧ Below w.heap.size w w' ∧ At 24 w' w.heap.size (flatE exT) := by
    have hs : (w.alloc (.cells #[.int .i64 0, .int .i64 2, .int .i64 0, .int .i64 1, .int .i64 2, .int .i64 0, .int .i64 2, .int .i64 2, .int .i64 0] 24)).heap.size = w.heap.size + 1 := by simp
    have hb : Below w.heap.size w (w.alloc (.cells #[.int .i64 0, .int .i64 2, .int .i64 0, .int .i64 1, .int .i64 2, .int .i64 0, .int .i64 2, .int .i64 2, .int .i64 0] 24)) := (Below.refl _ w).alloc (Nat.le_refl _) _
    have hA : At 24 (w.alloc (.cells #[.int .i64 0, .int .i64 2, .int .i64 0, .int .i64 1, .int .i64 2, .int .i64 0, .int .i64 2, .int .i64 2, .int .i64 0] 24)) w.heap.size (flatE exT) := at_new w rfl
    have := K1 (w.alloc (.cells #[.int .i64 0, .int .i64 2, .int .i64 0, .int .i64 1, .int .i64 2, .int .i64 0, .int .i64 2, .int .i64 2, .int .i64 0] 24))
    rw [← hs]
    exact this.mono fun r w' ⟨ap, cp, d1, d2, d3, d4⟩ => ⟨ap, cp, d1, d2, d3, hb.trans (d4.mono hb.size), hA.below d4⟩
  clear K1
  obtain ⟨g, hg⟩ : ∃ g, g = w.heap.size := ⟨_, rfl⟩
  go_enter Try.func4, Try.ntmps4
  go_wp2_with (first | (go_at_call 12; refine K1w.mono ?_; rintro _ w2 ⟨ap, cp, rfl, hcp, hr2, hb2, hA2⟩; refine Hid.out ?_))
  refine hidU ?_
  rw [← hg] at hA2 ⊢
  clear hg
  have B2 : Hid (Below w.heap.size w w2) := hb2
  have I2 : Hid (RowI w2 ap [0]) := hr2
  have T2 : Hid (At 24 w2 g (flatE exT)) := hA2
  clear hb2 hr2 hA2 K1w
  go_wp2_with (first | (go_at_call 17; refine (HA w2).mono ?_; rintro _ w3 ⟨rfl, hb3⟩; refine Hid.out ?_))
  refine hidU ?_
  have B3 : Hid (Below w.heap.size w w3) := HB.out _ _ B2.out hb3
  have I3 : Hid (RowI w3 ap [0]) := I2.out.below hb3
  have T3 : Hid (At 24 w3 g (flatE exT)) := T2.out.below hb3
  clear hb3 B2 I2 T2 HA
  go_wp2_with (first | (go_at_call 19; refine (held_ok 0 w3).mono ?_; rintro _ w4 ⟨rfl, hO4, hb4⟩; refine Hid.out ?_))
  refine hidU ?_
  obtain ⟨g4, hg4⟩ : ∃ g, Hid (g = w3.heap.size) := ⟨_, (rfl : _ = w3.heap.size)⟩
  rw [← hg4.out] at hO4 ⊢
  have O4 : Hid (OwnE g4 w4 (.slice (some ⟨g4, 0, none⟩) 3 3) (exH 0)) := hO4
  have B4 : Hid (Below w.heap.size w w4) := HB.out _ _ B3.out hb4
  have I4 : Hid (RowI w4 ap [0]) := I3.out.below hb4
  have T4 : Hid (At 24 w4 g (flatE exT)) := T3.out.below hb4
  have C4 : Hid (Below g4 w3 w4) := by show Below _ _ _; rw [hg4.out]; exact hb4
  have S4 : Hid (g4 ≤ w4.heap.size ∧ w.heap.size ≤ g4 ∧ g < g4) := ⟨by rw [hg4.out]; exact hb4.size, by rw [hg4.out]; exact B3.out.size, by rw [hg4.out]; exact T3.out.lt⟩
  clear hO4 hb4 B3 I4 T4
  go_wp2_with (first | (go_at_call 19; refine (held_ok 1 w4).mono ?_; rintro _ w5 ⟨rfl, hO5, hb5⟩; refine Hid.out ?_))
  refine hidU ?_
  obtain ⟨g5, hg5⟩ : ∃ g, g = w4.heap.size := ⟨_, rfl⟩
  rw [← hg5] at hO5 ⊢
  have E5 : Hid (RowEv w5 (some ⟨g5, 0, none⟩) (exH 1)) := by
    obtain ⟨x, y, d1, d2, d3⟩ := hO5.row
    cases d1
    exact d3
  have O5 : Hid (OwnE g4 w5 (.slice (some ⟨g4, 0, none⟩) 3 3) (exH 0)) := O4.out.below hb5
  have B5 : Hid (Below w.heap.size w w5) := HB.out _ _ B4.out hb5
  have S5 : g4 ≤ w5.heap.size := Nat.le_trans S4.out.1 hb5.size
  have C5 : Hid (Below g4 w3 w5) := C4.out.trans (hb5.mono S4.out.1)
  clear hO5 hb5 hg5 O4 B4 C4
  go_wp2_with (first | (at_builtin; refine wpList_appEG (by kernel_rfl) (.tmp 18) (.tmp 19) rfl g4 _ (exH 0) (exH 1) (some ⟨g5, 0, none⟩) 3 3 rfl rfl O5.out rfl (fun h => by cases h) (by decide) E5.out (by decide) S5 ?_; intro v6 w6 hO6 hb6; refine Hid.out ?_))
  refine hidU ?_
  have C6 : Below w3.heap.size w3 w6 := by rw [← hg4.out]; exact C5.out.trans hb6
  have I6 : Hid (RowI w6 ap [0]) := I3.out.below C6
  have T6 : Hid (At 24 w6 g (flatE exT)) := T3.out.below C6
  have B6 : Hid (Below w.heap.size w w6) := B5.out.trans (hb6.mono S4.out.2.1)
  obtain ⟨a6, c6, rfl, hc6, hr6⟩ := hO6.row
  have hl6 : (exH 0 ++ exH 1).length = 6 := rfl
  rw [hl6] at hc6 ⊢
  have K2w := K2 w6 a6 c6 hr6 hc6
  clear C6 hO6 hr6 hb6 C5 S4 S5 O5 B5 E5 hg4 I3 T3 K2
  go_wp2_with (first | (go_at_call 18; refine K2w.mono ?_; rintro _ w7 ⟨rfl, hb7⟩; refine Hid.out ?_))
  refine hidU ?_
  have B7 : Hid (Below w.heap.size w w7) := HB.out _ _ B6.out hb7
  have I7 : Hid (RowI w7 ap [0]) := I6.out.below hb7
  have T7 : Hid (At 24 w7 g (flatE exT)) := T6.out.below hb7
  have K3w := K3 w7 g (rowEv_of T7.out)
  clear hb7 B6 I6 T6 K2w K3
  go_wp2_with (first | (go_at_call 18; refine K3w.mono ?_; rintro _ w8 ⟨rfl, hb8⟩; refine Hid.out ?_))
  refine hidU ?_
  have B8 : Hid (Below w.heap.size w w8) := HB.out _ _ B7.out hb8
  have I8 : Hid (RowI w8 ap [0]) := I7.out.below hb8
  have K4w := K4 w8
  clear hb8 B7 I7 T7 K3w K4
  go_wp2_with (first | (go_at_call 18; refine K4w.mono ?_; rintro _ w9 ⟨rfl, hb9⟩; refine Hid.out ?_))
  refine hidU ?_
  have B9 : Hid (Below w.heap.size w w9) := HB.out _ _ B8.out hb9
  have K5w := known_e w9 ap cp (I8.out.below hb9) hcp
  clear hb9 B8 I8 K4w
  go_wp2_with (first | (go_at_call 15; refine K5w.mono ?_; rintro _ wa ⟨rfl, hba⟩))
  go_ret
  exact ⟨rfl, HB.out _ _ B9.out hba⟩
end Go.Proofs.Ytmkhobaclpiceaa

/- What the laws of race want, from what race tells. -/
namespace Go.Proofs.Ytmkhobaclpiceaa
open Go.RowKit
theorem known_all : KnownOk := known_of races_tellsP data_tellsP pending_tellsI
theorem awake_all : AwakeOk := awake_of races_tellsP data_tellsP
theorem racesOk_all : RacesOk := fun es n a c w hE hok hc hw => races_ok es n a c w hE hok hc hw
theorem racesBad_all : RacesBad := fun es n a c w hE _ hl hc hw => races_bad es n a c w hE hl hc hw
end Go.Proofs.Ytmkhobaclpiceaa

/- Events that came in: a row of events. -/
namespace Go.Proofs.Ytmkhobaclpiceaa
open Go.ChangeShapes Go.WideShapes Go.ChangeAt Go.RowKit
set_option linter.unusedVariables false

theorem i64_of {x : Int} (h : (Lit.int .i64 x).wf = true) : -9223372036854775808 ≤ x ∧ x ≤ 9223372036854775807 := by simpa [Lit.wf, IntKind.min, IntKind.max, IntKind.signed, IntKind.bits] using h
section
variable {H : Type} {enc : TypeId × Value → H} {w : World} {base : Nat} {sp : Nat → Bool} {held : Bool}
theorem open_ev {fuel : Nat} {cs : List Value} {x : DataW H × List MemPlace} (h : DataW.trod enc Try.prog w base sp held fuel 24 cs = some x) : ∃ e : Ev, cs = e.cells ∧ e.ok := by
  obtain ⟨xs, k, hk, hxy, hl, hxl, hf⟩ := DataW.trod_struct Try.underlying24 h
  have hl3 : cs.length = 3 := hl
  match cs, hl3 with
  | [v0, v1, v2], _ =>
    have g0 := hf 0 _ rfl
    have g1 := hf 1 _ rfl
    have g2 := hf 2 _ rfl
    match xs, hxl with
    | [y0, y1, y2], _ =>
      obtain ⟨a, e1, _, hw1⟩ := DataW.trod_int Try.underlying3 (show DataW.trod enc Try.prog w base sp held k 3 [v0] = some y0 from g0)
      obtain ⟨b, e2, _, hw2⟩ := DataW.trod_int Try.underlying3 (show DataW.trod enc Try.prog w base sp held k 3 [v1] = some y1 from g1)
      obtain ⟨c, e3, _, hw3⟩ := DataW.trod_int Try.underlying3 (show DataW.trod enc Try.prog w base sp held k 3 [v2] = some y2 from g2)
      have e1' : v0 = .int .i64 a := by simpa using e1
      have e2' : v1 = .int .i64 b := by simpa using e2
      have e3' : v2 = .int .i64 c := by simpa using e3
      subst e1' e2' e3'
      have b1 := i64_of hw1
      have b2 := i64_of hw2
      have b3 := i64_of hw3
      exact ⟨⟨a, b, c⟩, rfl, ⟨b1, b2, b3⟩⟩

theorem open_events {a : Option Addr} {len cap : Nat} {d : DataW H} {ps : List MemPlace} (hd : DataW.Trod enc Try.prog w 0 sp held 22 (.slice a len cap) d ps) :
    ∃ es : List Ev, es.length = len ∧ len ≤ cap ∧ cap ≤ maxLen ∧ (∀ x ∈ es, x.ok) ∧ RowEv w a es ∧ (a = none → cap = 0) := by
  obtain ⟨fuel, hf⟩ := hd
  rcases Go.Deep.open_slice Try.underlying22 hf with ⟨hcs, _⟩ | ⟨x, l, c, m, n, D, Pl, hcs, _, hl, hm, hmm, hx, hcell⟩
  · simp [Value.cells] at hcs
    obtain ⟨rfl, rfl, rfl⟩ := hcs
    exact ⟨[], rfl, Nat.le_refl _, Nat.zero_le _, by simp, .inl rfl, fun _ => rfl⟩
  · simp [Value.cells] at hcs
    obtain ⟨rfl, rfl, rfl⟩ := hcs
    have hlm : len ≤ m := by rw [hmm]; split <;> omega
    have each : ∀ r, r < len → ∃ e : Ev, w.cells? 0 (x.add (r * 3)) 3 = some e.cells ∧ e.ok := by
      intro r hr
      obtain ⟨cs, h1, h2⟩ := hcell r (by omega)
      have h1 : w.cells? 0 (x.add (r * 3)) 3 = some cs := h1
      obtain ⟨e, he, ho⟩ := open_ev h2
      exact ⟨e, by rw [h1, he], ho⟩
    haveI : Inhabited Ev := ⟨⟨0, 0, 0⟩⟩
    obtain ⟨q, hq⟩ := Go.Deep.choose_lt each
    refine ⟨(List.range len).map q, by simp, hl, hm, fun y hy => ?_, ?_, fun h => by cases h⟩
    · obtain ⟨i, hi, rfl⟩ := List.mem_map.1 hy
      exact (hq i (by simpa using hi)).2
    · by_cases h0 : len = 0
      · left; subst h0; rfl
      · right
        obtain ⟨g, o, spot⟩ := x
        have hsp : spot = none := by
          obtain ⟨_, _, hcc⟩ := World.cells?_some (hq 0 (by omega)).1
          have := hcc 0 (by decide)
          rw [Nat.zero_mul] at this
          have h2 : w.cell? ⟨g, o, spot⟩ = some (.int .i64 (q 0).th) := by simpa [Addr.add, Ev.cells] using this
          exact World.cell?_spot h2
        subst hsp
        refine ⟨g, o, rfl, fun i e he j v hj => ?_⟩
        have hi : i < len := by have := (List.getElem?_eq_some_iff.1 he).1; simpa using this
        have he2 : q i = e := by simpa [hi] using he
        subst he2
        obtain ⟨_, _, hcc⟩ := World.cells?_some (hq i hi).1
        have hj3 : j < 3 := (List.getElem?_eq_some_iff.1 hj).1
        have := hcc j hj3
        rw [add_none, add_none] at this
        rw [this]
        exact hj
theorem open_nums {a : Option Addr} {len cap : Nat} {d : DataW H} {ps : List MemPlace} (hd : DataW.Trod enc Try.prog w 0 sp held 32 (.slice a len cap) d ps) :
    ∃ zs : List Int, zs.length = len ∧ len ≤ cap ∧ cap ≤ maxLen ∧ (∀ z ∈ zs, -9223372036854775808 ≤ z ∧ z < 9223372036854775808) ∧ RowI w a zs := by
  obtain ⟨fuel, hf⟩ := hd
  rcases Go.Deep.open_slice Try.underlying32 hf with ⟨hcs, _⟩ | ⟨x, l, c, m, n, D, Pl, hcs, _, hl, hm, hmm, hx, hcell⟩
  · simp [Value.cells] at hcs
    obtain ⟨rfl, rfl, rfl⟩ := hcs
    exact ⟨[], rfl, Nat.le_refl _, Nat.zero_le _, by simp, .inl rfl⟩
  · simp [Value.cells] at hcs
    obtain ⟨rfl, rfl, rfl⟩ := hcs
    have hlm : len ≤ m := by rw [hmm]; split <;> omega
    have each : ∀ r, r < len → ∃ z : Int, w.cells? 0 (x.add (r * 1)) 1 = some [.int .i64 z] ∧ -9223372036854775808 ≤ z ∧ z < 9223372036854775808 := by
      intro r hr
      obtain ⟨cs, h1, h2⟩ := hcell r (by omega)
      have h1 : w.cells? 0 (x.add (r * 1)) 1 = some cs := h1
      obtain ⟨z, e1, _, hw⟩ := DataW.trod_int Try.underlying3 h2
      have b := i64_of hw
      exact ⟨z, by rw [h1, e1], by omega, by omega⟩
    obtain ⟨q, hq⟩ := Go.Deep.choose_lt each
    refine ⟨(List.range len).map q, by simp, hl, hm, fun y hy => ?_, ?_⟩
    · obtain ⟨i, hi, rfl⟩ := List.mem_map.1 hy
      exact (hq i (by simpa using hi)).2
    · by_cases h0 : len = 0
      · left; subst h0; rfl
      · right
        obtain ⟨g, o, spot⟩ := x
        have hsp : spot = none := by
          obtain ⟨_, _, hcc⟩ := World.cells?_some (hq 0 (by omega)).1
          have := hcc 0 (by decide)
          rw [Nat.zero_mul] at this
          have h2 : w.cell? ⟨g, o, spot⟩ = some (.int .i64 (q 0)) := by simpa [Addr.add] using this
          exact World.cell?_spot h2
        subst hsp
        refine ⟨g, o, rfl, fun i z hz => ?_⟩
        have hi : i < len := by have := (List.getElem?_eq_some_iff.1 hz).1; simpa using this
        have he2 : q i = z := by simpa [hi] using hz
        subst he2
        obtain ⟨_, _, hcc⟩ := World.cells?_some (hq i hi).1
        have := hcc 0 (by decide)
        rw [add_none, add_none] at this
        rw [Nat.mul_one, Nat.add_zero] at this
        rw [this]
        rfl
end
end Go.Proofs.Ytmkhobaclpiceaa
