/- octet.Fields: fields as one text. -/
import Derived.Laws.AppendOwnNone
import Derived.Test.YtjjojlfhliecnabFieldsMath
namespace Go.Proofs.Ytjjojlfhliecnab
open Go.RowKit
set_option linter.unusedVariables false

/-- 'out = append(out, src...)'. -/
theorem appRow {ops : Array Oper} {rest : List Oper} {o : Oper} {a : Act} {Q : Exit → Act → World → Prop} {w : World} (s x : Operand) (base : Nat) (v : Value) (out : List UInt8) (src : Option Addr) (n c : Nat) (bs : List UInt8)
    (hgd : o.guard = none) (ho : o.op = .call { callee := .builtin .append, args := #[s, x], argTypes := #[22, 22] })
    (hs : a.eval s = v) (hx : a.eval x = .slice src n c) (hown : Own base w v out) (hrow : Row w src bs) (hn : bs.length = n) (hnil : src = none → c = 0) (hlen : out.length + n ≤ 1099511627776) (hbase : base ≤ w.heap.size)
    (h : ∀ v' w', Own base w' v' (out ++ bs) → Below base w w' → wpList Try.prog ops Q rest (a.put o.dst v') w') :
    wpList Try.prog ops Q (o :: rest) a w := by
  obtain ⟨i0, hi, hz0, hz1, hz2⟩ := info_parts Try.info5
  subst hn
  cases src with
  | none =>
    have hb : bs = [] := by
      rcases hrow with h | ⟨b, off, e, _⟩
      · exact h
      · cases e
    subst hb
    have hc := hnil rfl
    subst hc
    refine wpList_append_own_none (w := w) hgd s x 22 ho base 5 i0 1 Try.underlying22 hi v out.length (out.map B8) hs hown hx ?_
    exact h v w (by simpa using hown) (Below.refl _ _)
  | some ad =>
    refine wpList_append_own (w := w) hgd s x 22 ho base 5 i0 (.int .u8 0) 1 1 Try.underlying22 hi hz0 hz1 hz2 rfl (by decide) v out.length (out.map B8) hs hown
      ad bs.length c (bs.map B8) hx (by simp) ?c1 ?c2 ?c3 ?c4 ?c5 ?_
    case c1 =>
      intro j u hj
      have hjl : j < bs.length := by
        rcases Nat.lt_or_ge j bs.length with h | h
        · exact h
        · rw [List.getElem?_eq_none (by simpa using h)] at hj; cases hj
      rcases hrow with h | ⟨b, off, e, hcl⟩
      · subst h; simp at hjl
      · cases e
        have e2 : (⟨b, off, none⟩ : Addr).add j = ⟨b, off + j, none⟩ := by unfold Addr.add; split <;> simp_all
        rw [e2, hcl j hjl]
        simp [List.getElem?_eq_getElem hjl] at hj
        rw [← hj]
        simp [B8, List.getD, List.getElem?_eq_getElem hjl]
    case c2 => intro u hu; simp at hu; obtain ⟨b, _, rfl⟩ := hu; rfl
    case c3 => unfold maxLen; omega
    case c4 => omega
    case c5 => exact hbase
    intro v' w' h1 h2 _
    refine h v' w' ?_ ?_
    · unfold Own
      rw [List.map_append, List.length_append]
      exact h1
    · exact (Below.refl base w).grown h2 hbase hown.block

/-- What a slice of slices of bytes that is read is known by. -/
def RowL (w : World) (a : Option Addr) (fs : List (List UInt8)) : Prop :=
  fs = [] ∨ ∃ b off, a = some ⟨b, off, none⟩ ∧ ∀ j, j < fs.length → ∃ fa fc, w.cell? ⟨b, off + j, none⟩ = some (.slice fa (fs.getD j []).length fc) ∧ Row w fa (fs.getD j []) ∧ (fs.getD j []).length ≤ fc ∧ (fa = none → fc = 0)

theorem RowL.below {w w' : World} {a : Option Addr} {fs : List (List UInt8)} (h : RowL w a fs) (hb : Below w.heap.size w w') : RowL w' a fs := by
  rcases h with h | ⟨b, off, rfl, hc⟩
  · exact .inl h
  · refine .inr ⟨b, off, rfl, fun j hj => ?_⟩
    obtain ⟨fa, fc, h1, h2, h3⟩ := hc j hj
    exact ⟨fa, fc, by rw [hb.cell (lt_of_cell h1)]; exact h1, h2.below hb, h3⟩

/-- Do they fit? -/
def FitsF (fs : List (List UInt8)) : Prop := fs.length ≤ 4096 ∧ (fieldsText fs).length ≤ 1048576

theorem enc_part (fs : List (List UInt8)) (k : Nat) (h : k < fs.length) : (enc (fs.take k)).length + (short 9 (fs.getD k []).length).length + (fs.getD k []).length ≤ (enc fs).length := by
  have := enc_take_le fs (k + 1)
  rw [enc_take_succ fs k h] at this
  simpa [Nat.add_assoc] using this

theorem own_ne {base : Nat} {w : World} {v : Value} {bs : List UInt8} (h : Own base w v bs) (hp : 1 ≤ bs.length) : ∃ g cap, v = .slice (some ⟨g, 0, none⟩) bs.length cap ∧ bs.length ≤ cap ∧ Row w (some ⟨g, 0, none⟩) bs := by
  obtain ⟨a, cap, rfl, h1, h2, hrow⟩ := h.row
  obtain ⟨_, ⟨h3, h4⟩ | ⟨g, cap', cur, h3, _⟩⟩ := h
  · omega
  · cases h3
    exact ⟨g, cap, rfl, h1, hrow⟩

theorem short_pos (f n : Nat) : 1 ≤ (short f n).length := by
  cases f with
  | zero => simp [short]
  | succ f => unfold short; split <;> simp

set_option maxRecDepth 100000 in
set_option maxHeartbeats 3200000 in
theorem fields_full (b off cap : Nat) (fs : List (List UInt8)) (w : World) (hrow : RowL w (some ⟨b, off, none⟩) fs) (hne : fs ≠ []) (hlen : fs.length ≤ 4096) (hfl : ∀ j, j < fs.length → (fs.getD j []).length ≤ 549755813888) :
    Calls Try.prog 10 #[.slice (some ⟨b, off, none⟩) fs.length cap] w fun e w' => (∃ v, FitsF fs ∧ e = .returned (.tuple #[v, .int .i64 0]) ∧ Own w.heap.size w' v (fieldsText fs) ∧ Below w.heap.size w w') ∨ (¬ FitsF fs ∧ e = .returned (.tuple #[.slice none 0 0, .int .i64 3]) ∧ Below w.heap.size w w') := by
  have HROW : Hid (RowL w (some ⟨b, off, none⟩) fs) := hrow
  have HFL : Hid (∀ j, j < fs.length → (fs.getD j []).length ≤ 549755813888) := hfl
  clear hrow hfl
  go_enter Try.func10, Try.ntmps10
  go_wp2_with fail
  refine (short_any fs.length (by omega) _).mono ?_
  rintro e w1 ⟨v0, rfl, hown0, hb0⟩
  have hs10 := short_length 9 fs.length
  go_wp2
  go_loopw [4, 16] (fun v i wr => ∃ (k : Nat) (T : List UInt8), k ≤ fs.length ∧ i = .int .i64 k ∧ T.length ≤ 1048576 ∧ Hid (T = short 9 fs.length ++ enc (fs.take k)) ∧ Own w.heap.size wr v T ∧ Below w.heap.size w wr) (fun _ i _ => fs.length - (intOf i).toNat)
  case atStart => exact ⟨0, _, Nat.zero_le _, rfl, by omega, (by show _ = _; simp [enc]), hown0, hb0⟩
  case round =>
    obtain ⟨k, T, hk, rfl, hTl, hT, hown, hbel⟩ := hrel
    clear hown0 hb0
    have hsz := hbel.size
    by_cases hlt : k < fs.length
    · obtain ⟨f, hf⟩ : ∃ f, f = fs.getD k [] := ⟨_, rfl⟩
      obtain ⟨fa, fc, hcell0, hfrow, hfc, hfnil⟩ : ∃ fa fc, w.cell? ⟨b, off + k, none⟩ = some (.slice fa f.length fc) ∧ Row w fa f ∧ f.length ≤ fc ∧ (fa = none → fc = 0) := by
        rcases HROW.out with h | ⟨b', off', e, hc⟩
        · exact absurd h hne
        · cases e
          obtain ⟨fa, fc, h1, h2, h3, h4⟩ := hc k hlt
          rw [← hf] at h1 h2 h3
          exact ⟨fa, fc, h1, h2, h3, h4⟩
      have hcell : wr.cell? ⟨b, off + k, none⟩ = some (.slice fa f.length fc) := by rw [hbel.cell (lt_of_cell hcell0)]; exact hcell0
      clear hcell0
      have hfl : f.length ≤ 549755813888 := by rw [hf]; exact HFL.out k hlt
      have HF : Hid (f = fs.getD k []) := hf
      have HPART : Hid (T.length + (short 9 f.length).length + f.length ≤ (fieldsText fs).length) := by
        show _ ≤ _
        rw [hT.out, hf, fieldsText, List.length_append, List.length_append]
        have := enc_part fs k hlt
        omega
      have HT2 : Hid (T ++ short 9 f.length ++ f = short 9 fs.length ++ enc (fs.take (k + 1))) := by
        show _ = _
        rw [hT.out, enc_take_succ fs k hlt, hf]
        simp
      have hs10' := short_length 9 f.length
      clear hf hT
      go_wp2_with fail
      refine (short_any f.length (by omega) _).mono ?_
      rintro e w2 ⟨v1, rfl, hown1, hb1⟩
      obtain ⟨g1, c1, rfl, hc1, hrow1⟩ := own_ne hown1 (short_pos _ _)
      have hown2 := hown.below hb1
      have hW2 : Below w.heap.size w w2 := hbel.trans (hb1.mono hsz)
      have hsz2 := hW2.size
      clear hown hbel hb1 hown1 hcell
      go_wp2_with (at_builtin; refine appRow (.tmp 20) (.tmp 24) w.heap.size _ T _ _ _ (short 9 f.length) rfl rfl rfl rfl hown2 hrow1 rfl (by intro h; cases h) (by omega) hsz2 ?_)
      intro v3 w3 hown3 hb3
      have hW3 := hW2.trans hb3
      have hsz3 := hW3.size
      clear hown2 hrow1 hb3 hW2
      obtain ⟨U, hU⟩ : ∃ U, U = T ++ short 9 f.length := ⟨_, rfl⟩
      rw [← hU] at hown3
      have HU : Hid (U ++ f = short 9 fs.length ++ enc (fs.take (k + 1))) := by show _ = _; rw [hU]; exact HT2.out
      have hUl : T.length + (short 9 f.length).length = U.length := by rw [hU]; simp
      have HPART2 : Hid (U.length + f.length ≤ (fieldsText fs).length) := by show _ ≤ _; have := HPART.out; omega
      have hUl2 : U.length ≤ 1048600 := by omega
      clear hU hUl HPART HT2
      obtain ⟨aU, cU, hv3, hle3, _, _⟩ := hown3.row
      rw [hv3] at hown3 ⊢
      clear hv3 v3
      by_cases hfit : U.length + f.length ≤ 1048576
      · go_wp2_with (at_builtin; refine appRow (.tmp 32) (.tmp 33) w.heap.size _ U _ _ _ f rfl rfl rfl rfl hown3 (hfrow.below hW3) rfl hfnil (by omega) hsz3 ?_)
        intro v4 w4 hown4 hb4
        have hW4 := hW3.trans hb4
        clear hown3 hb4 hW3
        go_wp2
        go_roundw
        case rel => exact ⟨k + 1, U ++ f, by omega, by go_num, by simp; omega, HU, hown4, hW4⟩
        case measure => simp [intOf]; omega
      · have HNF : Hid (¬ FitsF fs) := fun h => by have := h.2; have := HPART2.out; omega
        go_wp2
        go_ret2
        exact .inr ⟨HNF.out, rfl, hW3⟩
    · have HT : Hid (T = fieldsText fs) := by show _ = _; rw [hT.out, List.take_of_length_le (by omega), fieldsText]
      have HFT : Hid (FitsF fs) := ⟨hlen, by rw [← HT.out]; exact hTl⟩
      clear hT
      go_wp2
      go_ret2
      exact .inl ⟨_, HFT.out, rfl, by rw [← HT.out]; exact hown, hbel⟩

set_option maxRecDepth 100000 in
set_option maxHeartbeats 800000 in
theorem fields_none (a : Option Addr) (cap : Nat) (w : World) :
    Calls Try.prog 10 #[.slice a 0 cap] w fun e w' => (∃ v, FitsF [] ∧ e = .returned (.tuple #[v, .int .i64 0]) ∧ Own w.heap.size w' v (fieldsText []) ∧ Below w.heap.size w w') ∨ (¬ FitsF [] ∧ e = .returned (.tuple #[.slice none 0 0, .int .i64 3]) ∧ Below w.heap.size w w') := by
  go_enter Try.func10, Try.ntmps10
  go_wp2_with fail
  refine (show Calls Try.prog 15 #[.int .u64 0] _ _ from short_any 0 (by omega) _).mono ?_
  rintro e w1 ⟨v0, rfl, hown0, hb0⟩
  go_wp2
  refine wp_loop_rounds 1 ?_
  rw [rounds_succ]
  go_wp2
  go_ret2
  exact .inl ⟨_, ⟨by decide, by decide⟩, rfl, hown0, hb0⟩

set_option maxRecDepth 100000 in
set_option maxHeartbeats 800000 in
theorem fields_many (a : Option Addr) (n cap : Nat) (w : World) (h : 4096 < n) (hn : n ≤ 1099511627776) :
    Calls Try.prog 10 #[.slice a n cap] w fun e w' => e = .returned (.tuple #[.slice none 0 0, .int .i64 3]) ∧ w' = w := by
  go_enter Try.func10, Try.ntmps10
  go_wp2
  go_ret2
  exact ⟨rfl, rfl⟩

theorem fields_any (a : Option Addr) (cap : Nat) (fs : List (List UInt8)) (w : World) (hrow : RowL w a fs) (hmax : fs.length ≤ 1099511627776) (hfl : ∀ j, j < fs.length → (fs.getD j []).length ≤ 549755813888) :
    Calls Try.prog 10 #[.slice a fs.length cap] w fun e w' => (∃ v, FitsF fs ∧ e = .returned (.tuple #[v, .int .i64 0]) ∧ Own w.heap.size w' v (fieldsText fs) ∧ Below w.heap.size w w') ∨ (¬ FitsF fs ∧ e = .returned (.tuple #[.slice none 0 0, .int .i64 3]) ∧ Below w.heap.size w w') := by
  by_cases hlen : fs.length ≤ 4096
  · have hrow' := hrow
    rcases hrow with rfl | ⟨b, off, rfl, _⟩
    · exact fields_none a cap w
    · by_cases hne : fs = []
      · subst hne
        exact fields_none _ cap w
      · exact fields_full b off cap fs w hrow' hne hlen hfl
  · refine (fields_many a fs.length cap w (by omega) hmax).mono ?_
    rintro e w' ⟨rfl, rfl⟩
    exact .inr ⟨fun h => hlen h.1, rfl, Below.refl _ _⟩

end Go.Proofs.Ytjjojlfhliecnab
