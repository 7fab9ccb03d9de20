/- The law of Lex beside the document's: walked. -/
import Derived.Test.YtinofdmdfhklpaaDoorRefLex
import Derived.Test.YtinofdmdfhklpaaDoorSame8
namespace Go.Proofs.YtinofdmdfhklpaaDoor
open Go.RowKit
set_option linter.unusedVariables false

theorem lexA_len (l : List UInt8) (f p : Nat) : (lexA l f p).toks.length ≤ l.length - p := by
  induction f generalizing p with
  | zero => simp [lexA]
  | succ f ih =>
    simp only [lexA]
    split
    · simp
    · next h =>
      split
      · simp
      · split
        · simp
        · have h1 := ih (p + (endOf (l.drop p)).2 + skN (l.drop (p + (endOf (l.drop p)).2)))
          have h2 := (endOf_bounds (l.drop p) (by rw [List.length_drop]; omega)).1
          simp only [Out.ahead]
          split
          · simp; omega
          · omega

theorem lexS_len (l : List UInt8) : (lexS l).toks.length ≤ 16384 := by
  unfold lexS
  split
  · simp
  · have := lexA_len l (l.length + 1) (skN l); omega

theorem Toks.at {base : Nat} {w : World} {v : Value} {ts : List Tk} (h : Toks base w v ts) :
    (v = .slice none 0 0 ∧ ts = []) ∨ ∃ g cap cur, v = .slice (some ⟨g, 0, none⟩) ts.length cap ∧ base ≤ g ∧ g < w.heap.size ∧ At 34 w g cur ∧ ts.length * 5 ≤ cur.length := by
  obtain ⟨h1, ⟨rfl, h2⟩ | ⟨g, cap, cur, rfl, hg, hh, hc, hm, hs, ht⟩⟩ := h
  · exact .inl ⟨rfl, List.length_eq_zero_iff.1 h2⟩
  · have hA : At 34 w g cur.toList := by simpa [At] using hh
    exact .inr ⟨g, cap, cur.toList, rfl, hg, hA.lt, hA, by show ts.length * 5 ≤ cur.toList.length; rw [show cur.toList.length = cap * 5 by rw [Array.length_toList]; exact hs]; omega⟩

theorem word_while (w : World) : Calls Tryd.prog 9 #[.string { data := #[119, 104, 105, 108, 101] }] w fun e w' => e = .returned (.bool true) ∧ w' = w := word_yes [119, 104, 105, 108, 101] (by decide) w

set_option maxRecDepth 100000 in
set_option maxHeartbeats 1600000 in
theorem tells_walk (s : ByteArray) (w : World) (hmax : s.size ≤ 9223372036854775807) (hE : ErrR w) :
    Calls Tryd.prog 3 #[.string s] w fun e w' => e = .returned (.bool true) ∧ Below w.heap.size w w' := by
  have hlen := lexS_len (bytes s)
  have hL := fun w hE => lex_any s w hmax hE
  have hR := fun w => refLex_any s w hmax
  unfold LexPost at hL hR
  obtain ⟨ts, E, p, hO⟩ : ∃ ts E p, lexS (bytes s) = ⟨ts, E, p⟩ := ⟨_, _, _, rfl⟩
  rw [hO] at hlen hL hR
  simp only [] at hlen hL hR
  have HL : Hid (∀ w, ErrR w → Calls Tryd.prog 6 #[.string s] w fun e w' => ∃ v, e = .returned (.tuple #[v, .agg (fa2 E p).toArray]) ∧ Toks w.heap.size w' v ts ∧ Below w.heap.size w w') := hL
  have HR : Hid (∀ w, Calls Tryd.prog 7 #[.string s] w fun e w' => ∃ v, e = .returned (.tuple #[v, .agg (fa2 E p).toArray]) ∧ Toks w.heap.size w' v ts ∧ Below w.heap.size w w') := hR
  have hq : ∀ u, (Op.equalIn 10000 25 (.agg (fa2 E p).toArray) (.agg (fa2 E p).toArray)).run Tryd.prog u = .ok true u := fun u => by rw [run_eq25]; simp
  have hpos : 2 < w.heap.size := by obtain ⟨ev, h1, _⟩ := hE; exact lt_of_cell h1
  clear hL hR hO
  go_enter Tryd.func3, Tryd.ntmps3
  go_wp2_with fail
  refine (HL.out _ hE).mono ?_
  rintro e w1 ⟨v1, rfl, hT1, hb1⟩
  go_wp2_with (first | ((with_reducible show wpList _ _ _ _ _ _); refine wpList_alloc_at rfl 25 rfl (fa2 0 0) 2 z25 ?_; intro w1b hA1b hb1b hs1b) | ((with_reducible show wpList _ _ _ _ _ _); refine wpList_store_at (P := Tryd.prog) rfl 25 (.tmp 4) (.tmp 14) rfl w1.heap.size (fa2 E p) rfl rfl 25 (fa2 0 0) hA1b i25 rfl (one2f _ _) ?_; intro w1c hA1c hb1c hs1c; refine Hid.out ?_))
  refine Lib.hid ?_
  have hB1 : Below w1.heap.size w1 w1c := hb1c.below hb1b (Nat.le_refl _) (by omega)
  have hT1c := hT1.below hB1
  have hbw1 : Below w.heap.size w w1c := hb1.trans (hB1.mono hb1.size)
  clear hA1b hb1b hb1c
  go_wp2_with fail
  refine (HR.out _).mono ?_
  rintro e w2 ⟨v2, rfl, hT2, hb2⟩
  go_wp2_with (first | ((with_reducible show wpList _ _ _ _ _ _); refine wpList_alloc_at rfl 25 rfl (fa2 0 0) 2 z25 ?_; intro w2b hA2b hb2b hs2b) | ((with_reducible show wpList _ _ _ _ _ _); refine wpList_store_at (P := Tryd.prog) rfl 25 (.tmp 6) (.tmp 19) rfl w2.heap.size (fa2 E p) rfl rfl 25 (fa2 0 0) hA2b i25 rfl (one2f _ _) ?_; intro w2c hA2c hb2c hs2c; refine Hid.out ?_))
  refine Lib.hid ?_
  have hB2 : Below w2.heap.size w2 w2c := hb2c.below hb2b (Nat.le_refl _) (by omega)
  have hT2c := hT2.below hB2
  have hb2d : Below w1c.heap.size w1c w2c := hb2.trans (hB2.mono hb2.size)
  have hT1d := hT1c.below hb2d
  have hAf := hA1c.below hb2d
  have hbw2 : Below w.heap.size w w2c := hbw1.trans (hb2d.mono hbw1.size)
  have hsz1 : w.heap.size ≤ w1.heap.size := hb1.size
  have hsz2 : w1.heap.size < w1c.heap.size := by omega
  have hg1lt : ∀ g, v1.ownBlock = some g → g < w1.heap.size := hT1.blockLt
  clear hA2b hb2b hb2c hB2 hb2d hT1 hT1c hA1c hB1 hb1 hT2 hb2
  go_wp2_with fail
  refine (same_toks hT1d hT2c (by omega)).mono ?_
  rintro e w3 ⟨rfl, q3, hw3⟩
  have hT1e : Toks w.heap.size w3 v1 ts := by rw [hw3]; exact hT1d
  have hT2e : Toks w1c.heap.size w3 v2 ts := by rw [hw3]; exact hT2c
  have hAfe : At 25 w3 w1.heap.size (fa2 E p) := by rw [hw3]; exact hAf
  have hAge : At 25 w3 w2.heap.size (fa2 E p) := by rw [hw3]; exact hA2c
  have hbw3 : Below w.heap.size w w3 := by rw [hw3]; exact ⟨hbw2.os, hbw2.tape, hbw2.output, hbw2.size, hbw2.block⟩
  clear hw3 hT1d hT2c hAf hA2c hbw2 hbw1
  have c10 : w3.cell? ⟨w1.heap.size, 0, none⟩ = some (.int .i64 (E : Int)) := by rw [hAfe.cell]; rfl
  have c11 : w3.cell? ⟨w1.heap.size, 1, none⟩ = some (.int .i64 (p : Int)) := by rw [hAfe.cell]; rfl
  have c20 : w3.cell? ⟨w2.heap.size, 0, none⟩ = some (.int .i64 (E : Int)) := by rw [hAge.cell]; rfl
  have c21 : w3.cell? ⟨w2.heap.size, 1, none⟩ = some (.int .i64 (p : Int)) := by rw [hAge.cell]; rfl
  have hfin : ∀ (wr : World), Below w.heap.size w wr → Toks w1c.heap.size wr v2 ts → Hid (ErrR wr ∧ Below w.heap.size w wr ∧ Toks w1c.heap.size wr v2 ts) := fun wr h1 h2 => ⟨hE.below h1, h1, h2⟩
  rcases hT1e.at with ⟨rfl, rfl⟩ | ⟨g, cap, cur, rfl, hg1, hg2, hAcur, hlc⟩
  · have HF := hfin w3 hbw3 hT2e
    clear hfin hT1e hT2e
    go_wp2
    go_loopw [7] (fun j wr => j = .int .i64 0 ∧ wr = w3) (fun _ _ => 0)
    case atStart => exact ⟨rfl, rfl⟩
    case round =>
      obtain ⟨rfl, rfl⟩ := hrel
      go_wp2_with fail
      obtain ⟨hEr, hbwr, hT2r⟩ := HF.out
      clear HF
      refine (HL.out _ hEr).mono ?_
      rintro e w6 ⟨v3, rfl, hT6, hb6⟩
      go_wp2_with (first | ((with_reducible show wpList _ _ _ _ _ _); refine wpList_alloc_at rfl 25 rfl (fa2 0 0) 2 z25 ?_; intro w6b hA6b hb6b hs6b) | ((with_reducible show wpList _ _ _ _ _ _); refine wpList_store_at (P := Tryd.prog) rfl 25 (.tmp 9) (.tmp 43) rfl w6.heap.size (fa2 E p) rfl rfl 25 (fa2 0 0) hA6b i25 rfl (one2f _ _) ?_; intro w6c hA6c hb6c hs6c; refine Hid.out ?_))
      refine Lib.hid ?_
      have hB6 : Below w6.heap.size w6 w6c := hb6c.below hb6b (Nat.le_refl _) (by omega)
      have hT6c := hT6.below hB6
      have hb7 : Below wr.heap.size wr w6c := hb6.trans (hB6.mono hb6.size)
      have hT2s := hT2r.below hb7
      have hbw7 := hbwr.trans (hb7.mono hbwr.size)
      clear hA6b hb6b hb6c hB6 hb7 hT6 hb6 hT2r
      go_wp2_with fail
      refine (same_toks hT6c hT2s (by simp)).mono ?_
      rintro e w8 ⟨rfl, q8, hw8⟩
      have hbw8 : Below w.heap.size w w8 := by rw [hw8]; exact ⟨hbw7.os, hbw7.tape, hbw7.output, hbw7.size, hbw7.block⟩
      clear hw8 hT6c hT2s hbw7
      go_wp2_with fail
      refine (word_while _).mono ?_
      rintro e w9 ⟨rfl, hw9⟩
      rw [hw9]
      clear hw9
      go_wp2
      go_ret
      exact ⟨rfl, hbw8⟩
  · obtain ⟨n, hn⟩ : ∃ n, Hid (n = ts.length) := ⟨_, (rfl : ts.length = _)⟩
    rw [← hn.out] at hlc hlen ⊢
    have hgl : g < w1.heap.size := hg1lt g rfl
    have hTL : ∀ k, v2.ownBlock = some k → w1c.heap.size ≤ k := hT2e.block
    have hbutF : ∀ wr, But g w3 wr → Hid (ErrR wr ∧ Below w.heap.size w wr ∧ Toks w1c.heap.size wr v2 ts) := fun wr hb => hfin wr (hb.below hbw3 hg1 hbw3.size) (hT2e.keep fun k hk hlt => hb.block k hlt (by have := hTL k hk; omega))
    have HBF : Hid (∀ wr, But g w3 wr → Hid (ErrR wr ∧ Below w.heap.size w wr ∧ Toks w1c.heap.size wr v2 ts)) := hbutF
    clear hfin hT1e hbutF hg1lt
    go_wp2
    go_loopw [7] (fun j wr => ∃ (i : Nat) (cur' : List Value), j = .int .i64 (i : Int) ∧ i ≤ n ∧ cur'.length = cur.length ∧ At 34 wr g cur' ∧ But g w3 wr) (fun j _ => n - (intOf j).toNat)
    case atStart => exact ⟨0, cur, rfl, by omega, rfl, hAcur, But.refl _ _⟩
    case round =>
      obtain ⟨i, cur', rfl, hi, hcl, hAr, hbr⟩ := hrel
      by_cases hc : i < n
      · go_wp2_with (first | ((with_reducible show wpList _ _ _ _ _ _); refine wpList_store_one (P := Tryd.prog) rfl 9 (.tmp 38) (.const (.string { data := #[111, 118, 101, 114] })) rfl g (i * 5 + 1) (.string { data := #[111, 118, 101, 114] }) rfl rfl 34 cur' hAr (by omega) i9 rfl rfl ?_; intro w5 hA5 hb5 hs5; refine Hid.out ?_))
        refine Lib.hid ?_
        have hbr5 := hbr.trans hb5
        clear hb5 hbr hAr
        go_wp2
        go_roundw
        case rel => exact ⟨i + 1, cur'.set (i * 5 + 1) (.string { data := #[111, 118, 101, 114] }), by go_num, by omega, by rw [List.length_set]; exact hcl, hA5, hbr5⟩
        case measure => simp [intOf]; omega
      · have HF := HBF.out wr hbr
        clear HBF hAr hbr
        go_wp2_with fail
        obtain ⟨hEr, hbwr, hT2r⟩ := HF.out
        clear HF
        refine (HL.out _ hEr).mono ?_
        rintro e w6 ⟨v3, rfl, hT6, hb6⟩
        go_wp2_with (first | ((with_reducible show wpList _ _ _ _ _ _); refine wpList_alloc_at rfl 25 rfl (fa2 0 0) 2 z25 ?_; intro w6b hA6b hb6b hs6b) | ((with_reducible show wpList _ _ _ _ _ _); refine wpList_store_at (P := Tryd.prog) rfl 25 (.tmp 9) (.tmp 43) rfl w6.heap.size (fa2 E p) rfl rfl 25 (fa2 0 0) hA6b i25 rfl (one2f _ _) ?_; intro w6c hA6c hb6c hs6c; refine Hid.out ?_))
        refine Lib.hid ?_
        have hB6 : Below w6.heap.size w6 w6c := hb6c.below hb6b (Nat.le_refl _) (by omega)
        have hT6c := hT6.below hB6
        have hb7 : Below wr.heap.size wr w6c := hb6.trans (hB6.mono hb6.size)
        have hT2s := hT2r.below hb7
        have hbw7 := hbwr.trans (hb7.mono hbwr.size)
        clear hA6b hb6b hb6c hB6 hb7 hT6 hb6 hT2r
        go_wp2_with fail
        refine (same_toks hT6c hT2s (by rw [← hn.out]; omega)).mono ?_
        rintro e w8 ⟨rfl, q8, hw8⟩
        have hbw8 : Below w.heap.size w w8 := by rw [hw8]; exact ⟨hbw7.os, hbw7.tape, hbw7.output, hbw7.size, hbw7.block⟩
        clear hw8 hT6c hT2s hbw7
        go_wp2_with fail
        refine (word_while _).mono ?_
        rintro e w9 ⟨rfl, hw9⟩
        rw [hw9]
        clear hw9
        go_wp2
        go_ret
        exact ⟨rfl, hbw8⟩

end Go.Proofs.YtinofdmdfhklpaaDoor
