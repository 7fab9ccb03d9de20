/- The document's own one: the token at a place. -/
import Derived.Test.YtinofdmdfhklpaaDoorNum2a
import Derived.Test.YtinofdmdfhklpaaDoorNum2b
import Derived.Test.YtinofdmdfhklpaaDoorNum2c
import Derived.Test.YtinofdmdfhklpaaDoorNum3
namespace Go.Proofs.YtinofdmdfhklpaaDoor
open Go.RowKit
set_option linter.unusedVariables false

/-- The document's own number. -/
theorem refNumber_any (s : ByteArray) (k K n : Nat) (w : World) (hk : k < s.size) (hs : s.size ≤ 1099511627775) (hd : isDig s[k].toNat = true) (hl : isLet s[k].toNat = false) (hKn : endOf ((bytes s).drop k) = (K, n)) :
    Calls Tryd.prog 26 #[.string s, .int .i64 (k : Int)] w fun e w' => e = .returned (.tuple #[.agg (oneTok s k K n).toArray, .agg (oneFa s k K n).toArray]) ∧ Below w.heap.size w w' := by
  cases hpt : isPt ((bytes s).drop (k + dgN ((bytes s).drop k)))
  · rcases pt_no s _ hpt with h1 | ⟨h1, h2 | ⟨h2, h3⟩⟩
    · exact refNumber_2a s k K n w hk hs hd hl hKn hpt h1
    · exact refNumber_2b s k K n w hk hs hd hl hKn hpt h1 (by rw [bytes_at s _ (by omega)]; exact h2)
    · exact refNumber_2c s k K n w hk hs hd hl hKn hpt h1 (by rw [bytes_at s _ (by omega)]; exact h2) (by rw [bytes_at s _ h1]; exact h3)
  · exact refNumber_3 s k K n w hk hs hd hl hKn hpt

/-- 'out = append(out, t)', and no other block is changed. -/
theorem wpList_appT2 {ops : Array Oper} {rest : List Oper} {o : Oper} {a : Act} {w : World} {Q : Exit → Act → World → Prop} (hgd : o.guard = none) (s x : Operand) (ho : o.op = .call { callee := .builtin .append, args := #[s, x], argTypes := #[22, 22] })
    (base g : Nat) (v : Value) (ts : List Tk) (tk : Tk) (hs : a.eval s = v) (hx : a.eval x = .slice (some ⟨g, 0, none⟩) 1 1) (hown : Toks base w v ts) (hA : At 34 w g tk.cells)
    (hlen : ts.length ≤ 1048576) (hbase : base ≤ w.heap.size)
    (h : ∀ v' w', Toks base w' v' (ts ++ [tk]) → Below base w w' → w.grownBy w' v.ownBlock → wpList Tryd.prog ops Q rest (a.put o.dst v') w') :
    wpList Tryd.prog ops Q (o :: rest) a w := by
  obtain ⟨ie, hi, hz0, hz1, hz2⟩ := info_parts Try.i34'
  refine wpList_append_own_at w hgd s x 22 ho base 34 ie (.agg (tok5 0 ⟨#[]⟩ 0 0 0).toArray) 5 48 Tryd.underlying22 hi hz0 hz1 hz2 rfl (by decide) v ts.length (flat ts) hs hown
    ⟨g, 0, none⟩ 1 1 tk.cells hx rfl ?_ ?_ ?_ ?_ hbase ?_
  · intro j u hj
    rw [Addr.add_mid, hA.cell, Nat.zero_add]; exact hj
  · intro u hu
    simp [Tk.cells] at hu
    rcases hu with rfl | rfl | rfl | rfl | rfl <;> rfl
  · unfold maxLen; omega
  · omega
  · intro v' w' h1 h2 _ _
    refine h v' w' ?_ ?_ h2
    · have e : flat (ts ++ [tk]) = flat ts ++ tk.cells := by rw [flat_append]; simp [flat]
      unfold Toks
      rw [e, List.length_append]
      exact h1
    · exact (Below.refl base w).grown h2 hbase hown.block

theorem Toks.blockLt {base : Nat} {w : World} {v : Value} {ts : List Tk} (h : Toks base w v ts) : ∀ k, v.ownBlock = some k → k < w.heap.size := by
  intro k hk
  obtain ⟨_, ⟨rfl, _⟩ | ⟨g, cap, cur, rfl, hg, hh, _⟩⟩ := h
  · simp [Value.ownBlock] at hk
  · simp [Value.ownBlock] at hk
    subst hk
    rcases Nat.lt_or_ge g w.heap.size with hlt | hge
    · exact hlt
    · rw [Array.getElem?_eq_none hge] at hh; simp at hh

theorem oneTok_cases (s : ByteArray) (k K n : Nat) : (∃ (K' : Nat) (S : ByteArray) (p t b : Nat), oneTok s k K n = tok5 K' S p t b) := by
  unfold oneTok; split <;> exact ⟨_, _, _, _, _, rfl⟩
theorem oneFa_cases (s : ByteArray) (k K n : Nat) : ∃ e p, oneFa s k K n = fa2 e p := by
  unfold oneFa; split
  · exact ⟨_, _, rfl⟩
  · split <;> exact ⟨_, _, rfl⟩

set_option maxRecDepth 100000 in
set_option maxHeartbeats 1600000 in
theorem one_any (s : ByteArray) (k K n : Nat) (w : World) (hk : k < s.size) (hs : s.size ≤ 1099511627775) (hKn : endOf ((bytes s).drop k) = (K, n)) :
    Calls Tryd.prog 17 #[.string s, .int .i64 (k : Int)] w fun e w' => e = .returned (.tuple #[.agg (oneTok s k K n).toArray, .agg (oneFa s k K n).toArray]) ∧ Below w.heap.size w w' := by
  have hdr := drop_at s k hk
  cases hl : isLet s[k].toNat
  · cases hd : isDig s[k].toNat
    · have he : endOf ((bytes s).drop k) = (4, sgN s[k] ((bytes s).drop (k + 1)) + 1) := by rw [hdr]; simp only [endOf, hl, hd]; rfl
      rw [hKn] at he
      obtain ⟨rfl, hn⟩ : K = 4 ∧ n = sgN s[k] ((bytes s).drop (k + 1)) + 1 := by simpa using he
      have hsg := sgFrom_zero s[k] ((bytes s).drop (k + 1))
      rw [← hdr, ← hn] at hsg
      have hbS : bytes (s.extract k (k + n)) = ((bytes s).drop k).take n := by rw [bytes_extract, Nat.add_sub_cancel_left]
      obtain ⟨X, hX⟩ : ∃ X, Hid (X = sgFrom 0 ((bytes s).drop k)) := ⟨_, (rfl : sgFrom 0 ((bytes s).drop k) = _)⟩
      have hcall := fun w => sign_any s k w hk (by omega)
      rw [← hX.out] at hcall hsg
      have HC : Hid (∀ w, Calls Tryd.prog 29 #[.string s, .int .i64 (k : Int)] w fun e w' => e = .returned (.string ⟨X.toArray⟩) ∧ Below w.heap.size w w') := hcall
      clear hcall hKn he
      cases hgood : isSg (((bytes s).drop k).take n)
      · rw [hgood] at hsg
        simp only [Bool.false_eq_true, if_false] at hsg
        have hT : Hid (oneTok s k 4 n = tok5 0 ⟨#[]⟩ 0 0 0) := by simp [Hid, oneTok, errOf, hgood]
        have hF : Hid (oneFa s k 4 n = fa2 4 k) := by simp [Hid, oneFa, errOf, hgood]
        rw [hT.out, hF.out]
        clear hdr hbS hgood
        subst hsg
        go_enter Tryd.func17, Tryd.ntmps17
        go_wp2_with (first | ((with_reducible show wpList _ _ _ _ _ _); refine wpList_alloc_at (o := { dst := some 4, .. }) rfl 34 rfl (tok5 0 ⟨#[]⟩ 0 0 0) 5 z34 ?_; intro w1 hA1 hb1 hs1) | ((with_reducible show wpList _ _ _ _ _ _); refine wpList_alloc_at rfl 25 rfl (fa2 0 0) 2 z25 ?_; intro w2 hA2 hb2 hs2; rw [hs1] at hA2) | (go_at_call 25; refine (digit4_at _ _ false hd).mono ?_; rintro e w2' ⟨rfl, rfl⟩) | (go_at_call 27; refine (letter_at _ _ false hl).mono ?_; rintro e w2' ⟨rfl, rfl⟩))
        refine (HC.out _).mono ?_
        rintro e w3 ⟨rfl, hb3⟩
        have hR4 : At 34 w3 w.heap.size (tok5 0 ⟨#[]⟩ 0 0 0) := (hA1.below hb2).below hb3
        have hR5 : At 25 w3 (w.heap.size + 1) (fa2 0 0) := hA2.below hb3
        have hB3 : Below w.heap.size w w3 := (hb1.trans (hb2.mono (by omega))).trans (hb3.mono (by omega))
        clear hA1 hb1 hA2 hb2 hb3
        go_wp2_with (first | ((with_reducible show wpList _ _ _ _ _ _); refine wpList_build_at rfl 34 #[] rfl (tok5 0 ⟨#[]⟩ 0 0 0) (by kernel_rfl) ?_) | ((with_reducible show wpList _ _ _ _ _ _); refine wpList_build_at rfl 25 _ rfl (fa2 4 k) (by kernel_rfl) ?_) | ((with_reducible show wpList _ _ _ _ _ _); refine wpList_store_at (P := Tryd.prog) rfl 34 (.tmp 4) (.tmp 43) rfl w.heap.size (tok5 0 ⟨#[]⟩ 0 0 0) rfl rfl 34 (tok5 0 ⟨#[]⟩ 0 0 0) hR4 i34 rfl (one5 _ _ _ _ _) ?_; intro w8 hA8 hb8 hs8) | ((with_reducible show wpList _ _ _ _ _ _); refine wpList_store_at (P := Tryd.prog) rfl 25 (.tmp 5) (.tmp 45) rfl (w.heap.size + 1) (fa2 4 k) rfl rfl 25 (fa2 0 0) (hb8.at hR5 (by omega)) i25 rfl (one2f _ _) ?_; intro w9 hA9 hb9 hs9))
        refine bodyPost_ret (results_at_at rfl _ _ w.heap.size (w.heap.size + 1) 34 25 (tok5 0 ⟨#[]⟩ 0 0 0) (fa2 4 k) _ _ rfl (hb9.at hA8 (by omega)) Tryd.underlying34 rfl i34 rfl hA9 Tryd.underlying25 rfl i25) rfl ?_
        exact ⟨rfl, hb9.below (hb8.below hB3 (Nat.le_refl _) hB3.size) (by omega) (by have := hB3.size; omega)⟩
      · rw [hgood] at hsg
        simp only [if_true] at hsg
        obtain ⟨S, hS⟩ : ∃ S : ByteArray, Hid (S = ⟨X.toArray⟩) := ⟨_, (rfl : (⟨X.toArray⟩ : ByteArray) = _)⟩
        have hSx : s.extract k (k + n) = S := by rw [mk_bytes (s.extract k (k + n)), hbS, hS.out, hsg]
        have hT : Hid (oneTok s k 4 n = tok5 4 S k 0 0) := by simp [Hid, oneTok, errOf, hgood, clB, hSx, valT, valB]
        have hF : Hid (oneFa s k 4 n = fa2 0 0) := by simp [Hid, oneFa, errOf, hgood, clB]
        rw [hT.out, hF.out]
        have hne : S.toList.isEmpty = false := by
          refine not_empty ?_
          rw [← hSx, ← bytes_length, hbS, List.length_take, List.length_drop, bytes_length]
          omega
        have HC2 : Hid (∀ w, Calls Tryd.prog 29 #[.string s, .int .i64 (k : Int)] w fun e w' => e = .returned (.string S) ∧ Below w.heap.size w w') := by
          intro w; rw [hS.out]; exact HC.out w
        clear hdr hbS hgood HC hsg hSx
        go_enter Tryd.func17, Tryd.ntmps17
        go_wp2_with (first | ((with_reducible show wpList _ _ _ _ _ _); refine wpList_alloc_at (o := { dst := some 4, .. }) rfl 34 rfl (tok5 0 ⟨#[]⟩ 0 0 0) 5 z34 ?_; intro w1 hA1 hb1 hs1) | ((with_reducible show wpList _ _ _ _ _ _); refine wpList_alloc_at rfl 25 rfl (fa2 0 0) 2 z25 ?_; intro w2 hA2 hb2 hs2; rw [hs1] at hA2) | (go_at_call 25; refine (digit4_at _ _ false hd).mono ?_; rintro e w2' ⟨rfl, rfl⟩) | (go_at_call 27; refine (letter_at _ _ false hl).mono ?_; rintro e w2' ⟨rfl, rfl⟩))
        refine (HC2.out _).mono ?_
        rintro e w3 ⟨rfl, hb3⟩
        have hR4 : At 34 w3 w.heap.size (tok5 0 ⟨#[]⟩ 0 0 0) := (hA1.below hb2).below hb3
        have hR5 : At 25 w3 (w.heap.size + 1) (fa2 0 0) := hA2.below hb3
        have hB3 : Below w.heap.size w w3 := (hb1.trans (hb2.mono (by omega))).trans (hb3.mono (by omega))
        clear hA1 hb1 hA2 hb2 hb3
        go_wp2_with (first | ((with_reducible show wpList _ _ _ _ _ _); refine wpList_build_at rfl 34 _ rfl (tok5 4 S k 0 0) (by kernel_rfl) ?_) | ((with_reducible show wpList _ _ _ _ _ _); refine wpList_build_at rfl 25 _ rfl (fa2 0 0) (by kernel_rfl) ?_) | ((with_reducible show wpList _ _ _ _ _ _); refine wpList_store_at (P := Tryd.prog) rfl 34 (.tmp 4) (.tmp 48) rfl w.heap.size (tok5 4 S k 0 0) rfl rfl 34 (tok5 0 ⟨#[]⟩ 0 0 0) hR4 i34 rfl (one5 _ _ _ _ _) ?_; intro w8 hA8 hb8 hs8) | ((with_reducible show wpList _ _ _ _ _ _); refine wpList_store_at (P := Tryd.prog) rfl 25 (.tmp 5) (.tmp 49) rfl (w.heap.size + 1) (fa2 0 0) rfl rfl 25 (fa2 0 0) (hb8.at hR5 (by omega)) i25 rfl (one2f _ _) ?_; intro w9 hA9 hb9 hs9))
        refine bodyPost_ret (results_at_at rfl _ _ w.heap.size (w.heap.size + 1) 34 25 (tok5 4 S k 0 0) (fa2 0 0) _ _ rfl (hb9.at hA8 (by omega)) Tryd.underlying34 rfl i34 rfl hA9 Tryd.underlying25 rfl i25) rfl ?_
        exact ⟨rfl, hb9.below (hb8.below hB3 (Nat.le_refl _) hB3.size) (by omega) (by have := hB3.size; omega)⟩
    · have hcall := fun w => refNumber_any s k K n w hk hs hd hl hKn
      obtain ⟨K', S, p, t, b, hT⟩ := oneTok_cases s k K n
      obtain ⟨fe, fp, hF⟩ := oneFa_cases s k K n
      rw [hT, hF] at hcall ⊢
      have HC : Hid (∀ w, Calls Tryd.prog 26 #[.string s, .int .i64 (k : Int)] w fun e w' => e = .returned (.tuple #[.agg (tok5 K' S p t b).toArray, .agg (fa2 fe fp).toArray]) ∧ Below w.heap.size w w') := hcall
      clear hcall hT hF hKn hdr
      go_enter Tryd.func17, Tryd.ntmps17
      go_wp2_with (first | ((with_reducible show wpList _ _ _ _ _ _); refine wpList_alloc_at (o := { dst := some 4, .. }) rfl 34 rfl (tok5 0 ⟨#[]⟩ 0 0 0) 5 z34 ?_; intro w1 hA1 hb1 hs1) | ((with_reducible show wpList _ _ _ _ _ _); refine wpList_alloc_at rfl 25 rfl (fa2 0 0) 2 z25 ?_; intro w2 hA2 hb2 hs2; rw [hs1] at hA2) | (go_at_call 25; refine (digit4_at _ _ true hd).mono ?_; rintro e w2' ⟨rfl, rfl⟩))
      refine (HC.out _).mono ?_
      rintro e w3 ⟨rfl, hb3⟩
      have hR4 : At 34 w3 w.heap.size (tok5 0 ⟨#[]⟩ 0 0 0) := (hA1.below hb2).below hb3
      have hR5 : At 25 w3 (w.heap.size + 1) (fa2 0 0) := hA2.below hb3
      have hB3 : Below w.heap.size w w3 := (hb1.trans (hb2.mono (by omega))).trans (hb3.mono (by omega))
      clear hA1 hb1 hA2 hb2 hb3
      go_wp2_with (first | ((with_reducible show wpList _ _ _ _ _ _); refine wpList_store_at (P := Tryd.prog) rfl 34 (.tmp 4) (.tmp 15) rfl w.heap.size (tok5 K' S p t b) rfl rfl 34 (tok5 0 ⟨#[]⟩ 0 0 0) hR4 i34 rfl (one5 _ _ _ _ _) ?_; intro w8 hA8 hb8 hs8) | ((with_reducible show wpList _ _ _ _ _ _); refine wpList_store_at (P := Tryd.prog) rfl 25 (.tmp 5) (.tmp 16) rfl (w.heap.size + 1) (fa2 fe fp) rfl rfl 25 (fa2 0 0) (hb8.at hR5 (by omega)) i25 rfl (one2f _ _) ?_; intro w9 hA9 hb9 hs9))
      refine bodyPost_ret (results_at_at rfl _ _ w.heap.size (w.heap.size + 1) 34 25 (tok5 K' S p t b) (fa2 fe fp) _ _ rfl (hb9.at hA8 (by omega)) Tryd.underlying34 rfl i34 rfl hA9 Tryd.underlying25 rfl i25) rfl ?_
      exact ⟨rfl, hb9.below (hb8.below hB3 (Nat.le_refl _) hB3.size) (by omega) (by have := hB3.size; omega)⟩
  · have hd : isDig s[k].toNat = false := by
      cases h : isDig s[k].toNat
      · rfl
      · simp only [isLet, isDig, Bool.or_eq_true, Bool.and_eq_true, decide_eq_true_eq] at hl h; omega
    have he : endOf ((bytes s).drop k) = (1, alN ((bytes s).drop (k + 1)) + 1) := by rw [hdr]; simp only [endOf, hl, if_true]
    rw [hKn] at he
    obtain ⟨rfl, hn⟩ : K = 1 ∧ n = alN ((bytes s).drop (k + 1)) + 1 := by simpa using he
    have hrun := fun w => run_any s k true w (by omega) (by omega)
    have hru : ruN true ((bytes s).drop k) = n := by
      have := alN_yes s k hk (by rw [hl]; rfl)
      rw [hn]; exact this
    rw [hru] at hrun
    have hle : n ≤ s.size - k := by
      have := alN_le' ((bytes s).drop k)
      rw [List.length_drop, bytes_length] at this
      have h2 : alN ((bytes s).drop k) = n := hru
      omega
    have HC : Hid (∀ w, Calls Tryd.prog 28 #[.string s, .int .i64 (k : Int), .bool true] w fun e w' => e = .returned (.int .i64 ((k + n : Nat) : Int)) ∧ w' = w) := hrun
    have hbl : (((bytes s).drop k).take n).length = n := by rw [List.length_take, List.length_drop, bytes_length]; omega
    clear hrun hru hKn he hdr
    by_cases h24 : 24 < n
    · have hT : Hid (oneTok s k 1 n = tok5 0 ⟨#[]⟩ 0 0 0) := by simp [Hid, oneTok, errOf, hbl, h24]
      have hF : Hid (oneFa s k 1 n = fa2 5 k) := by simp [Hid, oneFa, errOf, hbl, h24]
      rw [hT.out, hF.out]
      clear hbl hn
      go_enter Tryd.func17, Tryd.ntmps17
      go_wp2_with (first | ((with_reducible show wpList _ _ _ _ _ _); refine wpList_alloc_at (o := { dst := some 4, .. }) rfl 34 rfl (tok5 0 ⟨#[]⟩ 0 0 0) 5 z34 ?_; intro w1 hA1 hb1 hs1) | ((with_reducible show wpList _ _ _ _ _ _); refine wpList_alloc_at rfl 25 rfl (fa2 0 0) 2 z25 ?_; intro w2 hA2 hb2 hs2; rw [hs1] at hA2) | (go_at_call 25; refine (digit4_at _ _ false hd).mono ?_; rintro e w2' ⟨rfl, rfl⟩) | (go_at_call 27; refine (letter_at _ _ true hl).mono ?_; rintro e w2' ⟨rfl, rfl⟩))
      refine (HC.out _).mono ?_
      rintro e w3 ⟨rfl, hw3⟩
      rw [hw3]; clear hw3
      have hR4 : At 34 w2' w.heap.size (tok5 0 ⟨#[]⟩ 0 0 0) := hA1.below hb2
      have hR5 : At 25 w2' (w.heap.size + 1) (fa2 0 0) := hA2
      have hB3 : Below w.heap.size w w2' := hb1.trans (hb2.mono (by omega))
      clear hA1 hb1 hA2 hb2
      go_wp2_with (first | ((with_reducible show wpList _ _ _ _ _ _); refine wpList_build_at rfl 34 #[] rfl (tok5 0 ⟨#[]⟩ 0 0 0) (by kernel_rfl) ?_) | ((with_reducible show wpList _ _ _ _ _ _); refine wpList_build_at rfl 25 _ rfl (fa2 5 k) (by kernel_rfl) ?_) | ((with_reducible show wpList _ _ _ _ _ _); refine wpList_store_at (P := Tryd.prog) rfl 34 (.tmp 4) (.tmp 28) rfl w.heap.size (tok5 0 ⟨#[]⟩ 0 0 0) rfl rfl 34 (tok5 0 ⟨#[]⟩ 0 0 0) hR4 i34 rfl (one5 _ _ _ _ _) ?_; intro w8 hA8 hb8 hs8) | ((with_reducible show wpList _ _ _ _ _ _); refine wpList_store_at (P := Tryd.prog) rfl 25 (.tmp 5) (.tmp 30) rfl (w.heap.size + 1) (fa2 5 k) rfl rfl 25 (fa2 0 0) (hb8.at hR5 (by omega)) i25 rfl (one2f _ _) ?_; intro w9 hA9 hb9 hs9))
      refine bodyPost_ret (results_at_at rfl _ _ w.heap.size (w.heap.size + 1) 34 25 (tok5 0 ⟨#[]⟩ 0 0 0) (fa2 5 k) _ _ rfl (hb9.at hA8 (by omega)) Tryd.underlying34 rfl i34 rfl hA9 Tryd.underlying25 rfl i25) rfl ?_
      exact ⟨rfl, hb9.below (hb8.below hB3 (Nat.le_refl _) hB3.size) (by omega) (by have := hB3.size; omega)⟩
    · obtain ⟨S, hS⟩ : ∃ S, Hid (S = s.extract k (k + n)) := ⟨_, (rfl : s.extract k (k + n) = _)⟩
      have hT : Hid (oneTok s k 1 n = tok5 1 S k 0 0) := by simp [Hid, oneTok, errOf, hbl, h24, clB, hS.out, valT, valB]
      have hF : Hid (oneFa s k 1 n = fa2 0 0) := by simp [Hid, oneFa, errOf, hbl, h24, clB]
      rw [hT.out, hF.out, hS.out]
      clear hbl hn
      go_enter Tryd.func17, Tryd.ntmps17
      go_wp2_with (first | ((with_reducible show wpList _ _ _ _ _ _); refine wpList_alloc_at (o := { dst := some 4, .. }) rfl 34 rfl (tok5 0 ⟨#[]⟩ 0 0 0) 5 z34 ?_; intro w1 hA1 hb1 hs1) | ((with_reducible show wpList _ _ _ _ _ _); refine wpList_alloc_at rfl 25 rfl (fa2 0 0) 2 z25 ?_; intro w2 hA2 hb2 hs2; rw [hs1] at hA2) | (go_at_call 25; refine (digit4_at _ _ false hd).mono ?_; rintro e w2' ⟨rfl, rfl⟩) | (go_at_call 27; refine (letter_at _ _ true hl).mono ?_; rintro e w2' ⟨rfl, rfl⟩))
      refine (HC.out _).mono ?_
      rintro e w3 ⟨rfl, hw3⟩
      rw [hw3]; clear hw3
      have hR4 : At 34 w2' w.heap.size (tok5 0 ⟨#[]⟩ 0 0 0) := hA1.below hb2
      have hR5 : At 25 w2' (w.heap.size + 1) (fa2 0 0) := hA2
      have hB3 : Below w.heap.size w w2' := hb1.trans (hb2.mono (by omega))
      clear hA1 hb1 hA2 hb2
      go_wp2_with (first | ((with_reducible show wpList _ _ _ _ _ _); refine wpList_build_at rfl 34 _ rfl (tok5 1 (s.extract k (k + n)) k 0 0) (by kernel_rfl) ?_) | ((with_reducible show wpList _ _ _ _ _ _); refine wpList_build_at rfl 25 _ rfl (fa2 0 0) (by kernel_rfl) ?_) | ((with_reducible show wpList _ _ _ _ _ _); refine wpList_store_at (P := Tryd.prog) rfl 34 (.tmp 4) (.tmp 36) rfl w.heap.size (tok5 1 (s.extract k (k + n)) k 0 0) rfl rfl 34 (tok5 0 ⟨#[]⟩ 0 0 0) hR4 i34 rfl (one5 _ _ _ _ _) ?_; intro w8 hA8 hb8 hs8) | ((with_reducible show wpList _ _ _ _ _ _); refine wpList_store_at (P := Tryd.prog) rfl 25 (.tmp 5) (.tmp 37) rfl (w.heap.size + 1) (fa2 0 0) rfl rfl 25 (fa2 0 0) (hb8.at hR5 (by omega)) i25 rfl (one2f _ _) ?_; intro w9 hA9 hb9 hs9))
      refine bodyPost_ret (results_at_at rfl _ _ w.heap.size (w.heap.size + 1) 34 25 (tok5 1 (s.extract k (k + n)) k 0 0) (fa2 0 0) _ _ rfl (hb9.at hA8 (by omega)) Tryd.underlying34 rfl i34 rfl hA9 Tryd.underlying25 rfl i25) rfl ?_
      exact ⟨rfl, hb9.below (hb8.below hB3 (Nat.le_refl _) hB3.size) (by omega) (by have := hB3.size; omega)⟩

end Go.Proofs.YtinofdmdfhklpaaDoor
