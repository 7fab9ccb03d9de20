/- The document's own Lex: the tokens of a text, or its first fault. -/
import Derived.Test.YtinofdmdfhklpaaDoorRefOne
namespace Go.Proofs.YtinofdmdfhklpaaDoor
open Go.RowKit
set_option linter.unusedVariables false

theorem run_eq25 (e p e' p' : Nat) (u : World) : (Op.equalIn 10000 25 (.agg (fa2 e p).toArray) (.agg (fa2 e' p').toArray)).run Tryd.prog u = .ok (decide (e = e') && decide (p = p')) u := by
  unfold fa2
  by_cases h1 : e = e'
  · by_cases h2 : p = p'
    · subst h1 h2
      go_simp
    · have hp : ((p : Int) == (p' : Int)) = false := by rw [beq_eq_false_iff_ne]; omega
      subst h1
      simp only [h2, decide_false, Bool.and_false]
      go_simp
  · have he : ((e : Int) == (e' : Int)) = false := by rw [beq_eq_false_iff_ne]; omega
    simp only [h1, decide_false, Bool.false_and]
    go_simp

theorem lnN_yes (s : ByteArray) (j : Nat) (h : j < s.size) (hc : ¬ s[j].toNat = 10) : lnN ((bytes s).drop j) = lnN ((bytes s).drop (j + 1)) + 1 := by
  rw [drop_at s j h]; simp only [lnN, hc, if_false]
theorem lnN_no (s : ByteArray) (j : Nat) (h : j < s.size) (hc : s[j].toNat = 10) : lnN ((bytes s).drop j) = 0 := by
  rw [drop_at s j h]; simp only [lnN, hc, if_true]
theorem lnN_end (s : ByteArray) (j : Nat) (h : ¬ j < s.size) : lnN ((bytes s).drop j) = 0 := by
  rw [drop_end s j h]; rfl

theorem blank_35 (w : World) : Calls Tryd.prog 16 #[.int .u8 35] w fun e w' => e = .returned (.bool false) ∧ w' = w := blank_at 35 w false rfl

set_option maxRecDepth 100000 in
set_option maxHeartbeats 1600000 in
theorem refLex_any (s : ByteArray) (w : World) (hmax : s.size ≤ 9223372036854775807) :
    Calls Tryd.prog 7 #[.string s] w fun e w' => LexPost w (lexS (bytes s)) e w' := by
  by_cases hlong : 16384 < s.size
  · have hO : lexS (bytes s) = ⟨[], 3, 16384⟩ := by simp only [lexS, bytes_length, hlong, if_true]
    rw [hO]
    go_enter Tryd.func7, Tryd.ntmps7
    go_wp2_with (first | ((with_reducible show wpList _ _ _ _ _ _); refine wpList_alloc_at rfl 25 rfl (fa2 0 0) 2 z25 ?_; intro w1 hA1 hb1 hs1) | ((with_reducible show wpList _ _ _ _ _ _); refine wpList_build_at rfl 25 _ rfl (fa2 3 16384) (by kernel_rfl) ?_) | ((with_reducible show wpList _ _ _ _ _ _); refine wpList_store_at (P := Tryd.prog) rfl 25 (.tmp 3) (.tmp 11) rfl w.heap.size (fa2 3 16384) rfl rfl 25 (fa2 0 0) hA1 i25 rfl (one2f _ _) ?_; intro w9 hA9 hb9 hs9))
    refine bodyPost_ret (results_tmp_at rfl _ _ w.heap.size 25 (fa2 3 16384) _ rfl hA9 Tryd.underlying25 rfl i25) rfl ?_
    exact ⟨_, rfl, Toks.nil _ _, hb9.below hb1 (Nat.le_refl _) (by omega)⟩
  · obtain ⟨O, hO⟩ : ∃ O, Hid (O = lexS (bytes s)) := ⟨_, (rfl : lexS (bytes s) = _)⟩
    have hO2 : Hid (O = lexA (bytes s) (s.size + 1) (0 + skN ((bytes s).drop 0))) := by show _ = _; rw [hO.out, lexS, bytes_length, if_neg hlong, List.drop_zero, Nat.zero_add]
    rw [← hO.out]
    have hs16 : s.size ≤ 16384 := by omega
    go_enter Tryd.func7, Tryd.ntmps7
    go_wp2_with (first | ((with_reducible show wpList _ _ _ _ _ _); refine wpList_alloc_at rfl 25 rfl (fa2 0 0) 2 z25 ?_; intro w1 hA1 hb1 hs1))
    go_loopw [4, 5] (fun v p wr => ∃ (i f : Nat) (acc : List Tk), p = .int .i64 (i : Int) ∧ i ≤ s.size ∧ s.size < f + i ∧ acc.length ≤ i ∧ Hid ((lexA (bytes s) f (i + skN ((bytes s).drop i))).ahead acc = O) ∧ Toks w1.heap.size wr v acc ∧ Below w1.heap.size w1 wr) (fun _ p _ => s.size - (intOf p).toNat)
    case atStart => exact ⟨0, s.size + 1, [], rfl, by omega, by omega, by simp, by
      show _ = _
      rw [hO2.out]
      refine Out.ahead_nil _ ?_
      exact lexA_place _ _ _, Toks.nil _ _, Below.refl _ _⟩
    case round =>
      obtain ⟨i, f, acc, rfl, hi, hf, hal, hr, hown, hbl⟩ := hrel
      have hAr : At 25 wr w.heap.size (fa2 0 0) := by
        unfold At; rw [hbl.block w.heap.size (by omega)]; exact hA1
      have hbw : Below w.heap.size w wr := hb1.trans (hbl.mono (by omega))
      by_cases hc : i < s.size
      · cases hbk : isBl s[i].toNat
        · by_cases hn : s[i].toNat = 35
          · have hkey := sk_note s i hc hn
            have hle := lnN_le ((bytes s).drop i)
            rw [List.length_drop, bytes_length] at hle
            have hpos : 1 ≤ lnN ((bytes s).drop i) := by rw [drop_at s i hc]; simp [lnN, hn]
            obtain ⟨T, hT⟩ : ∃ T, Hid (T = i + lnN ((bytes s).drop i)) := ⟨_, (rfl : i + lnN ((bytes s).drop i) = _)⟩
            have hTle : i + 1 ≤ T ∧ T ≤ s.size := by rw [hT.out]; omega
            have hr' : Hid ((lexA (bytes s) f (T + skN ((bytes s).drop T))).ahead acc = O) := by
              show _ = _
              rw [← hr.out, hkey, hT.out]
            have hn' : (s[i].toNat : Int) = 35 := by omega
            clear hkey hle hpos hr
            go_wp2_with (first | (go_at_call 16; refine (blank_35 _).mono ?_; rintro e w2' ⟨rfl, rfl⟩))
            go_loopw [5] (fun p wq => ∃ j : Nat, p = .int .i64 (j : Int) ∧ i ≤ j ∧ j ≤ s.size ∧ Hid (j + lnN ((bytes s).drop j) = T) ∧ wq = w2') (fun p _ => s.size - (intOf p).toNat)
            case atStart => exact ⟨i, rfl, by omega, by omega, hT.out.symm, rfl⟩
            case round =>
              obtain ⟨j, rfl, hj1, hj2, hj3, rfl⟩ := hrel
              by_cases hcj : j < s.size
              · by_cases h10 : s[j].toNat = 10
                · have hfin : Hid (j = T) := by show _ = _; have := hj3.out; rw [lnN_no s j hcj h10] at this; omega
                  have h10' : ((s[j].toNat : Int) != 10) = false := by simp; omega
                  clear hj3
                  go_wp2
                  go_roundw
                  case rel => exact ⟨j, f, acc, rfl, by omega, by omega, by omega, by rw [hfin.out]; exact hr', hown, hbl⟩
                  case measure => have := hfin.out; simp [intOf]; omega
                · have hj3' : Hid (j + 1 + lnN ((bytes s).drop (j + 1)) = T) := by show _ = _; have := hj3.out; rw [lnN_yes s j hcj h10] at this; omega
                  have h10' : ((s[j].toNat : Int) != 10) = true := by simp; omega
                  clear hj3
                  go_wp2
                  go_roundw
                  case rel => exact ⟨j + 1, by go_num, by omega, by omega, hj3', trivial⟩
                  case measure => simp [intOf]; omega
              · have hfin : Hid (j = T) := by show _ = _; have := hj3.out; rw [lnN_end s j hcj] at this; omega
                clear hj3
                go_wp2
                go_roundw
                case rel => exact ⟨j, f, acc, rfl, by omega, by omega, by omega, by rw [hfin.out]; exact hr', hown, hbl⟩
                case measure => have := hfin.out; simp [intOf]; omega
          · have hz := sk_none s i hc hbk hn
            rw [hz, Nat.add_zero] at hr
            have hn' : ((s[i].toNat : Int) == 35) = false := by rw [beq_eq_false_iff_ne]; omega
            clear hz
            obtain ⟨f', rfl⟩ : ∃ f', f = f' + 1 := ⟨f - 1, by omega⟩
            obtain ⟨K, n, hKn⟩ : ∃ K n, endOf ((bytes s).drop i) = (K, n) := ⟨_, _, rfl⟩
            have hbd := endOf_bounds ((bytes s).drop i) (by rw [List.length_drop, bytes_length]; omega)
            rw [hKn, List.length_drop, bytes_length] at hbd
            obtain ⟨hn1, hn2, hKs⟩ := hbd
            simp only [] at hn1 hn2
            clear hKs
            have hle : i + n ≤ s.size := by omega
            have hlA := lexA_err (bytes s) f' i (by rw [bytes_length]; exact hc)
            have hlC := lexA_clings (bytes s) f' i (by rw [bytes_length]; exact hc)
            have hlS := lexA_step (bytes s) f' i (by rw [bytes_length]; exact hc)
            rw [hKn] at hlA hlC hlS
            simp only [] at hlA hlC hlS
            have htok := one_any s i K n wr hc (by omega) hKn
            unfold oneTok oneFa at htok
            have hx5 := cells_tok5 K s i n
            obtain ⟨S, hS⟩ : ∃ S, Hid (S = s.extract i (i + n)) := ⟨_, (rfl : s.extract i (i + n) = _)⟩
            have hSz : S.size = n := by rw [hS.out, ← bytes_length, bytes_extract, Nat.add_sub_cancel_left, List.length_take, List.length_drop, bytes_length]; omega
            obtain ⟨x, hx⟩ : ∃ x, Hid (x = ((bytes s).drop i).take n) := ⟨_, (rfl : ((bytes s).drop i).take n = _)⟩
            rw [← hx.out] at hlA hlC hlS htok hx5
            rw [← hS.out] at hx5 htok
            have HX5 : Hid ((tkOf K x i).cells = tok5 K S i (valT K) (valB K x)) := hx5.symm
            clear hx5 hKn
            by_cases hgood : errOf K x = 0 ∧ clB K ((bytes s).drop (i + n)) = false
            · obtain ⟨he, hcb⟩ := hgood
              rw [if_pos ⟨he, hcb⟩, if_neg (by rw [he]; simp), if_neg (by rw [hcb]; simp)] at htok
              obtain ⟨Tv, hTv⟩ : ∃ T, Hid (T = valT K) := ⟨_, (rfl : valT K = _)⟩
              obtain ⟨V, hV⟩ : ∃ V, Hid (V = valB K x) := ⟨_, (rfl : valB K x = _)⟩
              rw [← hTv.out, ← hV.out] at htok
              have HX6 : Hid ((tkOf K x i).cells = tok5 K S i Tv V) := by show _ = _; rw [HX5.out, hTv.out, hV.out]
              have HTOK : Hid (Calls Tryd.prog 17 #[.string s, .int .i64 (i : Int)] wr fun e w' => e = .returned (.tuple #[.agg (tok5 K S i Tv V).toArray, .agg (fa2 0 0).toArray]) ∧ Below wr.heap.size wr w') := htok
              have HO : Hid (O = (lexA (bytes s) f' (i + n + skN ((bytes s).drop (i + n)))).ahead (acc ++ [tkOf K x i])) := by
                show _ = _
                rw [← hr.out, hlS he hcb, Out.ahead_ahead]
              have hq := run_eq25 0 0 0 0
              simp only [decide_true, Bool.and_true] at hq
              clear htok hlA hlC hlS hr he hcb
              go_wp2_with (first | (go_at_call 16; refine (blank_at _ _ false hbk).mono ?_; rintro e w2' ⟨rfl, rfl⟩))
              refine (HTOK.out).mono ?_
              rintro e wA ⟨rfl, hbA⟩
              go_wp2_with (first | ((with_reducible show wpList _ _ _ _ _ _); refine wpList_alloc_at rfl 34 rfl (tok5 0 ⟨#[]⟩ 0 0 0) 5 z34 ?_; intro wB hAB hbB hsB) | ((with_reducible show wpList _ _ _ _ _ _); refine wpList_alloc_at rfl 25 rfl (fa2 0 0) 2 z25 ?_; intro wC hAC hbC hsC) | ((with_reducible show wpList _ _ _ _ _ _); refine wpList_store_at (P := Tryd.prog) rfl 34 (.tmp 6) (.tmp 42) rfl wA.heap.size (tok5 K S i Tv V) rfl rfl 34 (tok5 0 ⟨#[]⟩ 0 0 0) (hAB.below hbC) i34 rfl (one5 _ _ _ _ _) ?_; intro wD hAD hbD hsD) | ((with_reducible show wpList _ _ _ _ _ _); refine wpList_store_at (P := Tryd.prog) rfl 25 (.tmp 7) (.tmp 43) rfl wB.heap.size (fa2 0 0) rfl rfl 25 (fa2 0 0) (hbD.at hAC (by omega)) i25 rfl (one2f _ _) ?_; intro wE hAE hbE hsE; refine Hid.out ?_))
              refine Lib.hid ?_
              have hlt : w2'.heap.size ≤ wA.heap.size := hbA.size
              rw [hsB] at hAE
              have hbEw : Below w2'.heap.size w2' wE := hbE.below (hbD.below ((hbA.trans (hbB.mono hbA.size)).trans (hbC.mono (by omega))) (by omega) (by omega)) (by omega) (by omega)
              have hownE := hown.below hbEw
              have hAtE : At 34 wE wA.heap.size (tok5 K S i Tv V) := hbE.at hAD (by omega)
              have hcell1 : wE.cell? ⟨wA.heap.size, 1, none⟩ = some (.string S) := by rw [hAtE.cell]; rfl
              have hbl2 : Below w1.heap.size w1 wE := hbl.trans (hbEw.mono hbl.size)
              have hszE : w1.heap.size ≤ wE.heap.size := hbl2.size
              clear hAB hbB hAC hbC hAD hbD hbE hbA hbEw
              go_wp2_with (first | ((with_reducible show wpList _ _ _ _ _ _); refine wpList_load_at (P := Tryd.prog) rfl 25 (.tmp 7) rfl (wA.heap.size + 1) rfl 25 (fa2 0 0) hAE _ Tryd.underlying25 rfl i25 ?_) | ((with_reducible show wpList _ _ _ _ _ _); refine wpList_build_at rfl 25 #[] rfl (fa2 0 0) (by kernel_rfl) ?_) | ((with_reducible show wpList _ _ _ _ _ _); refine wpList_load_at (P := Tryd.prog) rfl 34 (.tmp 6) rfl wA.heap.size rfl 34 (tok5 K S i Tv V) hAtE _ Tryd.underlying34 rfl i34 ?_) | ((with_reducible show wpList _ _ _ _ _ _); refine wpList_slice1 rfl (.tmp 49) rfl K S i Tv V rfl ?_; intro wF hAF hbF hsF) | ((with_reducible show wpList _ _ _ _ _ _); refine wpList_appT2 rfl (.tmp 48) (.tmp 50) rfl w1.heap.size wE.heap.size _ acc (tkOf K x i) rfl rfl (hownE.below hbF) (by rw [HX6.out]; exact hAF) (by omega) (Nat.le_trans hszE hbF.size) ?_; intro v' wG hownG hbG hgr; refine Hid.out ?_))
              refine Lib.hid ?_
              have hbG2 : Below w1.heap.size w1 wG := (hbl2.trans (hbF.mono hszE)).trans hbG
              have hcellG : wG.cell? ⟨wA.heap.size, 1, none⟩ = some (.string S) := by
                have hlt2 := hown.blockLt
                have h1 : wF.cell? ⟨wA.heap.size, 1, none⟩ = some (.string S) := by rw [hbF.cell hAtE.lt]; exact hcell1
                rw [World.cell?_of_block (w := wF) (hgr.block wA.heap.size (Nat.lt_of_lt_of_le hAtE.lt hbF.size) (fun e => by have := hlt2 _ e.symm; omega))]
                exact h1
              clear hAF hbF hbG hbl2 hownE hcell1
              go_wp2
              go_roundw
              case rel => exact ⟨i + n, f', acc ++ [tkOf K x i], by go_num, by omega, by omega, by simp; omega, HO.out.symm, hownG, hbG2⟩
              case measure => simp [intOf]; omega
            · have hkey : ∃ E p : Nat, E ≠ 0 ∧ (if errOf K x ≠ 0 then fa2 (errOf K x) i else if clB K ((bytes s).drop (i + n)) = true then fa2 4 (i + n) else fa2 0 0) = fa2 E p ∧ O = ⟨[], E, p⟩ := by
                by_cases he : errOf K x = 0
                · have hcb : clB K ((bytes s).drop (i + n)) = true := by
                    cases h : clB K ((bytes s).drop (i + n))
                    · exact absurd ⟨he, h⟩ hgood
                    · rfl
                  refine ⟨4, i + n, by decide, by rw [if_neg (by rw [he]; simp), if_pos hcb], ?_⟩
                  rw [← hr.out, hlC he hcb]
                  rfl
                · refine ⟨errOf K x, i, he, by rw [if_pos he], ?_⟩
                  rw [← hr.out, hlA he, Out.ahead, if_neg he]
              obtain ⟨E, p, hE0, hfa, hOE⟩ := hkey
              rw [if_neg hgood, hfa] at htok
              have HO : Hid (O = ⟨[], E, p⟩) := hOE
              have HTOK : Hid (Calls Tryd.prog 17 #[.string s, .int .i64 (i : Int)] wr fun e w' => e = .returned (.tuple #[.agg (tok5 0 ⟨#[]⟩ 0 0 0).toArray, .agg (fa2 E p).toArray]) ∧ Below wr.heap.size wr w') := htok
              have hq := run_eq25 E p 0 0
              simp only [hE0, decide_false, Bool.false_and] at hq
              clear htok hlA hlC hlS hr hfa hOE hgood
              go_wp2_with (first | (go_at_call 16; refine (blank_at _ _ false hbk).mono ?_; rintro e w2' ⟨rfl, rfl⟩))
              refine (HTOK.out).mono ?_
              rintro e wA ⟨rfl, hbA⟩
              go_wp2_with (first | ((with_reducible show wpList _ _ _ _ _ _); refine wpList_alloc_at rfl 34 rfl (tok5 0 ⟨#[]⟩ 0 0 0) 5 z34 ?_; intro wB hAB hbB hsB) | ((with_reducible show wpList _ _ _ _ _ _); refine wpList_alloc_at rfl 25 rfl (fa2 0 0) 2 z25 ?_; intro wC hAC hbC hsC) | ((with_reducible show wpList _ _ _ _ _ _); refine wpList_store_at (P := Tryd.prog) rfl 34 (.tmp 6) (.tmp 42) rfl wA.heap.size (tok5 0 ⟨#[]⟩ 0 0 0) rfl rfl 34 (tok5 0 ⟨#[]⟩ 0 0 0) (hAB.below hbC) i34 rfl (one5 _ _ _ _ _) ?_; intro wD hAD hbD hsD) | ((with_reducible show wpList _ _ _ _ _ _); refine wpList_store_at (P := Tryd.prog) rfl 25 (.tmp 7) (.tmp 43) rfl wB.heap.size (fa2 E p) rfl rfl 25 (fa2 0 0) (hbD.at hAC (by omega)) i25 rfl (one2f _ _) ?_; intro wE hAE hbE hsE; refine Hid.out ?_))
              refine Lib.hid ?_
              have hlt : w2'.heap.size ≤ wA.heap.size := hbA.size
              have hbEw : Below w2'.heap.size w2' wE := hbE.below (hbD.below ((hbA.trans (hbB.mono hbA.size)).trans (hbC.mono (by omega))) (by omega) (by omega)) (by omega) (by omega)
              rw [hsB] at hAE
              have hArE := hAr.below hbEw
              have hbwE := hbw.trans (hbEw.mono hbw.size)
              have hglt : w.heap.size < w2'.heap.size := hAr.lt
              have hS0 : wE.drew.rangeAt (wA.heap.size + 1) 0 (fa2 E p) := by
                have := hAE.range 0 2
                exact this
              have hth : wE.drew.there w.heap.size 0 2 := hArE.there 0 2 (by decide)
              clear hAB hbB hAC hbC hAD hbD hbE hbA hbEw
              go_wp2_with (first | ((with_reducible show wpList _ _ _ _ _ _); refine wpList_load_at (P := Tryd.prog) rfl 25 (.tmp 7) rfl (wA.heap.size + 1) rfl 25 (fa2 E p) hAE _ Tryd.underlying25 rfl i25 ?_) | ((with_reducible show wpList _ _ _ _ _ _); refine wpList_build_at rfl 25 #[] rfl (fa2 0 0) (by kernel_rfl) ?_))
              refine wp_region_held_drew (S := fun w' => w'.rangeAt (wA.heap.size + 1) 0 (fa2 E p)) (by kernel_rfl) hS0 (fun _ => ?_)
              refine wpAnyH_take (i := 0) (oi := { dst := some 47, op := .load 25 (.tmp 7), type := _, pos := _, after := _, guard := none }) rfl (by kernel_rfl) (by kernel_rfl) (by kernel_rfl) (fun _ _ _ h => h) (yieldsIf_load_mid (by rfl) 25 (.tmp 7) rfl (wA.heap.size + 1) 0 rfl (fa2 E p) _ (fun w hSw => hSw) Tryd.underlying25 rfl i25) hS0 ?_
              simp only [Act.put, List.setIfInBounds_toArray, List.set_cons_zero, List.set_cons_succ]
              refine wpAnyH_take (i := 1) (oi := { dst := some 2, op := .assign (.const (.slice none 0 0)), type := _, pos := _, after := _, guard := none }) (v := .slice none 0 0) rfl (by kernel_rfl) (by kernel_rfl) (by kernel_rfl) (fun _ _ _ h => h) (Or.inl ⟨by rfl, ?_⟩) hS0 ?_
              · intro w hSw
                go_simp
              simp only [Act.put, List.setIfInBounds_toArray, List.set_cons_zero, List.set_cons_succ]
              refine wpAnyH_ready (rs := [2]) (by kernel_rfl) (by simp) ?_
              refine AllReadyH.cons (o := { dst := none, op := .store 25 (.tmp 3) (.tmp 47), type := _, pos := _, after := _, guard := none }) rfl (fun K hK => ?_) AllReadyH.nil
              rw [if_pos (by rfl)]
              refine wp_store_mid (P := Tryd.prog) 25 (.tmp 3) (.tmp 47) rfl w.heap.size 0 (fa2 E p).toArray rfl rfl hth i25 (all_oneCell_toArray (one2f E p)) ?_
              refine hK.out _ _ (World.rangeAt_setCells_apart hS0 _ _ _ (.inl (by omega))) (fun _ => ?_)
              refine wpAnyH_done (by kernel_rfl) ?_ _
              have hA9 : At 25 (wE.drew.setCells w.heap.size 0 (fa2 E p)) w.heap.size (fa2 E p) := (((show At 25 wE.drew w.heap.size (fa2 0 0) from hArE).set 0 _).set 1 _)
              have hb9 : But w.heap.size wE (wE.drew.setCells w.heap.size 0 (fa2 E p)) := (((⟨rfl, rfl, rfl, Nat.le_refl _, fun _ _ _ => rfl⟩ : But w.heap.size wE wE.drew).setCell 0 (.int .i64 (E : Int))).setCell 1 (.int .i64 (p : Int)))
              go_wp2
              refine bodyPost_ret (results_tmp_at rfl _ _ w.heap.size 25 (fa2 E p) _ rfl hA9 Tryd.underlying25 rfl i25) rfl ?_
              exact ⟨_, by rw [HO.out], by rw [HO.out]; exact Toks.nil _ _, hb9.below hbwE (Nat.le_refl _) hbwE.size⟩
        · have hr' : Hid ((lexA (bytes s) f (i + 1 + skN ((bytes s).drop (i + 1)))).ahead acc = O) := by show _ = _; rw [← hr.out, sk_blank s i hc hbk]
          clear hr
          go_wp2_with (first | (go_at_call 16; refine (blank_at _ _ true hbk).mono ?_; rintro e w2' ⟨rfl, rfl⟩))
          go_roundw
          case rel => exact ⟨i + 1, f, acc, by go_num, by omega, by omega, by omega, hr', hown, hbl⟩
          case measure => simp [intOf]; omega
      · have hend : Hid (O = ⟨acc, 0, 0⟩) := by
          show _ = _
          rw [← hr.out, lexA_end _ _ _ (by rw [bytes_length]; omega)]
          simp [Out.ahead]
        go_wp2_with (first | ((with_reducible show wpList _ _ _ _ _ _); refine wpList_build_at rfl 25 _ rfl (fa2 0 0) (by kernel_rfl) ?_) | ((with_reducible show wpList _ _ _ _ _ _); refine wpList_store_at (P := Tryd.prog) rfl 25 (.tmp 3) (.tmp 58) rfl w.heap.size (fa2 0 0) rfl rfl 25 (fa2 0 0) hAr i25 rfl (one2f _ _) ?_; intro w9 hA9 hb9 hs9))
        refine bodyPost_ret (results_tmp_at rfl _ _ w.heap.size 25 (fa2 0 0) _ rfl hA9 Tryd.underlying25 rfl i25) rfl ?_
        refine ⟨_, by rw [hend.out], by rw [hend.out]; exact Toks.low (base := w1.heap.size) (hown.keep fun g hg hlt => hb9.block g hlt (by have := hown.block g hg; omega)) (by omega), hb9.below hbw (Nat.le_refl _) hbw.size⟩

end Go.Proofs.YtinofdmdfhklpaaDoor
