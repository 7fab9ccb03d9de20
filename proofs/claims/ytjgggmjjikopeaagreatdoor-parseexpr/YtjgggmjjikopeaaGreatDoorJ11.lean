/- Joined texts of the proof. -/
import Derived.Test.YtjgggmjjikopeaaGreatDoorJ10
import Derived.Test.YtjgggmjjikopeaaGreatDoorJ7
import Derived.Test.YtjgggmjjikopeaaGreatDoorJ8
import Derived.WalkLawsBesides

/- The document's own Lex: the tokens of a text, or its first fault. -/
namespace Go.Proofs.YtjgggmjjikopeaaGreatDoor
open Go.RowKit
set_option linter.unusedVariables false

theorem run_eq25 (e p e' p' : Nat) (u : World) : (Op.equalIn 10000 29 (.agg (fa2 e p).toArray) (.agg (fa2 e' p').toArray)).run Tryz.prog u = .ok (decide (e = e') && decide (p = p')) u := by
  unfold fa2
  by_cases h1 : e = e'
  · by_cases h2 : p = p'
    · subst h1 h2
      go_simp
    · have hp : ((p : Int) == (p' : Int)) = false := by rw [beq_eq_false_iff_ne]; omega
      subst h1
      simp only [h2, decide_false, Bool.and_false]
      go_simp
  · have he : ((e : Int) == (e' : Int)) = false := by rw [beq_eq_false_iff_ne]; omega
    simp only [h1, decide_false, Bool.false_and]
    go_simp

theorem lnN_yes (s : ByteArray) (j : Nat) (h : j < s.size) (hc : ¬ s[j].toNat = 10) : lnN ((bytes s).drop j) = lnN ((bytes s).drop (j + 1)) + 1 := by
  rw [drop_at s j h]; simp only [lnN, hc, if_false]
theorem lnN_no (s : ByteArray) (j : Nat) (h : j < s.size) (hc : s[j].toNat = 10) : lnN ((bytes s).drop j) = 0 := by
  rw [drop_at s j h]; simp only [lnN, hc, if_true]
theorem lnN_end (s : ByteArray) (j : Nat) (h : ¬ j < s.size) : lnN ((bytes s).drop j) = 0 := by
  rw [drop_end s j h]; rfl

theorem blank_35 (w : World) : Calls Tryz.prog 61 #[.int .u8 35] w fun e w' => e = .returned (.bool false) ∧ w' = w := blank_at 35 w false rfl

set_option maxRecDepth 100000 in
set_option maxHeartbeats 1600000 in
theorem refLex_any (s : ByteArray) (w : World) (hmax : s.size ≤ 9223372036854775807) :
    Calls Tryz.prog 28 #[.string s] w fun e w' => LexPost w (lexS (bytes s)) e w' := by
  by_cases hlong : 16384 < s.size
  · have hO : lexS (bytes s) = ⟨[], 3, 16384⟩ := by simp only [lexS, bytes_length, hlong, if_true]
    rw [hO]
    go_enter Tryz.func28, Tryz.ntmps28
    go_wp2_with (first | ((with_reducible show wpList _ _ _ _ _ _); refine wpList_alloc_at rfl 29 rfl (fa2 0 0) 2 z25 ?_; intro w1 hA1 hb1 hs1) | ((with_reducible show wpList _ _ _ _ _ _); refine wpList_build_at rfl 29 _ rfl (fa2 3 16384) (by kernel_rfl) ?_) | ((with_reducible show wpList _ _ _ _ _ _); refine wpList_store_at (P := Tryz.prog) rfl 29 (.tmp 3) (.tmp 11) rfl w.heap.size (fa2 3 16384) rfl rfl 29 (fa2 0 0) hA1 i25 rfl (one2f _ _) ?_; intro w9 hA9 hb9 hs9))
    refine bodyPost_ret (results_tmp_at rfl _ _ w.heap.size 29 (fa2 3 16384) _ rfl hA9 Tryz.underlying29 rfl i25) rfl ?_
    exact ⟨_, rfl, Toks.nil _ _, hb9.below hb1 (Nat.le_refl _) (by omega)⟩
  · obtain ⟨O, hO⟩ : ∃ O, Hid (O = lexS (bytes s)) := ⟨_, (rfl : lexS (bytes s) = _)⟩
    have hO2 : Hid (O = lexA (bytes s) (s.size + 1) (0 + skN ((bytes s).drop 0))) := by show _ = _; rw [hO.out, lexS, bytes_length, if_neg hlong, List.drop_zero, Nat.zero_add]
    rw [← hO.out]
    have hs16 : s.size ≤ 16384 := by omega
    go_enter Tryz.func28, Tryz.ntmps28
    go_wp2_with (first | ((with_reducible show wpList _ _ _ _ _ _); refine wpList_alloc_at rfl 29 rfl (fa2 0 0) 2 z25 ?_; intro w1 hA1 hb1 hs1))
    go_loopw [4, 5] (fun v p wr => ∃ (i f : Nat) (acc : List Tk), p = .int .i64 (i : Int) ∧ i ≤ s.size ∧ s.size < f + i ∧ acc.length ≤ i ∧ Hid ((lexA (bytes s) f (i + skN ((bytes s).drop i))).ahead acc = O) ∧ Toks w1.heap.size wr v acc ∧ Below w1.heap.size w1 wr) (fun _ p _ => s.size - (intOf p).toNat)
    case atStart => exact ⟨0, s.size + 1, [], rfl, by omega, by omega, by simp, by
      show _ = _
      rw [hO2.out]
      refine Out.ahead_nil _ ?_
      exact lexA_place _ _ _, Toks.nil _ _, Below.refl _ _⟩
    case round =>
      obtain ⟨i, f, acc, rfl, hi, hf, hal, hr, hown, hbl⟩ := hrel
      have hAr : At 29 wr w.heap.size (fa2 0 0) := by
        unfold At; rw [hbl.block w.heap.size (by omega)]; exact hA1
      have hbw : Below w.heap.size w wr := hb1.trans (hbl.mono (by omega))
      by_cases hc : i < s.size
      · cases hbk : isBl s[i].toNat
        · by_cases hn : s[i].toNat = 35
          · have hkey := sk_note s i hc hn
            have hle := lnN_le ((bytes s).drop i)
            rw [List.length_drop, bytes_length] at hle
            have hpos : 1 ≤ lnN ((bytes s).drop i) := by rw [drop_at s i hc]; simp [lnN, hn]
            obtain ⟨T, hT⟩ : ∃ T, Hid (T = i + lnN ((bytes s).drop i)) := ⟨_, (rfl : i + lnN ((bytes s).drop i) = _)⟩
            have hTle : i + 1 ≤ T ∧ T ≤ s.size := by rw [hT.out]; omega
            have hr' : Hid ((lexA (bytes s) f (T + skN ((bytes s).drop T))).ahead acc = O) := by
              show _ = _
              rw [← hr.out, hkey, hT.out]
            have hn' : (s[i].toNat : Int) = 35 := by omega
            clear hkey hle hpos hr
            go_wp2_with (first | (go_at_call 61; refine (blank_35 _).mono ?_; rintro e w2' ⟨rfl, rfl⟩))
            go_loopw [5] (fun p wq => ∃ j : Nat, p = .int .i64 (j : Int) ∧ i ≤ j ∧ j ≤ s.size ∧ Hid (j + lnN ((bytes s).drop j) = T) ∧ wq = w2') (fun p _ => s.size - (intOf p).toNat)
            case atStart => exact ⟨i, rfl, by omega, by omega, hT.out.symm, rfl⟩
            case round =>
              obtain ⟨j, rfl, hj1, hj2, hj3, rfl⟩ := hrel
              by_cases hcj : j < s.size
              · by_cases h10 : s[j].toNat = 10
                · have hfin : Hid (j = T) := by show _ = _; have := hj3.out; rw [lnN_no s j hcj h10] at this; omega
                  have h10' : ((s[j].toNat : Int) != 10) = false := by simp; omega
                  clear hj3
                  go_wp2
                  go_roundw
                  case rel => exact ⟨j, f, acc, rfl, by omega, by omega, by omega, by rw [hfin.out]; exact hr', hown, hbl⟩
                  case measure => have := hfin.out; simp [intOf]; omega
                · have hj3' : Hid (j + 1 + lnN ((bytes s).drop (j + 1)) = T) := by show _ = _; have := hj3.out; rw [lnN_yes s j hcj h10] at this; omega
                  have h10' : ((s[j].toNat : Int) != 10) = true := by simp; omega
                  clear hj3
                  go_wp2
                  go_roundw
                  case rel => exact ⟨j + 1, by go_num, by omega, by omega, hj3', trivial⟩
                  case measure => simp [intOf]; omega
              · have hfin : Hid (j = T) := by show _ = _; have := hj3.out; rw [lnN_end s j hcj] at this; omega
                clear hj3
                go_wp2
                go_roundw
                case rel => exact ⟨j, f, acc, rfl, by omega, by omega, by omega, by rw [hfin.out]; exact hr', hown, hbl⟩
                case measure => have := hfin.out; simp [intOf]; omega
          · have hz := sk_none s i hc hbk hn
            rw [hz, Nat.add_zero] at hr
            have hn' : ((s[i].toNat : Int) == 35) = false := by rw [beq_eq_false_iff_ne]; omega
            clear hz
            obtain ⟨f', rfl⟩ : ∃ f', f = f' + 1 := ⟨f - 1, by omega⟩
            obtain ⟨K, n, hKn⟩ : ∃ K n, endOf ((bytes s).drop i) = (K, n) := ⟨_, _, rfl⟩
            have hbd := endOf_bounds ((bytes s).drop i) (by rw [List.length_drop, bytes_length]; omega)
            rw [hKn, List.length_drop, bytes_length] at hbd
            obtain ⟨hn1, hn2, hKs⟩ := hbd
            simp only [] at hn1 hn2
            clear hKs
            have hle : i + n ≤ s.size := by omega
            have hlA := lexA_err (bytes s) f' i (by rw [bytes_length]; exact hc)
            have hlC := lexA_clings (bytes s) f' i (by rw [bytes_length]; exact hc)
            have hlS := lexA_step (bytes s) f' i (by rw [bytes_length]; exact hc)
            rw [hKn] at hlA hlC hlS
            simp only [] at hlA hlC hlS
            have htok := one_any s i K n wr hc (by omega) hKn
            unfold oneTok oneFa at htok
            have hx5 := cells_tok5 K s i n
            obtain ⟨S, hS⟩ : ∃ S, Hid (S = s.extract i (i + n)) := ⟨_, (rfl : s.extract i (i + n) = _)⟩
            have hSz : S.size = n := by rw [hS.out, ← bytes_length, bytes_extract, Nat.add_sub_cancel_left, List.length_take, List.length_drop, bytes_length]; omega
            obtain ⟨x, hx⟩ : ∃ x, Hid (x = ((bytes s).drop i).take n) := ⟨_, (rfl : ((bytes s).drop i).take n = _)⟩
            rw [← hx.out] at hlA hlC hlS htok hx5
            rw [← hS.out] at hx5 htok
            have HX5 : Hid ((tkOf K x i).cells = tok5 K S i (valT K) (valB K x)) := hx5.symm
            clear hx5 hKn
            by_cases hgood : errOf K x = 0 ∧ clB K ((bytes s).drop (i + n)) = false
            · obtain ⟨he, hcb⟩ := hgood
              rw [if_pos ⟨he, hcb⟩, if_neg (by rw [he]; simp), if_neg (by rw [hcb]; simp)] at htok
              obtain ⟨Tv, hTv⟩ : ∃ T, Hid (T = valT K) := ⟨_, (rfl : valT K = _)⟩
              obtain ⟨V, hV⟩ : ∃ V, Hid (V = valB K x) := ⟨_, (rfl : valB K x = _)⟩
              rw [← hTv.out, ← hV.out] at htok
              have HX6 : Hid ((tkOf K x i).cells = tok5 K S i Tv V) := by show _ = _; rw [HX5.out, hTv.out, hV.out]
              have HTOK : Hid (Calls Tryz.prog 62 #[.string s, .int .i64 (i : Int)] wr fun e w' => e = .returned (.tuple #[.agg (tok5 K S i Tv V).toArray, .agg (fa2 0 0).toArray]) ∧ Below wr.heap.size wr w') := htok
              have HO : Hid (O = (lexA (bytes s) f' (i + n + skN ((bytes s).drop (i + n)))).ahead (acc ++ [tkOf K x i])) := by
                show _ = _
                rw [← hr.out, hlS he hcb, Out.ahead_ahead]
              have hq := run_eq25 0 0 0 0
              simp only [decide_true, Bool.and_true] at hq
              clear htok hlA hlC hlS hr he hcb
              go_wp2_with (first | (go_at_call 61; refine (blank_at _ _ false hbk).mono ?_; rintro e w2' ⟨rfl, rfl⟩))
              refine (HTOK.out).mono ?_
              rintro e wA ⟨rfl, hbA⟩
              go_wp2_with (first | ((with_reducible show wpList _ _ _ _ _ _); refine wpList_alloc_at rfl 64 rfl (tok5 0 ⟨#[]⟩ 0 0 0) 5 z34 ?_; intro wB hAB hbB hsB) | ((with_reducible show wpList _ _ _ _ _ _); refine wpList_alloc_at rfl 29 rfl (fa2 0 0) 2 z25 ?_; intro wC hAC hbC hsC) | ((with_reducible show wpList _ _ _ _ _ _); refine wpList_store_at (P := Tryz.prog) rfl 64 (.tmp 6) (.tmp 42) rfl wA.heap.size (tok5 K S i Tv V) rfl rfl 64 (tok5 0 ⟨#[]⟩ 0 0 0) (hAB.below hbC) i34 rfl (one5T _ _ _ _ _) ?_; intro wD hAD hbD hsD) | ((with_reducible show wpList _ _ _ _ _ _); refine wpList_store_at (P := Tryz.prog) rfl 29 (.tmp 7) (.tmp 43) rfl wB.heap.size (fa2 0 0) rfl rfl 29 (fa2 0 0) (hbD.at hAC (by omega)) i25 rfl (one2f _ _) ?_; intro wE hAE hbE hsE; refine Hid.out ?_))
              refine Lib.hid ?_
              have hlt : w2'.heap.size ≤ wA.heap.size := hbA.size
              rw [hsB] at hAE
              have hbEw : Below w2'.heap.size w2' wE := hbE.below (hbD.below ((hbA.trans (hbB.mono hbA.size)).trans (hbC.mono (by omega))) (by omega) (by omega)) (by omega) (by omega)
              have hownE := hown.below hbEw
              have hAtE : At 64 wE wA.heap.size (tok5 K S i Tv V) := hbE.at hAD (by omega)
              have hcell1 : wE.cell? ⟨wA.heap.size, 1, none⟩ = some (.string S) := by rw [hAtE.cell]; rfl
              have hbl2 : Below w1.heap.size w1 wE := hbl.trans (hbEw.mono hbl.size)
              have hszE : w1.heap.size ≤ wE.heap.size := hbl2.size
              clear hAB hbB hAC hbC hAD hbD hbE hbA hbEw
              go_wp2_with (first | ((with_reducible show wpList _ _ _ _ _ _); refine wpList_load_at (P := Tryz.prog) rfl 29 (.tmp 7) rfl (wA.heap.size + 1) rfl 29 (fa2 0 0) hAE _ Tryz.underlying29 rfl i25 ?_) | ((with_reducible show wpList _ _ _ _ _ _); refine wpList_build_at rfl 29 #[] rfl (fa2 0 0) (by kernel_rfl) ?_) | ((with_reducible show wpList _ _ _ _ _ _); refine wpList_load_at (P := Tryz.prog) rfl 64 (.tmp 6) rfl wA.heap.size rfl 64 (tok5 K S i Tv V) hAtE _ Tryz.underlying64 rfl i34 ?_) | ((with_reducible show wpList _ _ _ _ _ _); refine wpList_slice1 rfl (.tmp 49) rfl K S i Tv V rfl ?_; intro wF hAF hbF hsF) | ((with_reducible show wpList _ _ _ _ _ _); refine wpList_appT2 rfl (.tmp 48) (.tmp 50) rfl w1.heap.size wE.heap.size _ acc (tkOf K x i) rfl rfl (hownE.below hbF) (by rw [HX6.out]; exact hAF) (by omega) (Nat.le_trans hszE hbF.size) ?_; intro v' wG hownG hbG hgr; refine Hid.out ?_))
              refine Lib.hid ?_
              have hbG2 : Below w1.heap.size w1 wG := (hbl2.trans (hbF.mono hszE)).trans hbG
              have hcellG : wG.cell? ⟨wA.heap.size, 1, none⟩ = some (.string S) := by
                have hlt2 := hown.blockLt
                have h1 : wF.cell? ⟨wA.heap.size, 1, none⟩ = some (.string S) := by rw [hbF.cell hAtE.lt]; exact hcell1
                rw [World.cell?_of_block (w := wF) (hgr.block wA.heap.size (Nat.lt_of_lt_of_le hAtE.lt hbF.size) (fun e => by have := hlt2 _ e.symm; omega))]
                exact h1
              clear hAF hbF hbG hbl2 hownE hcell1
              go_wp2
              go_roundw
              case rel => exact ⟨i + n, f', acc ++ [tkOf K x i], by go_num, by omega, by omega, by simp; omega, HO.out.symm, hownG, hbG2⟩
              case measure => simp [intOf]; omega
            · have hkey : ∃ E p : Nat, E ≠ 0 ∧ (if errOf K x ≠ 0 then fa2 (errOf K x) i else if clB K ((bytes s).drop (i + n)) = true then fa2 4 (i + n) else fa2 0 0) = fa2 E p ∧ O = ⟨[], E, p⟩ := by
                by_cases he : errOf K x = 0
                · have hcb : clB K ((bytes s).drop (i + n)) = true := by
                    cases h : clB K ((bytes s).drop (i + n))
                    · exact absurd ⟨he, h⟩ hgood
                    · rfl
                  refine ⟨4, i + n, by decide, by rw [if_neg (by rw [he]; simp), if_pos hcb], ?_⟩
                  rw [← hr.out, hlC he hcb]
                  rfl
                · refine ⟨errOf K x, i, he, by rw [if_pos he], ?_⟩
                  rw [← hr.out, hlA he, Out.ahead, if_neg he]
              obtain ⟨E, p, hE0, hfa, hOE⟩ := hkey
              rw [if_neg hgood, hfa] at htok
              have HO : Hid (O = ⟨[], E, p⟩) := hOE
              have HTOK : Hid (Calls Tryz.prog 62 #[.string s, .int .i64 (i : Int)] wr fun e w' => e = .returned (.tuple #[.agg (tok5 0 ⟨#[]⟩ 0 0 0).toArray, .agg (fa2 E p).toArray]) ∧ Below wr.heap.size wr w') := htok
              have hq := run_eq25 E p 0 0
              simp only [hE0, decide_false, Bool.false_and] at hq
              clear htok hlA hlC hlS hr hfa hOE hgood
              go_wp2_with (first | (go_at_call 61; refine (blank_at _ _ false hbk).mono ?_; rintro e w2' ⟨rfl, rfl⟩))
              refine (HTOK.out).mono ?_
              rintro e wA ⟨rfl, hbA⟩
              go_wp2_with (first | ((with_reducible show wpList _ _ _ _ _ _); refine wpList_alloc_at rfl 64 rfl (tok5 0 ⟨#[]⟩ 0 0 0) 5 z34 ?_; intro wB hAB hbB hsB) | ((with_reducible show wpList _ _ _ _ _ _); refine wpList_alloc_at rfl 29 rfl (fa2 0 0) 2 z25 ?_; intro wC hAC hbC hsC) | ((with_reducible show wpList _ _ _ _ _ _); refine wpList_store_at (P := Tryz.prog) rfl 64 (.tmp 6) (.tmp 42) rfl wA.heap.size (tok5 0 ⟨#[]⟩ 0 0 0) rfl rfl 64 (tok5 0 ⟨#[]⟩ 0 0 0) (hAB.below hbC) i34 rfl (one5T _ _ _ _ _) ?_; intro wD hAD hbD hsD) | ((with_reducible show wpList _ _ _ _ _ _); refine wpList_store_at (P := Tryz.prog) rfl 29 (.tmp 7) (.tmp 43) rfl wB.heap.size (fa2 E p) rfl rfl 29 (fa2 0 0) (hbD.at hAC (by omega)) i25 rfl (one2f _ _) ?_; intro wE hAE hbE hsE; refine Hid.out ?_))
              refine Lib.hid ?_
              have hlt : w2'.heap.size ≤ wA.heap.size := hbA.size
              have hbEw : Below w2'.heap.size w2' wE := hbE.below (hbD.below ((hbA.trans (hbB.mono hbA.size)).trans (hbC.mono (by omega))) (by omega) (by omega)) (by omega) (by omega)
              rw [hsB] at hAE
              have hArE := hAr.below hbEw
              have hbwE := hbw.trans (hbEw.mono hbw.size)
              have hglt : w.heap.size < w2'.heap.size := hAr.lt
              have hS0 : wE.drew.rangeAt (wA.heap.size + 1) 0 (fa2 E p) := by
                have := hAE.range 0 2
                exact this
              have hth : wE.drew.there w.heap.size 0 2 := hArE.there 0 2 (by decide)
              clear hAB hbB hAC hbC hAD hbD hbE hbA hbEw
              go_wp2_with (first | ((with_reducible show wpList _ _ _ _ _ _); refine wpList_load_at (P := Tryz.prog) rfl 29 (.tmp 7) rfl (wA.heap.size + 1) rfl 29 (fa2 E p) hAE _ Tryz.underlying29 rfl i25 ?_) | ((with_reducible show wpList _ _ _ _ _ _); refine wpList_build_at rfl 29 #[] rfl (fa2 0 0) (by kernel_rfl) ?_))
              refine wp_region_held_drew (S := fun w' => w'.rangeAt (wA.heap.size + 1) 0 (fa2 E p)) (by kernel_rfl) hS0 (fun _ => ?_)
              refine wpAnyH_take (i := 0) (oi := { dst := some 47, op := .load 29 (.tmp 7), type := _, pos := _, after := _, guard := none }) rfl (by kernel_rfl) (by kernel_rfl) (by kernel_rfl) (fun _ _ _ h => h) (yieldsIf_load_mid (by rfl) 29 (.tmp 7) rfl (wA.heap.size + 1) 0 rfl (fa2 E p) _ (fun w hSw => hSw) Tryz.underlying29 rfl i25) hS0 ?_
              simp only [Act.put, List.setIfInBounds_toArray, List.set_cons_zero, List.set_cons_succ]
              refine wpAnyH_take (i := 1) (oi := { dst := some 2, op := .assign (.const (.slice none 0 0)), type := _, pos := _, after := _, guard := none }) (v := .slice none 0 0) rfl (by kernel_rfl) (by kernel_rfl) (by kernel_rfl) (fun _ _ _ h => h) (Or.inl ⟨by rfl, ?_⟩) hS0 ?_
              · intro w hSw
                go_simp
              simp only [Act.put, List.setIfInBounds_toArray, List.set_cons_zero, List.set_cons_succ]
              refine wpAnyH_ready (rs := [2]) (by kernel_rfl) (by simp) ?_
              refine AllReadyH.cons (o := { dst := none, op := .store 29 (.tmp 3) (.tmp 47), type := _, pos := _, after := _, guard := none }) rfl (fun K hK => ?_) AllReadyH.nil
              rw [if_pos (by rfl)]
              refine wp_store_mid (P := Tryz.prog) 29 (.tmp 3) (.tmp 47) rfl w.heap.size 0 (fa2 E p).toArray rfl rfl hth i25 (all_oneCell_toArray (one2f E p)) ?_
              refine hK.out _ _ (World.rangeAt_setCells_apart hS0 _ _ _ (.inl (by omega))) (fun _ => ?_)
              refine wpAnyH_done (by kernel_rfl) ?_ _
              have hA9 : At 29 (wE.drew.setCells w.heap.size 0 (fa2 E p)) w.heap.size (fa2 E p) := (((show At 29 wE.drew w.heap.size (fa2 0 0) from hArE).set 0 _).set 1 _)
              have hb9 : But w.heap.size wE (wE.drew.setCells w.heap.size 0 (fa2 E p)) := (((⟨rfl, rfl, rfl, Nat.le_refl _, fun _ _ _ => rfl⟩ : But w.heap.size wE wE.drew).setCell 0 (.int .i64 (E : Int))).setCell 1 (.int .i64 (p : Int)))
              go_wp2
              refine bodyPost_ret (results_tmp_at rfl _ _ w.heap.size 29 (fa2 E p) _ rfl hA9 Tryz.underlying29 rfl i25) rfl ?_
              exact ⟨_, by rw [HO.out], by rw [HO.out]; exact Toks.nil _ _, hb9.below hbwE (Nat.le_refl _) hbwE.size⟩
        · have hr' : Hid ((lexA (bytes s) f (i + 1 + skN ((bytes s).drop (i + 1)))).ahead acc = O) := by show _ = _; rw [← hr.out, sk_blank s i hc hbk]
          clear hr
          go_wp2_with (first | (go_at_call 61; refine (blank_at _ _ true hbk).mono ?_; rintro e w2' ⟨rfl, rfl⟩))
          go_roundw
          case rel => exact ⟨i + 1, f, acc, by go_num, by omega, by omega, by omega, hr', hown, hbl⟩
          case measure => simp [intOf]; omega
      · have hend : Hid (O = ⟨acc, 0, 0⟩) := by
          show _ = _
          rw [← hr.out, lexA_end _ _ _ (by rw [bytes_length]; omega)]
          simp [Out.ahead]
        go_wp2_with (first | ((with_reducible show wpList _ _ _ _ _ _); refine wpList_build_at rfl 29 _ rfl (fa2 0 0) (by kernel_rfl) ?_) | ((with_reducible show wpList _ _ _ _ _ _); refine wpList_store_at (P := Tryz.prog) rfl 29 (.tmp 3) (.tmp 58) rfl w.heap.size (fa2 0 0) rfl rfl 29 (fa2 0 0) hAr i25 rfl (one2f _ _) ?_; intro w9 hA9 hb9 hs9))
        refine bodyPost_ret (results_tmp_at rfl _ _ w.heap.size 29 (fa2 0 0) _ rfl hA9 Tryz.underlying29 rfl i25) rfl ?_
        refine ⟨_, by rw [hend.out], by rw [hend.out]; exact Toks.low (base := w1.heap.size) (hown.keep fun g hg hlt => hb9.block g hlt (by have := hown.block g hg; omega)) (by omega), hb9.below hbw (Nat.le_refl _) hbw.size⟩

end Go.Proofs.YtjgggmjjikopeaaGreatDoor

/- The reader: its next token. -/
namespace Go.Proofs.YtjgggmjjikopeaaGreatDoor
open Go.RowKit
set_option linter.unusedVariables false

/-- The last token is the one without bytes. -/
def Ends (l : List Tk) : Prop := ∃ pre p, l = pre ++ [⟨0, [], p, 0⟩]
theorem Ends.ne {l : List Tk} (h : Ends l) : l ≠ [] := by
  obtain ⟨pre, p, rfl⟩ := h
  simp
theorem Ends.cons {l : List Tk} (h : Ends l) : l = hdT l :: l.tail := by
  cases l with
  | nil => exact absurd rfl h.ne
  | cons t r => rfl
theorem Ends.tail {l : List Tk} (h : Ends l) (hn : (hdT l).text ≠ [] ∨ (hdT l).kind ≠ 0) : Ends l.tail := by
  obtain ⟨pre, p, rfl⟩ := h
  cases pre with
  | nil => exact absurd hn (by simp [hdT])
  | cons t r => exact ⟨r, p, rfl⟩

/-- A reader lies in a block, its tokens in another one. -/
structure RdAt (w : World) (g gt o c : Nat) (l : List Tk) : Prop where
  cell : At 97 w g [.slice (some ⟨gt, o, none⟩) l.length c]
  ne : gt ≠ g
  cap : l.length ≤ c
  toks : w.rangeAt gt o (flat l)
  ends : Ends l
  bits : ∀ t ∈ l, t.bits < 18446744073709551616
/-- A reader, and the tokens that it has ahead. -/
def Rd (B : Nat) (w : World) (g : Nat) (l : List Tk) : Prop := ∃ gt o c, RdAt w g gt o c l ∧ gt < B ∧ g < B

theorem flat_cons (t : Tk) (r : List Tk) : flat (t :: r) = t.cells ++ flat r := rfl
theorem cells_lt {w : World} {g o : Nat} {v : Value} (h : w.cell? ⟨g, o, none⟩ = some v) : g < w.heap.size := lt_of_cell h
theorem RdAt.head {w : World} {g gt o c : Nat} {l : List Tk} (h : RdAt w g gt o c l) : w.rangeAt gt o (hdT l).cells := by
  intro j v hj
  refine h.toks j v ?_
  rw [h.ends.cons, flat_cons, List.getElem?_append_left (List.getElem?_eq_some_iff.1 hj).1]
  exact hj
theorem RdAt.gt_lt {w : World} {g gt o c : Nat} {l : List Tk} (h : RdAt w g gt o c l) : gt < w.heap.size := cells_lt (h.head 0 _ rfl)
theorem RdAt.g_lt {w : World} {g gt o c : Nat} {l : List Tk} (h : RdAt w g gt o c l) : g < w.heap.size := h.cell.lt
theorem Rd.lt {B : Nat} {w : World} {g : Nat} {l : List Tk} (h : Rd B w g l) : g < w.heap.size := by
  obtain ⟨_, _, _, h, _⟩ := h
  exact h.g_lt
theorem RdAt.below {w w' : World} {g gt o c : Nat} {l : List Tk} (h : RdAt w g gt o c l) (hb : Below w.heap.size w w') : RdAt w' g gt o c l :=
  ⟨h.cell.below hb, h.ne, h.cap, fun j v hj => by rw [World.cell?_of_block (w := w) (hb.block gt h.gt_lt)]; exact h.toks j v hj, h.ends, h.bits⟩
theorem Rd.below {B : Nat} {w w' : World} {g : Nat} {l : List Tk} (h : Rd B w g l) (hb : Below w.heap.size w w') : Rd B w' g l := by
  obtain ⟨gt, o, c, h, h2⟩ := h
  exact ⟨gt, o, c, h.below hb, h2⟩
/-- Another block is written. -/
theorem RdAt.but {w w' : World} {g gt o c k : Nat} {l : List Tk} (h : RdAt w g gt o c l) (hb : But k w w') (h1 : g ≠ k) (h2 : gt ≠ k) : RdAt w' g gt o c l :=
  ⟨hb.at h.cell h1, h.ne, h.cap, fun j v hj => by rw [World.cell?_of_block (w := w) (hb.block gt h.gt_lt h2)]; exact h.toks j v hj, h.ends, h.bits⟩

/-- A block from B on is written. -/
theorem Rd.but {B : Nat} {w w' : World} {g k : Nat} {l : List Tk} (h : Rd B w g l) (hb : But k w w') (hk : B ≤ k) : Rd B w' g l := by
  obtain ⟨gt, o, c, h, h1, h2⟩ := h
  exact ⟨gt, o, c, h.but hb (by omega) (by omega), h1, h2⟩

theorem tk_cells {w : World} {g o : Nat} {t : Tk} (h : w.rangeAt g o t.cells) : w.cell? ⟨g, o, none⟩ = some (.int .i64 (t.kind : Int)) ∧ w.cell? ⟨g, o + 1, none⟩ = some (.string ⟨t.text.toArray⟩) ∧ w.cell? ⟨g, o + 2, none⟩ = some (.int .i64 (t.place : Int)) ∧ w.cell? ⟨g, o + 3, none⟩ = some (.int .u8 (valT t.kind : Nat)) ∧ w.cell? ⟨g, o + 4, none⟩ = some (.int .u64 (t.bits : Nat)) :=
  ⟨h 0 _ rfl, h 1 _ rfl, h 2 _ rfl, h 3 _ rfl, h 4 _ rfl⟩

set_option maxRecDepth 100000 in
set_option maxHeartbeats 3200000 in
theorem next_any {B : Nat} (g : Nat) (l : List Tk) (w : World) (h : Rd B w g l) :
    Calls Tryz.prog 92 #[.pointer (some ⟨g, 0, none⟩)] w fun r w' => r = .returned (.agg (hdT l).cells.toArray) ∧ Below w.heap.size w w' := by
  obtain ⟨gt, o, c, h, _⟩ := h
  obtain ⟨q0, q1, q2, q3, q4⟩ := tk_cells h.head
  have hl : l.length = l.tail.length + 1 := by rw [h.ends.cons]; rfl
  have hc := h.cell.cell 0
  have hlt := h.gt_lt
  have hlg := h.g_lt
  generalize hdT l = t at q0 q1 q2 q3 q4 ⊢
  generalize l.tail.length = m at hl
  rw [hl] at hc
  clear h hl
  show Calls Tryz.prog 92 #[.pointer (some ⟨g, 0, none⟩)] w fun r w' => r = .returned (.agg (tok5 t.kind ⟨t.text.toArray⟩ t.place (valT t.kind) t.bits).toArray) ∧ Below w.heap.size w w'
  obtain ⟨K, T, p, b⟩ := t
  generalize valT K = vt at *
  have hc : w.cell? ⟨g, 0, none⟩ = some (.slice (some ⟨gt, o, none⟩) (m + 1) c) := hc
  dsimp only at q0 q1 q2 q3 q4 ⊢
  go_enter Tryz.func92, Tryz.ntmps92
  go_wp2_with (first
    | ((with_reducible show wpList _ _ _ _ _ _); refine wpList_alloc_at rfl 64 rfl (tok5 0 ⟨#[]⟩ 0 0 0) 5 z34 ?_; intro w1 hA1 hb1 hs1; rw [← hb1.cell hlt] at q0 q1 q2 q3 q4; rw [← hb1.cell hlg] at hc)
    | ((with_reducible show wpList _ _ _ _ _ _); refine wpList_store_at (P := Tryz.prog) rfl 64 (.tmp 2) (.tmp 8) rfl w.heap.size (tok5 K ⟨T.toArray⟩ p vt b) rfl rfl 64 (tok5 0 ⟨#[]⟩ 0 0 0) hA1 i34 rfl (one5T _ _ _ _ _) ?_; intro w9 hA9 hb9 hs9))
  refine bodyPost_ret (results_at rfl _ _ w.heap.size 64 (tok5 K ⟨T.toArray⟩ p vt b) _ rfl hA9 Tryz.underlying64 rfl i34) rfl ?_
  exact ⟨rfl, hb9.below hb1 (Nat.le_refl _) (by omega)⟩

theorem i60 : (Tryz.prog.info? 60).map (·.size) = some 1 := by kernel_rfl
theorem run_slice_one (w : World) (gt o m c : Nat) (hm : m + 1 ≤ c) (h1 : 1 ≤ m) : (Instr.slice 60 (.slice (some ⟨gt, o, none⟩) (m + 1) c) (some (.int .i64 1)) none none).run Tryz.prog w = .ok (.slice (some ⟨gt, o + 5, none⟩) m (c - 1)) w := by
  simp [go_sem, Instr.slice]
  rw [if_pos (by omega), if_neg (by omega)]

set_option maxRecDepth 100000 in
set_option maxHeartbeats 3200000 in
theorem take_any {B : Nat} (g : Nat) (l : List Tk) (w : World) (h : Rd B w g l) (hn : (hdT l).text ≠ [] ∨ (hdT l).kind ≠ 0) :
    Calls Tryz.prog 93 #[.pointer (some ⟨g, 0, none⟩)] w fun r w' => r = .returned (.tuple #[]) ∧ Rd B w' g l.tail ∧ But g w w' := by
  obtain ⟨gt, o, c, h, hB⟩ := h
  have hl : l.length = l.tail.length + 1 := by rw [h.ends.cons]; rfl
  have hc := h.cell.cell 0
  have HA : Hid (At 97 w g [.slice (some ⟨gt, o, none⟩) l.length c]) := h.cell
  have hcap := h.cap
  have hm1 : 1 ≤ l.tail.length := List.length_pos_iff.2 (h.ends.tail hn).ne
  have HG : Hid (∀ w', At 97 w' g [.slice (some ⟨gt, o + 5, none⟩) l.tail.length (c - 1)] → But g w w' → Rd B w' g l.tail) := fun w' h1 h2 =>
    ⟨gt, o + 5, c - 1, ⟨h1, h.ne, by have := h.cap; omega, fun j v hj => by
      rw [World.cell?_of_block (w := w) (h2.block gt h.gt_lt h.ne)]
      have := h.toks (j + 5) v (by
        rw [h.ends.cons, flat_cons, List.getElem?_append_right (by show 5 ≤ j + 5; omega)]
        exact hj)
      rw [show o + 5 + j = o + (j + 5) by omega]
      exact this, h.ends.tail hn, fun t ht => h.bits t (List.mem_of_mem_tail ht)⟩, hB⟩
  generalize l.tail.length = m at hl HG hm1
  rw [hl] at hc hcap HA
  clear h hl
  have hc : w.cell? ⟨g, 0, none⟩ = some (.slice (some ⟨gt, o, none⟩) (m + 1) c) := hc
  have hS := fun w => run_slice_one w gt o m c hcap hm1
  go_enter Tryz.func93, Tryz.ntmps93
  go_wp2_with (first
    | ((with_reducible show wpList _ _ _ _ _ _); refine wpList_store_one (P := Tryz.prog) rfl 60 (.tmp 9) (.tmp 7) rfl g 0 (.slice (some ⟨gt, o + 5, none⟩) m (c - 1)) rfl rfl 97 _ HA.out (show 0 + 1 ≤ 1 by decide) i60 rfl rfl ?_; intro w6 hA6 hb6 hs6; refine Hid.out ?_))
  refine hidU ?_
  have hR := HG.out w6 hA6 hb6
  clear HG hA6 HA hS hc hcap
  go_wp2
  go_end0
  exact ⟨rfl, hR, hb6⟩

end Go.Proofs.YtjgggmjjikopeaaGreatDoor

/- The reader: a word or sign that is next. -/
namespace Go.Proofs.YtjgggmjjikopeaaGreatDoor
open Go.RowKit
set_option linter.unusedVariables false

/-- How a fault leaves. -/
def PanW (e p : Nat) : Ending := .panicked [{ v := .iface 29 (.agg #[.int .i64 (e : Int), .int .i64 (p : Int)]), recovered := false }]

theorem refuse_any (e p : Nat) (w : World) : Calls Tryz.prog 54 #[.int .i64 (e : Int), .int .i64 (p : Int)] w fun r w' => r = PanW e p ∧ w' = w := by
  go_enter Tryz.func54, Tryz.ntmps54
  go_wp2
  exact ⟨rfl, rfl, rfl⟩

theorem field_text (K : Int) (S : ByteArray) (p t b : Int) (w : World) : (Instr.field 64 (.agg #[.int .i64 K, .string S, .int .i64 p, .int .u8 t, .int .u64 b]) 1).run Tryz.prog w = .ok (.string S) w := by kernel_rfl
theorem field_place (K : Int) (S : ByteArray) (p t b : Int) (w : World) : (Instr.field 64 (.agg #[.int .i64 K, .string S, .int .i64 p, .int .u8 t, .int .u64 b]) 2).run Tryz.prog w = .ok (.int .i64 p) w := by kernel_rfl

set_option maxRecDepth 100000 in
set_option maxHeartbeats 3200000 in
theorem refuseNext_any {B : Nat} (g : Nat) (l : List Tk) (w : World) (h : Rd B w g l) :
    Calls Tryz.prog 60 #[.pointer (some ⟨g, 0, none⟩)] w fun r w' => r = PanW 4 (hdT l).place ∧ Below w.heap.size w w' := by
  have hN := next_any g l w h
  generalize hdT l = t at hN ⊢
  obtain ⟨K, T, p, b⟩ := t
  have hN : Calls Tryz.prog 92 #[.pointer (some ⟨g, 0, none⟩)] w fun r w' => r = .returned (.agg #[.int .i64 (K : Int), .string ⟨T.toArray⟩, .int .i64 (p : Int), .int .u8 (valT K : Nat), .int .u64 (b : Nat)]) ∧ Below w.heap.size w w' := hN
  clear h
  have hf := fun w => field_place K ⟨T.toArray⟩ p (valT K : Nat) b w
  go_enter Tryz.func60, Tryz.ntmps60
  go_wp2_with (first
    | (go_at_call 92; refine hN.mono ?_; rintro r w1 ⟨rfl, hb1⟩)
    | (go_at_call 54; refine (refuse_any 4 p _).mono ?_; rintro r w2 ⟨hr, rfl⟩; unfold PanW at hr; subst hr))
  exact ⟨rfl, rfl, hb1⟩

set_option maxRecDepth 100000 in
set_option maxHeartbeats 3200000 in
theorem takes_any {B : Nat} (g : Nat) (l : List Tk) (x : ByteArray) (hx : bytes x ≠ []) (w : World) (h : Rd B w g l) :
    Calls Tryz.prog 55 #[.pointer (some ⟨g, 0, none⟩), .string x] w fun r w' => r = .returned (.bool (decide ((hdT l).text = bytes x))) ∧ Rd B w' g (if (hdT l).text = bytes x then l.tail else l) ∧ But g w w' := by
  have hN := next_any g l w h
  have HT := fun w (h : Rd B w g l) hn => take_any g l w h hn
  by_cases hc : (hdT l).text = bytes x
  · rw [if_pos hc, decide_eq_true hc]
    have HT : Hid (∀ u, Below w.heap.size w u → Calls Tryz.prog 93 #[.pointer (some ⟨g, 0, none⟩)] u fun r w' => r = .returned (.tuple #[]) ∧ Rd B w' g l.tail ∧ But g u w') := fun u hu => HT u (h.below hu) (.inl (by rw [hc]; exact hx))
    have hs : ((hdT l).text == x.toList) = true := by rw [toList_bytes, beq_iff_eq]; exact hc
    clear hc hx
    generalize hdT l = t at hN hs
    obtain ⟨K, T, p, b⟩ := t
    have hN : Calls Tryz.prog 92 #[.pointer (some ⟨g, 0, none⟩)] w fun r w' => r = .returned (.agg #[.int .i64 (K : Int), .string ⟨T.toArray⟩, .int .i64 (p : Int), .int .u8 (valT K : Nat), .int .u64 (b : Nat)]) ∧ Below w.heap.size w w' := hN
    dsimp only at hs
    have hf := fun w => field_text K ⟨T.toArray⟩ p (valT K : Nat) b w
    go_enter Tryz.func55, Tryz.ntmps55
    go_wp2_with (first
      | (go_at_call 92; refine hN.mono ?_; rintro r w1 ⟨rfl, hb1⟩)
      | (go_at_call 93; refine (HT.out _ hb1).mono ?_; rintro r w2 ⟨rfl, hR, hb2⟩))
    go_ret
    exact ⟨rfl, hR, (But.of_below hb1).trans hb2⟩
  · rw [if_neg hc, decide_eq_false hc]
    have HR : Hid (∀ u, Below w.heap.size w u → Rd B u g l) := fun u hu => h.below hu
    have hs : ((hdT l).text == x.toList) = false := by rw [toList_bytes, beq_eq_false_iff_ne]; exact hc
    clear hc hx HT
    generalize hdT l = t at hN hs
    obtain ⟨K, T, p, b⟩ := t
    have hN : Calls Tryz.prog 92 #[.pointer (some ⟨g, 0, none⟩)] w fun r w' => r = .returned (.agg #[.int .i64 (K : Int), .string ⟨T.toArray⟩, .int .i64 (p : Int), .int .u8 (valT K : Nat), .int .u64 (b : Nat)]) ∧ Below w.heap.size w w' := hN
    dsimp only at hs
    have hf := fun w => field_text K ⟨T.toArray⟩ p (valT K : Nat) b w
    go_enter Tryz.func55, Tryz.ntmps55
    go_wp2_with (first
      | (go_at_call 92; refine hN.mono ?_; rintro r w1 ⟨rfl, hb1⟩))
    go_ret
    exact ⟨rfl, HR.out _ hb1, But.of_below hb1⟩

/-- What 'must' tells. -/
def PostU (B g : Nat) (w : World) (R : Rs Unit) (r : Ending) (w' : World) : Prop :=
  match R with
  | .ok _ l => r = .returned (.tuple #[]) ∧ Rd B w' g l ∧ But g w w'
  | .bad e p => r = PanW e p ∧ But g w w'

set_option maxRecDepth 100000 in
set_option maxHeartbeats 3200000 in
theorem must_any {B : Nat} (g : Nat) (l : List Tk) (x : ByteArray) (hx : bytes x ≠ []) (w : World) (h : Rd B w g l) :
    Calls Tryz.prog 58 #[.pointer (some ⟨g, 0, none⟩), .string x] w fun r w' => PostU B g w (mustR (bytes x) l) r w' := by
  have hT := takes_any g l x hx w h
  by_cases hc : (hdT l).text = bytes x
  · have hm : mustR (bytes x) l = .ok () l.tail := by unfold mustR; rw [if_pos hc]
    rw [hm]
    rw [if_pos hc, decide_eq_true hc] at hT
    clear hc hx h hm
    go_enter Tryz.func58, Tryz.ntmps58
    go_wp2_with (first
      | (go_at_call 55; refine hT.mono ?_; rintro r w1 ⟨rfl, hR, hb1⟩))
    go_end0
    exact ⟨rfl, hR, hb1⟩
  · have hm : mustR (bytes x) l = .bad 4 (hdT l).place := by unfold mustR; rw [if_neg hc]
    rw [hm]
    rw [if_neg hc, decide_eq_false hc] at hT
    have HN : Hid (∀ u, Rd B u g l → Calls Tryz.prog 60 #[.pointer (some ⟨g, 0, none⟩)] u fun r w' => r = PanW 4 (hdT l).place ∧ Below u.heap.size u w') := fun u hu => refuseNext_any g l u hu
    clear hc hx h hm
    generalize (hdT l).place = p at HN ⊢
    go_enter Tryz.func58, Tryz.ntmps58
    go_wp2_with (first
      | (go_at_call 55; refine hT.mono ?_; rintro r w1 ⟨rfl, hR, hb1⟩)
      | (go_at_call 60; refine (HN.out _ hR).mono ?_; rintro r w2 ⟨hr, hb2⟩; unfold PanW at hr; subst hr))
    exact ⟨rfl, rfl, hb1.trans (But.of_below hb2)⟩

/-- What 'name' tells. -/
def PostN (B g : Nat) (w : World) (R : Rs (List UInt8)) (r : Ending) (w' : World) : Prop :=
  match R with
  | .ok x l => r = .returned (.string ⟨x.toArray⟩) ∧ Rd B w' g l ∧ But g w w'
  | .bad e p => r = PanW e p ∧ But g w w'
/-- A name. -/
def nameR (l : List Tk) : Rs (List UInt8) := if isNm (hdT l).text then .ok (hdT l).text l.tail else .bad 4 (hdT l).place
theorem nm_ne {x : List UInt8} (h : isNm x = true) : x ≠ [] := by
  rintro rfl
  exact absurd h (by decide)

set_option maxRecDepth 100000 in
set_option maxHeartbeats 3200000 in
theorem readName_any {B : Nat} (g : Nat) (l : List Tk) (w : World) (h : Rd B w g l) :
    Calls Tryz.prog 57 #[.pointer (some ⟨g, 0, none⟩)] w fun r w' => PostN B g w (nameR l) r w' := by
  have hN := next_any g l w h
  cases hc : isNm (hdT l).text with
  | true =>
    have hm : nameR l = .ok (hdT l).text l.tail := by unfold nameR; rw [if_pos hc]
    rw [hm]
    have HT : Hid (∀ u, Below w.heap.size w u → Calls Tryz.prog 93 #[.pointer (some ⟨g, 0, none⟩)] u fun r w' => r = .returned (.tuple #[]) ∧ Rd B w' g l.tail ∧ But g u w') := fun u hu => take_any g l u (h.below hu) (.inl (nm_ne hc))
    have hM := fun w => name_any ⟨(hdT l).text.toArray⟩ w
    have e : isNm (bytes ⟨(hdT l).text.toArray⟩) = true := hc
    rw [e] at hM
    clear hc hm h e
    generalize hdT l = t at hN hM ⊢
    obtain ⟨K, T, p, b⟩ := t
    have hN : Calls Tryz.prog 92 #[.pointer (some ⟨g, 0, none⟩)] w fun r w' => r = .returned (.agg #[.int .i64 (K : Int), .string ⟨T.toArray⟩, .int .i64 (p : Int), .int .u8 (valT K : Nat), .int .u64 (b : Nat)]) ∧ Below w.heap.size w w' := hN
    dsimp only at hM ⊢
    have hf := fun w => field_text K ⟨T.toArray⟩ p (valT K : Nat) b w
    go_enter Tryz.func57, Tryz.ntmps57
    go_wp2_with (first
      | (go_at_call 92; refine hN.mono ?_; rintro r w1 ⟨rfl, hb1⟩)
      | (go_at_call 77; refine (hM _).mono ?_; rintro r w2 ⟨rfl, rfl⟩)
      | (go_at_call 93; refine (HT.out _ hb1).mono ?_; rintro r w3 ⟨rfl, hR, hb3⟩))
    go_ret
    exact ⟨rfl, hR, (But.of_below hb1).trans hb3⟩
  | false =>
    have hm : nameR l = .bad 4 (hdT l).place := by unfold nameR; rw [if_neg (by rw [hc]; decide)]
    rw [hm]
    have HN : Hid (∀ u, Below w.heap.size w u → Calls Tryz.prog 60 #[.pointer (some ⟨g, 0, none⟩)] u fun r w' => r = PanW 4 (hdT l).place ∧ Below u.heap.size u w') := fun u hu => refuseNext_any g l u (h.below hu)
    have hM := fun w => name_any ⟨(hdT l).text.toArray⟩ w
    have e : isNm (bytes ⟨(hdT l).text.toArray⟩) = false := hc
    rw [e] at hM
    clear hc hm h e
    generalize hdT l = t at hN hM HN ⊢
    obtain ⟨K, T, p, b⟩ := t
    have hN : Calls Tryz.prog 92 #[.pointer (some ⟨g, 0, none⟩)] w fun r w' => r = .returned (.agg #[.int .i64 (K : Int), .string ⟨T.toArray⟩, .int .i64 (p : Int), .int .u8 (valT K : Nat), .int .u64 (b : Nat)]) ∧ Below w.heap.size w w' := hN
    dsimp only at hM HN ⊢
    have hf := fun w => field_text K ⟨T.toArray⟩ p (valT K : Nat) b w
    go_enter Tryz.func57, Tryz.ntmps57
    go_wp2_with (first
      | (go_at_call 92; refine hN.mono ?_; rintro r w1 ⟨rfl, hb1⟩)
      | (go_at_call 77; refine (hM _).mono ?_; rintro r w2 ⟨rfl, rfl⟩)
      | (go_at_call 60; refine (HN.out _ hb1).mono ?_; rintro r w3 ⟨hr, hb3⟩; unfold PanW at hr; subst hr))
    exact ⟨rfl, rfl, (But.of_below hb1).trans (But.of_below hb3)⟩

end Go.Proofs.YtjgggmjjikopeaaGreatDoor
