/- Joined texts of the proof. -/
import Derived.Test.YtjgggmjjikopeaaGreatDoorJ9
import Derived.Test.YtjgggmjjikopeaaGreatDoorJ10

/- lex.Lex: the tokens of a text, or its first fault. -/
namespace Go.Proofs.YtjgggmjjikopeaaGreatDoor
open Go.RowKit
set_option linter.unusedVariables false

/-- A fault's two cells. -/
def fa2 (e p : Nat) : List Value := [.int .i64 (e : Int), .int .i64 (p : Int)]
theorem z25 : (Tryz.prog.info? 29).map (fun i => (i.zero, i.size)) = some (some (.agg (fa2 0 0).toArray), 2) := by kernel_rfl
theorem i25 : (Tryz.prog.info? 29).map (·.size) = some 2 := by kernel_rfl
theorem one2f (e p : Nat) : ∀ v ∈ fa2 e p, v.oneCell' = true := by intro v hv; simp [fa2] at hv; rcases hv with rfl | rfl <;> rfl

theorem lexA_place (l : List UInt8) (f p : Nat) : (lexA l f p).err = 0 → (lexA l f p).place = 0 := by
  induction f generalizing p with
  | zero => intro _; rfl
  | succ f ih =>
    simp only [lexA]
    split
    · intro _; rfl
    · split
      · next h => intro h0; exact absurd h0 h
      · split
        · intro h0; simp at h0
        · intro h0
          simp only [Out.ahead] at h0 ⊢
          split
          · rfl
          · next h => rw [if_neg h] at h0; exact absurd h0 h

/-- What Lex answers, and what it leaves. -/
def LexPost (w : World) (O : Out) (e : Ending) (w' : World) : Prop :=
  ∃ v, e = .returned (.tuple #[v, .agg (fa2 O.err O.place).toArray]) ∧ Toks w.heap.size w' v O.toks ∧ Below w.heap.size w w'

theorem clings_at (K : Nat) (s : ByteArray) (k : Nat) (w : World) (b : Bool) (hb : clB K ((bytes s).drop k) = b) : Calls Tryz.prog 53 #[.int .i64 (K : Int), .string (s.extract k s.size)] w fun e w' => e = .returned (.bool b) ∧ w' = w := by
  have := clings_any K (s.extract k s.size) w
  rw [bytes_from, hb] at this
  exact this

theorem cells_tok5 (K : Nat) (s : ByteArray) (k n : Nat) : tok5 K (s.extract k (k + n)) k (valT K) (valB K (((bytes s).drop k).take n)) = (tkOf K (((bytes s).drop k).take n) k).cells := by
  have hbS : bytes (s.extract k (k + n)) = ((bytes s).drop k).take n := by rw [bytes_extract, Nat.add_sub_cancel_left]
  have := mk_bytes (s.extract k (k + n))
  rw [hbS] at this
  simp only [tok5, tkOf, Tk.cells, this]

set_option maxRecDepth 100000 in
set_option maxHeartbeats 1600000 in
theorem lex_any (s : ByteArray) (w : World) (hmax : s.size ≤ 9223372036854775807) (hE : ErrR w) :
    Calls Tryz.prog 22 #[.string s] w fun e w' => LexPost w (lexS (bytes s)) e w' := by
  by_cases hlong : 16384 < s.size
  · have hO : lexS (bytes s) = ⟨[], 3, 16384⟩ := by simp only [lexS, bytes_length, hlong, if_true]
    rw [hO]
    go_enter Tryz.func22, Tryz.ntmps22
    go_wp2_with (first | ((with_reducible show wpList _ _ _ _ _ _); refine wpList_alloc_at rfl 29 rfl (fa2 0 0) 2 z25 ?_; intro w1 hA1 hb1 hs1) | ((with_reducible show wpList _ _ _ _ _ _); refine wpList_build_at rfl 29 _ rfl (fa2 3 16384) (by kernel_rfl) ?_) | ((with_reducible show wpList _ _ _ _ _ _); refine wpList_store_at (P := Tryz.prog) rfl 29 (.tmp 3) (.tmp 11) rfl w.heap.size (fa2 3 16384) rfl rfl 29 (fa2 0 0) hA1 i25 rfl (one2f _ _) ?_; intro w9 hA9 hb9 hs9))
    refine bodyPost_ret (results_tmp_at rfl _ _ w.heap.size 29 (fa2 3 16384) _ rfl hA9 Tryz.underlying29 rfl i25) rfl ?_
    exact ⟨_, rfl, Toks.nil _ _, hb9.below hb1 (Nat.le_refl _) (by omega)⟩
  · obtain ⟨O, hO⟩ : ∃ O, Hid (O = lexS (bytes s)) := ⟨_, (rfl : lexS (bytes s) = _)⟩
    have hO2 : Hid (O = lexA (bytes s) (s.size + 1) (skN (bytes s))) := by show _ = _; rw [hO.out, lexS, bytes_length, if_neg hlong]
    rw [← hO.out]
    have hsk := skF_le false (bytes s)
    rw [bytes_length] at hsk
    have hs16 : s.size ≤ 16384 := by omega
    have hskip0 := fun w => skip_any s 0 w (by omega) (by omega)
    rw [List.drop_zero, Nat.zero_add] at hskip0
    obtain ⟨p0, hp0⟩ : ∃ p0, Hid (p0 = skN (bytes s)) := ⟨_, (rfl : skN (bytes s) = _)⟩
    have hp0le : p0 ≤ s.size := by rw [hp0.out]; exact hsk
    rw [← hp0.out] at hskip0
    have HSK0 : Hid (∀ w, Calls Tryz.prog 51 #[.string s, .int .i64 0] w fun e w' => e = .returned (.int .i64 (p0 : Int)) ∧ w' = w) := hskip0
    clear hskip0 hsk
    go_enter Tryz.func22, Tryz.ntmps22
    go_wp2_with (first | ((with_reducible show wpList _ _ _ _ _ _); refine wpList_alloc_at rfl 29 rfl (fa2 0 0) 2 z25 ?_; intro w1 hA1 hb1 hs1))
    refine (HSK0.out _).mono ?_
    rintro e w1' ⟨rfl, hw1⟩
    rw [hw1]
    clear hw1
    have hE1 : ErrR w1 := hE.below hb1
    go_wp2
    go_loopw [4, 5] (fun v p wr => ∃ (i f : Nat) (acc : List Tk), p = .int .i64 (i : Int) ∧ i ≤ s.size ∧ s.size < f + i ∧ acc.length ≤ i ∧ Hid ((lexA (bytes s) f i).ahead acc = O) ∧ Toks w1.heap.size wr v acc ∧ Below w1.heap.size w1 wr) (fun _ p _ => s.size - (intOf p).toNat)
    case atStart => exact ⟨p0, s.size + 1, [], rfl, hp0le, by omega, by simp, by
      show _ = _
      rw [hO2.out, ← hp0.out]
      refine Out.ahead_nil _ ?_
      exact lexA_place _ _ _, Toks.nil _ _, Below.refl _ _⟩
    case round =>
      obtain ⟨i, f, acc, rfl, hi, hf, hal, hr, hown, hbl⟩ := hrel
      have hEr : ErrR wr := hE1.below hbl
      have hAr : At 29 wr w.heap.size (fa2 0 0) := by
        unfold At; rw [hbl.block w.heap.size (by omega)]; exact hA1
      have hbw : Below w.heap.size w wr := hb1.trans (hbl.mono (by omega))
      by_cases hc : i < s.size
      · obtain ⟨f', rfl⟩ : ∃ f', f = f' + 1 := ⟨f - 1, by omega⟩
        obtain ⟨K, n, hKn⟩ : ∃ K n, endOf ((bytes s).drop i) = (K, n) := ⟨_, _, rfl⟩
        have hbd := endOf_bounds ((bytes s).drop i) (by rw [List.length_drop, bytes_length]; omega)
        rw [hKn, List.length_drop, bytes_length] at hbd
        obtain ⟨hn1, hn2, hKs⟩ := hbd
        simp only [] at hn1 hn2
        clear hKs
        have hle : i + n ≤ s.size := by omega
        have hlA := lexA_err (bytes s) f' i (by rw [bytes_length]; exact hc)
        have hlC := lexA_clings (bytes s) f' i (by rw [bytes_length]; exact hc)
        have hlS := lexA_step (bytes s) f' i (by rw [bytes_length]; exact hc)
        rw [hKn] at hlA hlC hlS
        simp only [] at hlA hlC hlS
        have htok := tokenAt_any s i K n wr hc (by omega) hEr hKn
        unfold TokPost at htok
        rw [cells_tok5] at htok
        have hcl := clings_at K s (i + n)
        have hx5 := cells_tok5 K s i n
        obtain ⟨S, hS⟩ : ∃ S, Hid (S = s.extract i (i + n)) := ⟨_, (rfl : s.extract i (i + n) = _)⟩
        have hSz : S.size = n := by rw [hS.out, ← bytes_length, bytes_extract, Nat.add_sub_cancel_left, List.length_take, List.length_drop, bytes_length]; omega
        obtain ⟨x, hx⟩ : ∃ x, Hid (x = ((bytes s).drop i).take n) := ⟨_, (rfl : ((bytes s).drop i).take n = _)⟩
        rw [← hx.out] at hlA hlC hlS htok hx5
        rw [← hS.out] at hx5
        have HX5 : Hid ((tkOf K x i).cells = tok5 K S i (valT K) (valB K x)) := hx5.symm
        clear hx5 hKn
        by_cases he : errOf K x = 0
        · rw [if_pos he, he, HX5.out] at htok
          obtain ⟨T, hT⟩ : ∃ T, Hid (T = valT K) := ⟨_, (rfl : valT K = _)⟩
          obtain ⟨V, hV⟩ : ∃ V, Hid (V = valB K x) := ⟨_, (rfl : valB K x = _)⟩
          rw [← hT.out, ← hV.out] at htok
          have HX6 : Hid ((tkOf K x i).cells = tok5 K S i T V) := by show _ = _; rw [HX5.out, hT.out, hV.out]
          have HTOK : Hid (Calls Tryz.prog 52 #[.string s, .int .i64 (i : Int)] wr fun e w' => e = .returned (.tuple #[.agg (tok5 K S i T V).toArray, .int .i64 ((0 : Nat) : Int)]) ∧ Below wr.heap.size wr w') := htok
          clear htok hlA
          cases hcb : clB K ((bytes s).drop (i + n))
          · have HO : Hid (O = (lexA (bytes s) f' (i + n + skN ((bytes s).drop (i + n)))).ahead (acc ++ [tkOf K x i])) := by
              show _ = _
              rw [← hr.out, hlS he hcb, Out.ahead_ahead]
            have HCL : Hid (∀ w, Calls Tryz.prog 53 #[.int .i64 (K : Int), .string (s.extract (i + n) s.size)] w fun e w' => e = .returned (.bool false) ∧ w' = w) := fun w => hcl w false hcb
            have hskle := skF_le false ((bytes s).drop (i + n))
            rw [List.length_drop, bytes_length] at hskle
            have hskc := fun w => skip_any s (i + n) w hle (by omega)
            obtain ⟨q0, hq0⟩ : ∃ q0, Hid (q0 = skN ((bytes s).drop (i + n))) := ⟨_, (rfl : skN ((bytes s).drop (i + n)) = _)⟩
            have hq0le : q0 ≤ s.size - (i + n) := by rw [hq0.out]; exact hskle
            rw [← hq0.out] at hskc
            have HSKC : Hid (∀ w, Calls Tryz.prog 51 #[.string s, .int .i64 ((i + n : Nat) : Int)] w fun e w' => e = .returned (.int .i64 ((i + n + q0 : Nat) : Int)) ∧ w' = w) := hskc
            have HO2 : Hid (O = (lexA (bytes s) f' (i + n + q0)).ahead (acc ++ [tkOf K x i])) := by show _ = _; rw [HO.out, hq0.out]
            clear hskc hskle hcl hlC hlS hcb HO hr he
            go_wp2_with fail
            refine (HTOK.out).mono ?_
            rintro e wA ⟨rfl, hbA⟩
            go_wp2_with (first | ((with_reducible show wpList _ _ _ _ _ _); refine wpList_alloc_at rfl 64 rfl (tok5 0 ⟨#[]⟩ 0 0 0) 5 z34 ?_; intro wB hAB hbB hsB) | ((with_reducible show wpList _ _ _ _ _ _); refine wpList_store_at (P := Tryz.prog) rfl 64 (.tmp 6) (.tmp 25) rfl wA.heap.size (tok5 K S i T V) rfl rfl 64 (tok5 0 ⟨#[]⟩ 0 0 0) hAB i34 rfl (one5T _ _ _ _ _) ?_; intro wC hAC hbC hsC; refine Hid.out ?_))
            refine Lib.hid ?_
            have hbCw : Below wr.heap.size wr wC := hbC.below (hbA.trans (hbB.mono hbA.size)) hbA.size (by have := hbA.size; omega)
            have hownC := hown.below hbCw
            have hcell0 : wC.cell? ⟨wA.heap.size, 0, none⟩ = some (.int .i64 (K : Int)) := by rw [hAC.cell]; rfl
            have hcell1 : wC.cell? ⟨wA.heap.size, 1, none⟩ = some (.string S) := by rw [hAC.cell]; rfl
            have hbl2 : Below w1.heap.size w1 wC := hbl.trans (hbCw.mono hbl.size)
            clear hAB hbB hbC hbA hbCw
            go_wp2_with fail
            go_quiet (first | (go_at_call 53; exact Calls.quiet_of_same (HCL.out _)))
            have hszC : w1.heap.size ≤ wC.heap.size := hbl2.size
            go_wp2_with (first | ((with_reducible show wpList _ _ _ _ _ _); refine wpList_load_at (P := Tryz.prog) rfl 64 (.tmp 6) rfl wA.heap.size rfl 64 (tok5 K S i T V) (hAC.drewN _) _ Tryz.underlying64 rfl i34 ?_) | ((with_reducible show wpList _ _ _ _ _ _); refine wpList_slice1 rfl (.tmp 46) rfl K S i T V rfl ?_; intro wD hAD hbD hsD) | ((with_reducible show wpList _ _ _ _ _ _); refine wpList_appT rfl (.tmp 45) (.tmp 47) rfl w1.heap.size wC.heap.size _ acc (tkOf K x i) rfl rfl ((show Toks w1.heap.size (wC.drewN _) u4 acc from hownC).below hbD) (by rw [HX6.out]; exact hAD) (by omega) (by have := hbD.size; exact Nat.le_trans hszC this) ?_; intro v' wE hownE hbE; refine Hid.out ?_))
            refine Lib.hid ?_
            have hbE2 : Below w1.heap.size w1 wE := (hbl2.trans (show Below w1.heap.size wC wD from ⟨hbD.os, hbD.tape, hbD.output, hbD.size, fun k hk => hbD.block k (Nat.lt_of_lt_of_le hk hszC)⟩)).trans hbE
            clear hAD hbD hbE hAC hbl2 hownC
            go_wp2_with (first | (go_at_call 51; refine (HSKC.out _).mono ?_; rintro e wF ⟨rfl, rfl⟩))
            go_roundw
            case rel => exact ⟨i + n + q0, f', acc ++ [tkOf K x i], rfl, by omega, by omega, by simp; omega, HO2.out.symm, hownE, hbE2⟩
            case measure => simp [intOf]; omega
          · have HO : Hid (O = ⟨[], 4, i + n⟩) := by
              show _ = _
              rw [← hr.out, hlC he hcb]
              rfl
            have HCL : Hid (∀ w, Calls Tryz.prog 53 #[.int .i64 (K : Int), .string (s.extract (i + n) s.size)] w fun e w' => e = .returned (.bool true) ∧ w' = w) := fun w => hcl w true hcb
            clear hcl hlC hlS hcb hr he
            go_wp2_with fail
            refine (HTOK.out).mono ?_
            rintro e wA ⟨rfl, hbA⟩
            go_wp2_with (first | ((with_reducible show wpList _ _ _ _ _ _); refine wpList_alloc_at rfl 64 rfl (tok5 0 ⟨#[]⟩ 0 0 0) 5 z34 ?_; intro wB hAB hbB hsB) | ((with_reducible show wpList _ _ _ _ _ _); refine wpList_store_at (P := Tryz.prog) rfl 64 (.tmp 6) (.tmp 25) rfl wA.heap.size (tok5 K S i T V) rfl rfl 64 (tok5 0 ⟨#[]⟩ 0 0 0) hAB i34 rfl (one5T _ _ _ _ _) ?_; intro wC hAC hbC hsC; refine Hid.out ?_))
            refine Lib.hid ?_
            have hbCw : Below wr.heap.size wr wC := hbC.below (hbA.trans (hbB.mono hbA.size)) hbA.size (by have := hbA.size; omega)
            have hcell0 : wC.cell? ⟨wA.heap.size, 0, none⟩ = some (.int .i64 (K : Int)) := by rw [hAC.cell]; rfl
            have hcell1 : wC.cell? ⟨wA.heap.size, 1, none⟩ = some (.string S) := by rw [hAC.cell]; rfl
            have hArC := hAr.below hbCw
            have hbwC := hbw.trans (hbCw.mono hbw.size)
            clear hAB hbB hbC hbA hbCw
            go_wp2_with fail
            go_quiet (first | (go_at_call 53; exact Calls.quiet_of_same (HCL.out _)))
            go_wp2_with (first | ((with_reducible show wpList _ _ _ _ _ _); refine wpList_build_at rfl 29 _ rfl (fa2 4 (i + n)) (by kernel_rfl) ?_) | ((with_reducible show wpList _ _ _ _ _ _); refine wpList_store_at (P := Tryz.prog) rfl 29 (.tmp 3) (.tmp 44) rfl w.heap.size (fa2 4 (i + n)) rfl rfl 29 (fa2 0 0) (hArC.drewN _) i25 rfl (one2f _ _) ?_; intro w9 hA9 hb9 hs9))
            refine bodyPost_ret (results_tmp_at rfl _ _ w.heap.size 29 (fa2 4 (i + n)) _ rfl hA9 Tryz.underlying29 rfl i25) rfl ?_
            exact ⟨_, by rw [HO.out], by rw [HO.out]; exact Toks.nil _ _, (show But w.heap.size wC w9 from ⟨hb9.os, hb9.tape, hb9.output, hb9.size, hb9.block⟩).below hbwC (Nat.le_refl _) hbwC.size⟩
        · have HO : Hid (O = ⟨[], errOf K x, i⟩) := by
            show _ = _
            rw [← hr.out, hlA he, Out.ahead, if_neg he]
          obtain ⟨E, hEE⟩ : ∃ E, Hid (E = errOf K x) := ⟨_, (rfl : errOf K x = _)⟩
          rw [if_neg he] at htok
          rw [← hEE.out] at htok he
          have HO2 : Hid (O = ⟨[], E, i⟩) := by show _ = _; rw [HO.out, hEE.out]
          have HTOK : Hid (Calls Tryz.prog 52 #[.string s, .int .i64 (i : Int)] wr fun e w' => e = .returned (.tuple #[.agg (tok5 0 ⟨#[]⟩ 0 0 0).toArray, .int .i64 (E : Int)]) ∧ Below wr.heap.size wr w') := htok
          have hne : ((E : Int) != 0) = true := by simp; omega
          clear htok hlA hlC hlS hcl hr HO
          go_wp2_with fail
          refine (HTOK.out).mono ?_
          rintro e wA ⟨rfl, hbA⟩
          go_wp2_with (first | ((with_reducible show wpList _ _ _ _ _ _); refine wpList_alloc_at rfl 64 rfl (tok5 0 ⟨#[]⟩ 0 0 0) 5 z34 ?_; intro wB hAB hbB hsB) | ((with_reducible show wpList _ _ _ _ _ _); refine wpList_store_at (P := Tryz.prog) rfl 64 (.tmp 6) (.tmp 25) rfl wA.heap.size (tok5 0 ⟨#[]⟩ 0 0 0) rfl rfl 64 (tok5 0 ⟨#[]⟩ 0 0 0) hAB i34 rfl (one5T _ _ _ _ _) ?_; intro wC hAC hbC hsC; refine Hid.out ?_))
          refine Lib.hid ?_
          have hbCw : Below wr.heap.size wr wC := hbC.below (hbA.trans (hbB.mono hbA.size)) hbA.size (by have := hbA.size; omega)
          have hArC := hAr.below hbCw
          have hbwC := hbw.trans (hbCw.mono hbw.size)
          clear hAB hbB hbC hbA hbCw
          go_wp2_with (first | ((with_reducible show wpList _ _ _ _ _ _); refine wpList_build_at rfl 29 _ rfl (fa2 E i) (by kernel_rfl) ?_) | ((with_reducible show wpList _ _ _ _ _ _); refine wpList_store_at (P := Tryz.prog) rfl 29 (.tmp 3) (.tmp 31) rfl w.heap.size (fa2 E i) rfl rfl 29 (fa2 0 0) hArC i25 rfl (one2f _ _) ?_; intro w9 hA9 hb9 hs9))
          refine bodyPost_ret (results_tmp_at rfl _ _ w.heap.size 29 (fa2 E i) _ rfl hA9 Tryz.underlying29 rfl i25) rfl ?_
          exact ⟨_, by rw [HO2.out], by rw [HO2.out]; exact Toks.nil _ _, hb9.below hbwC (Nat.le_refl _) hbwC.size⟩
      · have hend : Hid (O = ⟨acc, 0, 0⟩) := by
          show _ = _
          rw [← hr.out, lexA_end _ _ _ (by rw [bytes_length]; omega)]
          simp [Out.ahead]
        go_wp2_with (first | ((with_reducible show wpList _ _ _ _ _ _); refine wpList_build_at rfl 29 _ rfl (fa2 0 0) (by kernel_rfl) ?_) | ((with_reducible show wpList _ _ _ _ _ _); refine wpList_store_at (P := Tryz.prog) rfl 29 (.tmp 3) (.tmp 50) rfl w.heap.size (fa2 0 0) rfl rfl 29 (fa2 0 0) hAr i25 rfl (one2f _ _) ?_; intro w9 hA9 hb9 hs9))
        refine bodyPost_ret (results_tmp_at rfl _ _ w.heap.size 29 (fa2 0 0) _ rfl hA9 Tryz.underlying29 rfl i25) rfl ?_
        refine ⟨_, by rw [hend.out], by rw [hend.out]; exact Toks.low (base := w1.heap.size) (hown.keep fun g hg hlt => hb9.block g hlt (by have := hown.block g hg; omega)) (by omega), hb9.below hbw (Nat.le_refl _) hbw.size⟩

end Go.Proofs.YtjgggmjjikopeaaGreatDoor
