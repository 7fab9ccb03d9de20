/- The landed Frame. -/
import Derived.Test.YtbehmclligkbhaaFsE
import Derived.Laws.MakeOwn
namespace Go.Proofs.Ytbehmclligkbhaa
open Go.RowKit
set_option linter.unusedVariables false
set_option maxRecDepth 100000
set_option maxHeartbeats 6400000

theorem wpList_make0 {ops : Array Oper} {rest : List Oper} {o : Oper} {a : Act} {w : World} {Q : Exit → Act → World → Prop} (hgd : o.guard = none) (l c : Operand) (ho : o.op = .makeSlice 22 l c)
    (n : Nat) (hl : a.eval l = .int .i64 0) (hc : a.eval c = .int .i64 (n : Int)) (hb : n ≤ 1048576)
    (h : ∀ w', OwnX eB w.heap.size w' (.slice (some ⟨w.heap.size, 0, none⟩) 0 n) [] → Below w.heap.size w w' → wpList Try.prog ops Q rest (a.put o.dst (.slice (some ⟨w.heap.size, 0, none⟩) 0 n)) w') : wpList Try.prog ops Q (o :: rest) a w := by
  refine wpList_plain hgd fun K hK => ?_
  have hinfo : (Try.prog.info? 5).map (fun i => (i.zero, i.size, i.bytes)) = some (some (.int .u8 0), 1, 1) := by kernel_rfl
  obtain ⟨i, hi, hzz⟩ := Option.map_eq_some_iff.1 hinfo
  simp only [Prod.mk.injEq] at hzz
  obtain ⟨hz, hs, hbb⟩ := hzz
  obtain ⟨w', hr, hO, hg⟩ := run_make_own (P := Try.prog) w w.heap.size 22 5 i (.int .u8 0) 1 Try.underlying22 hi hz hs .i64 .i64 n (by rw [hbb]; omega) (by unfold maxLen; omega) (Nat.le_refl _)
  have hB : Below w.heap.size w w' := (Chg.of_grown (K := fun _ => False) hg (fun k q => by cases q)).below (Nat.le_refl _) (fun k q => q.elim)
  unfold Oper.wp
  simp [execOp, ho, hl, hc, hr, Result.andThen]
  exact hK _ _ (h _ hO hB)
theorem not_n (n : Nat) (h : n < 4294967296) : ∃ M : Nat, Hid (M = 4294967295 - n) ∧ M < 4294967296 ∧ bits .xor .u32 IntKind.u32.max (n : Int) = (M : Int) := by
  refine ⟨4294967295 - n, rfl, by omega, ?_⟩
  refine (not_u32 h).trans ?_
  congr 1
  have := BitVec.toNat_not (x := BitVec.ofNat 32 n)
  rw [BitVec.toNat_ofNat, Nat.mod_eq_of_lt h] at this
  rw [show 4294967295 - n = 2 ^ 32 - 1 - n by omega, ← this]
  have e2 : (BitVec.allOnes 32 ^^^ BitVec.ofNat 32 n).toNat = (~~~ (BitVec.ofNat 32 n)).toNat := by rw [BitVec.allOnes_xor]
  rw [← e2, BitVec.toNat_xor, BitVec.toNat_allOnes, BitVec.toNat_ofNat, Nat.mod_eq_of_lt h]
theorem frame_long (a : Option Addr) (n c : Nat) (w : World) (h : 65536 < n) (hc : n ≤ c) :
    Calls Try.prog 9 #[.slice a n c] w fun r w' => r = .returned (.tuple #[.slice none 0 0, .int .i64 3]) ∧ Below w.heap.size w w' := by
  go_enter Try.func9, Try.ntmps9
  go_wp2
  go_ret2
  exact ⟨rfl, Below.refl _ _⟩
theorem frame_any (a : Option Addr) (n c : Nat) (bs : List UInt8) (w : World) (hr : Row w a bs) (hn : n = bs.length) (hc : n ≤ c) (hz : a = none → c = 0) (hl : n ≤ 65536) :
    Calls Try.prog 9 #[.slice a n c] w fun r w' => ∃ v, r = .returned (.tuple #[v, .int .i64 0]) ∧ OwnX eB w.heap.size w' v (frameL bs) ∧ Below w.heap.size w w' := by
  have HR := hidU hr
  have HN := hidU hn
  have HS : Hid (∀ w, Calls Try.prog 15 #[.int .i64 (n : Int)] w fun r w' => r = .returned (.int .i64 ((n : Int) + 12)) ∧ w' = w) := fun w => by
    have := size_any (n : Int) w
    rwa [show sizeZ (n : Int) = (n : Int) + 12 by unfold sizeZ; rw [if_neg (by omega)]] at this
  obtain ⟨M, hM, hM32, hx⟩ := not_n n (by omega)
  have HT1 := hidU fun w => told_any n (by omega) w
  have HT2 := hidU fun w => told_any M hM32 w
  rw [← hx] at HT2
  obtain ⟨D, hD⟩ : ∃ x, Hid (x = crc bs) := ⟨_, (rfl : crc bs = _)⟩
  have hD32 : D < 4294967296 := by rw [hD.out]; exact crc_lt _
  have HT3 := hidU fun w => told_any D hD32 w
  have hl1 : ∀ k, (bytesOf 4 k).length = 4 := fun k => bytesOf_length 4 k
  have HW : Hid (IntKind.u32.wrap (n : Int) = (n : Int)) := by show _ = _; rw [IntKind.wrap_u32]; omega
  have hw := HW.out
  have HZ := hidU hz
  clear hr hn hM32 hz hx
  go_enter Try.func9, Try.ntmps9
  go_wp2_with (go_at_call 15; refine (HS.out _).mono ?_; rintro _ wz ⟨rfl, rfl⟩; refine Hid.out ?_)
  refine hidU ?_
  clear HS
  go_wp2_with (refine wpList_make0 rfl (.const (.int .i64 0)) (.tmp 14) rfl (n + 12) rfl (by rfl) (by omega) ?_; intro w1 ho1 hb1; refine Hid.out ?_)
  refine hidU ?_
  have HO1 := hidU ho1
  have HB1 := hidU hb1
  clear ho1 hb1
  go_wp2_with (go_at_call 27; refine (HT1.out _).mono ?_; rintro _ wt ⟨vt, rfl, ho, hb⟩; refine Hid.out ?_)
  refine hidU ?_
  have HB1a := hidU (HB1.out.trans (hb.mono HB1.out.size))
  have HO1a := hidU (HO1.out.below hb)
  have HV := hidU (ho.less HB1.out.size)
  clear ho hb HT1 HO1 HB1
  obtain ⟨ra, rc, rfl, hrr, hrc, hrz⟩ := HV.out.rowB
  rw [hl1] at hrc ⊢
  have HVr := hidU hrr
  clear hrr HV
  go_wp2_with (refine wpList_appX eB rfl (.tmp 16) (.tmp 18) rfl _ _ ra 4 rc rfl rfl HO1a.out (hl1 _) hrz hrc (rowB.2 HVr.out) (by simp only [List.length_nil]; unfold maxLen; omega) (by simp only [List.length_nil]; show (_ + 4) * 1 ≤ _; omega) HB1a.out.size ?_; intro v2 w2 ho2 hg2; refine Hid.out ?_)
  refine hidU ?_
  have HO2 := hidU ho2
  have HB2 : Hid (Below _ _ _) := HB1a.out.grown hg2 HB1a.out.size fun k hk => (HO1a.out.block k hk).1
  clear ho2 hg2 HO1a HB1a HVr hrc hrz
  go_wp2_with (go_at_call 27; refine (HT2.out _).mono ?_; rintro _ wt ⟨vt, rfl, ho, hb⟩; refine Hid.out ?_)
  refine hidU ?_
  have HB2a := hidU (HB2.out.trans (hb.mono HB2.out.size))
  have HO2a := hidU (HO2.out.below hb)
  have HV := hidU (ho.less HB2.out.size)
  clear ho hb HT2 HO2 HB2
  obtain ⟨ra, rc, rfl, hrr, hrc, hrz⟩ := HV.out.rowB
  rw [hl1] at hrc ⊢
  have HVr := hidU hrr
  clear hrr HV
  go_wp2_with (refine wpList_appX eB rfl (.tmp 20) (.tmp 23) rfl _ _ ra 4 rc rfl rfl HO2a.out (hl1 _) hrz hrc (rowB.2 HVr.out) (by simp only [List.length_append, List.length_nil, hl1]; unfold maxLen; omega) (by simp only [List.length_append, List.length_nil, hl1]; show (_ + 4) * 1 ≤ _; omega) HB2a.out.size ?_; intro v3 w3 ho3 hg3; refine Hid.out ?_)
  refine hidU ?_
  have HO3 := hidU ho3
  have HB3 : Hid (Below _ _ _) := HB2a.out.grown hg3 HB2a.out.size fun k hk => (HO2a.out.block k hk).1
  clear ho3 hg3 HO2a HB2a HVr hrc hrz
  have HR2 := hidU (HR.out.below HB3.out)
  go_wp2_with (refine wpList_appX eB rfl (.tmp 25) (.tmp 26) rfl _ _ a n c rfl rfl HO3.out HN.out.symm HZ.out hc (rowB.2 HR2.out) (by simp only [List.length_append, List.length_nil, hl1]; unfold maxLen; omega) (by simp only [List.length_append, List.length_nil, hl1]; show (_ + n) * 1 ≤ _; omega) HB3.out.size ?_; intro v4 w4 ho4 hg4; refine Hid.out ?_)
  refine hidU ?_
  have HO4 := hidU ho4
  have HB4 : Hid (Below _ _ _) := HB3.out.grown hg4 HB3.out.size fun k hk => (HO3.out.block k hk).1
  have HC := hidU (check_any a n c bs w4 (HR.out.below HB4.out) HN.out (by omega) hc)
  rw [← hD.out] at HC
  clear ho4 hg4 HO3 HB3 HR2
  go_wp2_with (go_at_call 13; refine HC.out.mono ?_; rintro _ w5 ⟨rfl, rfl⟩; refine Hid.out ?_)
  refine hidU ?_
  clear HC
  go_wp2_with (go_at_call 27; refine (HT3.out _).mono ?_; rintro _ wt ⟨vt, rfl, ho, hb⟩; refine Hid.out ?_)
  refine hidU ?_
  have HB4a := hidU (HB4.out.trans (hb.mono HB4.out.size))
  have HO4a := hidU (HO4.out.below hb)
  have HV := hidU (ho.less HB4.out.size)
  clear ho hb HT3 HO4 HB4
  obtain ⟨ra, rc, rfl, hrr, hrc, hrz⟩ := HV.out.rowB
  rw [hl1] at hrc ⊢
  have HVr := hidU hrr
  clear hrr HV
  go_wp2_with (refine wpList_appX eB rfl (.tmp 28) (.tmp 31) rfl _ _ ra 4 rc rfl rfl HO4a.out (hl1 _) hrz hrc (rowB.2 HVr.out) (by simp only [List.length_append, List.length_nil, hl1, ← HN.out]; unfold maxLen; omega) (by simp only [List.length_append, List.length_nil, hl1, ← HN.out]; show (_ + 4) * 1 ≤ _; omega) HB4a.out.size ?_; intro v5 w5 ho5 hg5; refine Hid.out ?_)
  refine hidU ?_
  have HO5 := hidU ho5
  have HB5 : Hid (Below _ _ _) := HB4a.out.grown hg5 HB4a.out.size fun k hk => (HO4a.out.block k hk).1
  clear ho5 hg5 HO4a HB4a HVr hrc hrz
  go_wp2
  go_ret2
  exact ⟨_, rfl, by
    have h := HO5.out
    rw [List.nil_append, hM.out, hD.out, HN.out, List.append_assoc, List.append_assoc] at h
    exact h, HB5.out⟩
end Go.Proofs.Ytbehmclligkbhaa
