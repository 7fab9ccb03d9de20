/- Joined texts of the proof. -/
import Derived.Test.YtjgggmjjikopeaaGreatDoorJ8
import Derived.Test.YtjgggmjjikopeaaGreatDoorJ5
import Derived.Test.YtjgggmjjikopeaaGreatDoorJ6
import Derived.Maps.AppendAt

/- What strconv.ParseInt answers at digits. -/
namespace Go.Proofs.YtjgggmjjikopeaaGreatDoor

/-- Digits alone. -/
def allDg (l : List UInt8) : Prop := ∀ c ∈ l, 48 ≤ c.toNat ∧ c.toNat ≤ 57

/-- A digit more. -/
def dstep (n : Nat) (c : UInt8) : Nat := n * 10 + (c.toNat - 48)

/-- Digits read on from a number. -/
def fo (acc : Nat) (l : List UInt8) : Nat := l.foldl dstep acc

theorem fo_nil (acc : Nat) : fo acc [] = acc := rfl
theorem fo_cons (acc : Nat) (c : UInt8) (r : List UInt8) : fo acc (c :: r) = fo (dstep acc c) r := List.foldl_cons ..
theorem fo_val (l : List UInt8) : fo 0 l = decVal l := rfl

theorem fo_ge (l : List UInt8) : ∀ acc : Nat, acc ≤ fo acc l := by
  induction l with
  | nil => intro acc; exact Nat.le_refl _
  | cons c r ih => intro acc; rw [fo_cons]; exact Nat.le_trans (by unfold dstep; omega) (ih (dstep acc c))

theorem um_nil (M acc : Nat) : Lib.parseUintM M acc [] = .ok acc := by simp only [Lib.parseUintM]
theorem um_cons (M acc : Nat) (c : UInt8) (r : List UInt8) (hc : 48 ≤ c.toNat ∧ c.toNat ≤ 57) : Lib.parseUintM M acc (c :: r) = if 1844674407370955162 ≤ acc then .range else if M < dstep acc c then .range else Lib.parseUintM M (dstep acc c) r := by
  have hd : dstep acc c = acc * 10 + (c.toNat - 48) := rfl
  rw [hd]
  simp only [Lib.parseUintM, hc.1, hc.2, and_self, if_true]

theorem uint_digits (M : Nat) (hM : 9 + 1844674407370955161 * 10 ≥ M) (l : List UInt8) (h : allDg l) : ∀ acc : Nat, acc ≤ M →
    (fo acc l ≤ M ∧ Lib.parseUintM M acc l = .ok (fo acc l)) ∨ (M < fo acc l ∧ Lib.parseUintM M acc l = .range) := by
  induction l with
  | nil => intro acc ha; left; rw [fo_nil, um_nil]; exact ⟨ha, rfl⟩
  | cons c r ih =>
    intro acc ha
    have hc := h c List.mem_cons_self
    have hr : allDg r := fun d hd => h d (List.mem_cons_of_mem _ hd)
    have hge := fo_ge r (dstep acc c)
    have hds : dstep acc c = acc * 10 + (c.toNat - 48) := rfl
    rw [um_cons M acc c r hc, fo_cons]
    by_cases h1 : 1844674407370955162 ≤ acc
    · rw [if_pos h1]; right; exact ⟨by omega, rfl⟩
    · rw [if_neg h1]
      by_cases h2 : M < dstep acc c
      · rw [if_pos h2]; right; exact ⟨by omega, rfl⟩
      · rw [if_neg h2]; exact ih hr _ (by omega)

theorem int_digits (l : List UInt8) (h : allDg l) (hp : 0 < l.length) :
    Lib.parseIntB 64 l = if decVal l ≤ 9223372036854775807 then .ok (decVal l : Int) else .range := by
  match l, hp with
  | c :: r, _ =>
    have hc := h c List.mem_cons_self
    have h43 : ¬ (c.toNat = 43 ∨ c.toNat = 45) := by omega
    have h45 : ¬ c.toNat = 45 := by omega
    obtain ⟨M, hM⟩ : ∃ M : Nat, M = 18446744073709551615 := ⟨_, rfl⟩
    have hu := uint_digits M (by omega) (c :: r) h 0 (by omega)
    have hv : fo 0 (c :: r) = decVal (c :: r) := fo_val _
    rw [hv] at hu
    simp only [Lib.parseIntB, Lib.parseUintB, if_neg h43, show (2 ^ 64 - 1 : Nat) = M from hM.symm, reduceCtorEq, if_false]
    generalize decVal (c :: r) = V at hu ⊢
    rcases hu with ⟨h1, hu⟩ | ⟨h1, hu⟩
    · rw [hu]
      simp only [h45, not_false_eq_true, true_and, false_and, if_false, show (2 ^ (64 - 1) : Nat) = 9223372036854775808 from rfl]
      by_cases h2 : V ≤ 9223372036854775807
      · rw [if_pos h2, if_neg (by omega)]
      · rw [if_neg h2, if_pos (by omega)]
    · rw [hu, if_neg (by omega)]

/-- Digits may be a number, if no nought is ahead and they are not too many. -/
theorem good_iff (l : List UInt8) (h : allDg l) (hp : 0 < l.length) : GoodDec l ↔ ((l.getD 0 0).toNat = 48 → l.length = 1) ∧ decVal l ≤ 9223372036854775807 := by
  constructor
  · intro g; exact ⟨g.2.1, g.2.2.2⟩
  · rintro ⟨h1, h2⟩
    refine ⟨hp, h1, ?_, h2⟩
    intro j hj
    have : l.getD j 0 ∈ l := by simp [List.getD, List.getElem?_eq_getElem hj]
    exact h _ this

theorem nm_take (r : List UInt8) (h : (nmN r).1 = 2) : allDg (r.take (nmN r).2) := by
  induction r with
  | nil => intro c hc; simp [nmN] at hc
  | cons d q ih =>
    simp only [nmN] at h ⊢
    split at h
    · simp at h
    · next h0 =>
      rw [if_neg h0]
      split at h
      · next hd =>
        rw [if_pos hd]
        intro c hc
        simp only [List.take_succ_cons] at hc
        rcases List.mem_cons.1 hc with rfl | hc
        · simpa [isDig] using hd
        · exact ih h c hc
      · next hd => rw [if_neg hd]; intro c hc; simp at hc

/-- A number's bytes are digits. -/
theorem end_digits (l : List UInt8) (h : (endOf l).1 = 2) : allDg (l.take (endOf l).2) := by
  match l with
  | [] => intro c hc; simp at hc
  | d :: r =>
    simp only [endOf] at h ⊢
    split at h
    · simp at h
    · next h0 =>
      rw [if_neg h0]
      split at h
      · next hd =>
        rw [if_pos hd]
        intro c hc
        simp only [List.take_succ_cons] at hc
        rcases List.mem_cons.1 hc with rfl | hc
        · simpa [isDig] using hd
        · exact nm_take r h c hc
      · simp at h

end Go.Proofs.YtjgggmjjikopeaaGreatDoor

/- lex.number, lex.point, lex.clings, strings.Clone. -/
namespace Go.Proofs.YtjgggmjjikopeaaGreatDoor
open Go.RowKit
set_option linter.unusedVariables false

/-- The library's error is laid. -/
def ErrR (w : World) : Prop := ∃ ev, w.cell? ⟨2, 0, none⟩ = some ev ∧ (ev = .nilIface ∨ ∃ te pe, ev = .iface te pe)

theorem ErrR.below {w w' : World} (h : ErrR w) (hb : Below w.heap.size w w') : ErrR w' := by
  obtain ⟨ev, h1, h2⟩ := h
  exact ⟨ev, by rw [hb.cell (lt_of_cell h1)]; exact h1, h2⟩

theorem results_at_tmp {P : Program} {fn : Func} {p u : Tmp} {ty : TypeId} (h : fn.results = #[.cell p ty, .tmp u]) (tmps : Array Value) (w : World) (g : Nat) (t : TypeId) (cs : List Value) (d : TypeDesc)
    (hp : tmps.getD p undef = .pointer (some ⟨g, 0, none⟩)) (hg : At t w g cs)
    (hu : P.underlying ty = some d) (hd : (match d with | .struct _ | .array _ _ => true | _ => false) = true) (hi : (P.info? ty).map (·.size) = some cs.length) :
    (results fn tmps).run P w = .ok (.tuple #[.agg cs.toArray, tmps.getD u undef]) w := by
  have hp' : tmps[p]?.getD undef = .pointer (some ⟨g, 0, none⟩) := by simpa using hp
  have hl := run_loadVar_row (P := P) w g t ty cs.toArray (0, 0) d hg hu hd (by simpa using hi)
  simp [results, h, hp', asAddr, hl]

theorem results_tmp_at {P : Program} {fn : Func} {p u : Tmp} {ty : TypeId} (h : fn.results = #[.tmp u, .cell p ty]) (tmps : Array Value) (w : World) (g : Nat) (t : TypeId) (cs : List Value) (d : TypeDesc)
    (hp : tmps.getD p undef = .pointer (some ⟨g, 0, none⟩)) (hg : At t w g cs)
    (hu : P.underlying ty = some d) (hd : (match d with | .struct _ | .array _ _ => true | _ => false) = true) (hi : (P.info? ty).map (·.size) = some cs.length) :
    (results fn tmps).run P w = .ok (.tuple #[tmps.getD u undef, .agg cs.toArray]) w := by
  have hp' : tmps[p]?.getD undef = .pointer (some ⟨g, 0, none⟩) := by simpa using hp
  have hl := run_loadVar_row (P := P) w g t ty cs.toArray (0, 0) d hg hu hd (by simpa using hi)
  simp [results, h, hp', asAddr, hl]

/-- A value's two cells. -/
def val2 (t b : Nat) : List Value := [.int .u8 (t : Int), .int .u64 (b : Int)]
theorem z32 : (Tryz.prog.info? 40).map (fun i => (i.zero, i.size)) = some (some (.agg (val2 0 0).toArray), 2) := by kernel_rfl
theorem i32 : (Tryz.prog.info? 40).map (·.size) = some 2 := by kernel_rfl
theorem one2 (t b : Nat) : ∀ v ∈ val2 t b, v.oneCell' = true := by intro v hv; simp [val2] at hv; rcases hv with rfl | rfl <;> rfl

theorem clone_any (s : ByteArray) (w : World) (hlim : s.size ≤ 1099511627776) : Calls Tryz.prog 87 #[.string s] w fun e w' => e = .returned (.string s) ∧ Below w.heap.size w w' := by
  go_enter Tryz.func87, Tryz.ntmps87
  go_wp2_with fail
  refine (Tryz.stringslite_Clone s _ (by omega)).mono ?_
  rintro e w1 ⟨rfl, hb⟩
  go_wp2
  go_ret
  exact ⟨rfl, hb⟩

theorem clings_any (K : Nat) (s : ByteArray) (w : World) : Calls Tryz.prog 53 #[.int .i64 (K : Int), .string s] w fun e w' => e = .returned (.bool (clB K (bytes s))) ∧ w' = w := by
  by_cases h0 : s.size = 0
  · have he := is_empty h0
    have hn : bytes s = [] := List.eq_nil_of_length_eq_zero (by rw [bytes_length]; exact h0)
    rw [hn, clB, Bool.and_false]
    go_enter Tryz.func53, Tryz.ntmps53
    go_wp2
    go_ret
    exact ⟨rfl, rfl⟩
  · have hp : 0 < s.size := by omega
    have he := not_empty hp
    have hd := drop_at s 0 hp
    rw [List.drop_zero] at hd
    rw [hd, clB]
    by_cases hK : K = 2 ∨ K = 3
    · have hKb : (decide (K = 2) || decide (K = 3)) = true := by simpa using hK
      rw [hKb, Bool.true_and]
      have hK' : (K : Int) = 2 ∨ (K : Int) = 3 := by omega
      cases hl : isLet s[0].toNat
      · rcases hK' with h | h
        all_goals
          rw [h]
          go_enter Tryz.func53, Tryz.ntmps53
          go_wp2_with (first | (go_at_call 91; refine (isLetter_at _ _ false hl).mono ?_; rintro e w1 ⟨rfl, rfl⟩))
          go_ret
          refine ⟨?_, rfl⟩
          simp
          try (rw [Bool.eq_iff_iff]; simp)
          try omega
      · rcases hK' with h | h
        all_goals
          rw [h]
          go_enter Tryz.func53, Tryz.ntmps53
          go_wp2_with (first | (go_at_call 91; refine (isLetter_at _ _ true hl).mono ?_; rintro e w1 ⟨rfl, rfl⟩))
          go_ret
          exact ⟨rfl, rfl⟩
    · have hKb : (decide (K = 2) || decide (K = 3)) = false := by simpa using hK
      rw [hKb, Bool.false_and]
      have h2 : ((K : Int) != 2) = true := by simp; omega
      have h3 : ((K : Int) != 3) = true := by simp; omega
      go_enter Tryz.func53, Tryz.ntmps53
      go_wp2
      go_ret
      exact ⟨rfl, rfl⟩

end Go.Proofs.YtjgggmjjikopeaaGreatDoor

/- lex.number and lex.point: the value of digits. -/
namespace Go.Proofs.YtjgggmjjikopeaaGreatDoor
open Go.RowKit
set_option linter.unusedVariables false

/-- What number and point answer. -/
def ValPost (good : Prop) (t b : Nat) (e : Ending) : Prop :=
  (good ∧ e = .returned (.tuple #[.agg (val2 t b).toArray, .bool true])) ∨ (¬ good ∧ e = .returned (.tuple #[.agg (val2 0 0).toArray, .bool false]))

theorem bytesWorld_or {w w' : World} {t : TypeId} (h : w' = w ∨ ∃ x, w' = Lib.bytesWorld w t x) : Below w.heap.size w w' := by
  rcases h with rfl | ⟨x, rfl⟩
  · exact Below.refl _ _
  · exact Lib.bytesWorld_below _ _ _

set_option maxRecDepth 100000 in
set_option maxHeartbeats 800000 in
theorem lexNumber_any (S : ByteArray) (w : World) (hp : 0 < S.size) (hmax : S.size ≤ 1099511627776) (hd : allDg (bytes S)) (hE : ErrR w) :
    Calls Tryz.prog 88 #[.string S] w fun e w' => ValPost (GoodDec (bytes S)) 1 (decVal (bytes S)) e ∧ Below w.heap.size w w' := by
  have hgi := good_iff (bytes S) hd (by rw [bytes_length]; exact hp)
  have hint := int_digits (bytes S) hd (by rw [bytes_length]; exact hp)
  rw [bytes_length, bytes_at S 0 hp] at hgi
  obtain ⟨V, hV⟩ : ∃ V, Hid (V = decVal (bytes S)) := ⟨_, (rfl : decVal (bytes S) = _)⟩
  obtain ⟨c0, hc0⟩ : ∃ c0 : Nat, S[0].toNat = c0 := ⟨_, rfl⟩
  rw [← hV.out] at hgi hint ⊢
  rw [hc0] at hgi
  obtain ⟨G, hG⟩ : ∃ G, Hid (G = GoodDec (bytes S)) := ⟨_, (rfl : GoodDec (bytes S) = _)⟩
  rw [← hG.out] at hgi ⊢
  have HGI : Hid (G ↔ (c0 = 48 → S.size = 1) ∧ V ≤ 9223372036854775807) := hgi
  have HI : Hid (Lib.parseIntB 64 S.data.toList = if V ≤ 9223372036854775807 then .ok (V : Int) else .range) := hint
  clear hgi hint hd
  by_cases hz : c0 = 48 ∧ 1 < S.size
  · obtain ⟨h1, h2⟩ := hz
    have hno : ¬ G := fun g => by have := (HGI.out.1 g).1 h1; omega
    have hc' : (c0 : Int) = 48 := by omega
    go_enter Tryz.func88, Tryz.ntmps88
    go_wp2_with (first | ((with_reducible show wpList _ _ _ _ _ _); refine wpList_alloc_at rfl 40 rfl (val2 0 0) 2 z32 ?_; intro w1 hA1 hb1 hs1) | ((with_reducible show wpList _ _ _ _ _ _); refine wpList_build_at rfl 40 #[] rfl (val2 0 0) (by kernel_rfl) ?_) | ((with_reducible show wpList _ _ _ _ _ _); refine wpList_store_at (P := Tryz.prog) rfl 40 (.tmp 2) (.tmp 14) rfl w.heap.size (val2 0 0) rfl rfl 40 (val2 0 0) hA1 i32 rfl (one2 0 0) ?_; intro w9 hA9 hb9 hs9))
    refine bodyPost_ret (results_at_tmp rfl _ _ w.heap.size 40 (val2 0 0) _ rfl hA9 Tryz.underlying40 rfl i32) rfl ?_
    exact ⟨.inr ⟨hno, rfl⟩, hb9.below hb1 (Nat.le_refl _) (by omega)⟩
  · have hz' : ((c0 : Int) == 48) = true ∧ decide (1 < (S.size : Int)) = false ∨ ((c0 : Int) == 48) = false := by
      by_cases h : c0 = 48
      · left
        refine ⟨by rw [beq_iff_eq]; omega, ?_⟩
        simp; omega
      · right; rw [beq_eq_false_iff_ne]; omega
    have hone : c0 = 48 → S.size = 1 := fun h => by
      have : ¬ 1 < S.size := fun h2 => hz ⟨h, h2⟩
      omega
    clear hz
    by_cases hv : V ≤ 9223372036854775807
    · have hyes : G := HGI.out.2 ⟨hone, hv⟩
      have hok : Lib.parseIntB 64 S.data.toList = .ok (V : Int) := by rw [HI.out, if_pos hv]
      have hcall := fun w => Tryz.strconv_ParseInt_10_at64_ok S (by omega) (V : Int) hok w
      have HC : Hid (∀ w, Calls Tryz.prog 124 #[.string S, .int .i64 10, .int .i64 64] w fun e w' => e = .returned (.tuple #[.int .i64 (V : Int), .nilIface]) ∧ (w' = w ∨ ∃ t, w' = Lib.bytesWorld w 5 t)) := hcall
      clear hcall hok HI hone
      rcases hz' with ⟨hz1, hz2⟩ | hz1
      all_goals
        go_enter Tryz.func88, Tryz.ntmps88
        go_wp2_with (first | ((with_reducible show wpList _ _ _ _ _ _); refine wpList_alloc_at rfl 40 rfl (val2 0 0) 2 z32 ?_; intro w1 hA1 hb1 hs1))
        refine (HC.out _).mono ?_
        rintro e w2 ⟨rfl, hW⟩
        have hb2 := bytesWorld_or hW
        have hA2 := hA1.below hb2
        have hb12 := hb1.trans (hb2.mono (by omega))
        clear hW
        go_wp2_with (first | ((with_reducible show wpList _ _ _ _ _ _); refine wpList_build_at rfl 40 _ rfl (val2 1 V) (by kernel_rfl) ?_) | ((with_reducible show wpList _ _ _ _ _ _); refine wpList_store_at (P := Tryz.prog) rfl 40 (.tmp 2) (.tmp 25) rfl w.heap.size (val2 1 V) rfl rfl 40 (val2 0 0) hA2 i32 rfl (one2 1 V) ?_; intro w9 hA9 hb9 hs9))
        refine bodyPost_ret (results_at_tmp rfl _ _ w.heap.size 40 (val2 1 V) _ rfl hA9 Tryz.underlying40 rfl i32) rfl ?_
        exact ⟨.inl ⟨hyes, rfl⟩, hb9.below hb12 (Nat.le_refl _) hb12.size⟩
    · have hno : ¬ G := fun g => hv (HGI.out.1 g).2
      have hrg : Lib.parseIntB 64 S.data.toList = .range := by rw [HI.out, if_neg hv]
      obtain ⟨ev, hev1, hev2⟩ := hE
      have hcall := fun (w : World) hv => Tryz.strconv_ParseInt_10_at64_range S (by omega) hrg ev w hv hev2
      have HC : Hid (∀ w : World, w.cell? ⟨2, 0, none⟩ = some ev → Calls Tryz.prog 124 #[.string S, .int .i64 10, .int .i64 64] w fun e w' => ∃ n N, e = .returned (.tuple #[.int .i64 n, .iface 200 (.pointer (some ⟨N, 0, none⟩))]) ∧ Below w.heap.size w w') := by
        intro w hv
        refine (hcall w hv).mono ?_
        rintro e w' ⟨N, h1, _, _, h4⟩
        exact ⟨_, N, h1, h4⟩
      have HEV : Hid (w.cell? ⟨2, 0, none⟩ = some ev) := hev1
      clear hcall hrg HI hone hev1 hev2
      rcases hz' with ⟨hz1, hz2⟩ | hz1
      all_goals
        go_enter Tryz.func88, Tryz.ntmps88
        go_wp2_with (first | ((with_reducible show wpList _ _ _ _ _ _); refine wpList_alloc_at rfl 40 rfl (val2 0 0) 2 z32 ?_; intro w1 hA1 hb1 hs1))
        refine (HC.out _ (by rw [hb1.cell (lt_of_cell HEV.out)]; exact HEV.out)).mono ?_
        rintro e w2 ⟨n, N, rfl, hb2⟩
        have hA2 := hA1.below hb2
        have hb12 := hb1.trans (hb2.mono (by omega))
        go_wp2_with (first | ((with_reducible show wpList _ _ _ _ _ _); refine wpList_build_at rfl 40 #[] rfl (val2 0 0) (by kernel_rfl) ?_) | ((with_reducible show wpList _ _ _ _ _ _); refine wpList_store_at (P := Tryz.prog) rfl 40 (.tmp 2) (.tmp 22) rfl w.heap.size (val2 0 0) rfl rfl 40 (val2 0 0) hA2 i32 rfl (one2 0 0) ?_; intro w9 hA9 hb9 hs9))
        refine bodyPost_ret (results_at_tmp rfl _ _ w.heap.size 40 (val2 0 0) _ rfl hA9 Tryz.underlying40 rfl i32) rfl ?_
        exact ⟨.inr ⟨hno, rfl⟩, hb9.below hb12 (Nat.le_refl _) hb12.size⟩

theorem parse_str (S : ByteArray) (w : World) (hmax : S.size ≤ 1099511627775) :
    Calls Tryz.prog 125 #[.string S] w fun e w' => ParsePost (bytes S) e ∧ ∃ q, w' = w.drewN q := by
  have h := parse_any (bytes S) w (by rw [bytes_length]; exact hmax)
  rwa [← mk_bytes S] at h

set_option maxRecDepth 100000 in
set_option maxHeartbeats 800000 in
theorem point_any (S : ByteArray) (w : World) (hmax : S.size ≤ 1099511627775) :
    Calls Tryz.prog 89 #[.string S] w fun e w' => ValPost (IsLit (bytes S)) 3 (quo (litNum (bytes S)) (10 ^ (behindOf (bytes S)).length)) e ∧ Below w.heap.size w w' := by
  have hcall := fun w => parse_str S w hmax
  have hPP : ∀ e, ParsePost (bytes S) e → (IsLit (bytes S) ∧ e = .returned (.tuple #[.int .u64 (quo (litNum (bytes S)) (10 ^ (behindOf (bytes S)).length) : Nat), .int .i64 0])) ∨ (¬ IsLit (bytes S) ∧ e = .returned (.tuple #[.int .u64 0, .int .i64 4])) := fun e h => h
  obtain ⟨V, hV⟩ : ∃ V, Hid (V = quo (litNum (bytes S)) (10 ^ (behindOf (bytes S)).length)) := ⟨_, (rfl : quo (litNum (bytes S)) (10 ^ (behindOf (bytes S)).length) = _)⟩
  rw [← hV.out] at hPP ⊢
  obtain ⟨G, hG⟩ : ∃ G, Hid (G = IsLit (bytes S)) := ⟨_, (rfl : IsLit (bytes S) = _)⟩
  rw [← hG.out] at hPP ⊢
  have HC : Hid (∀ w, Calls Tryz.prog 125 #[.string S] w fun e w' => ((G ∧ e = .returned (.tuple #[.int .u64 (V : Nat), .int .i64 0])) ∨ (¬ G ∧ e = .returned (.tuple #[.int .u64 0, .int .i64 4]))) ∧ ∃ q, w' = w.drewN q) := by
    intro w
    refine (hcall w).mono ?_
    rintro e w' ⟨h1, h2⟩
    exact ⟨hPP e h1, h2⟩
  clear hcall hPP
  go_enter Tryz.func89, Tryz.ntmps89
  go_wp2_with (first | ((with_reducible show wpList _ _ _ _ _ _); refine wpList_alloc_at rfl 40 rfl (val2 0 0) 2 z32 ?_; intro w1 hA1 hb1 hs1))
  refine (HC.out _).mono ?_
  rintro e w2 ⟨⟨hg, rfl⟩ | ⟨hg, rfl⟩, q, hw2⟩
  · have hA2 : At 40 w2 w.heap.size (val2 0 0) := by rw [hw2]; exact hA1.drewN q
    have hb12 : Below w.heap.size w w2 := by rw [hw2]; exact ⟨hb1.os, hb1.tape, hb1.output, hb1.size, hb1.block⟩
    clear hw2
    go_wp2_with (first | ((with_reducible show wpList _ _ _ _ _ _); refine wpList_build_at rfl 40 _ rfl (val2 3 V) (by kernel_rfl) ?_) | ((with_reducible show wpList _ _ _ _ _ _); refine wpList_store_at (P := Tryz.prog) rfl 40 (.tmp 2) (.tmp 15) rfl w.heap.size (val2 3 V) rfl rfl 40 (val2 0 0) hA2 i32 rfl (one2 3 V) ?_; intro w9 hA9 hb9 hs9))
    refine bodyPost_ret (results_at_tmp rfl _ _ w.heap.size 40 (val2 3 V) _ rfl hA9 Tryz.underlying40 rfl i32) rfl ?_
    exact ⟨.inl ⟨hg, rfl⟩, hb9.below hb12 (Nat.le_refl _) hb12.size⟩
  · have hA2 : At 40 w2 w.heap.size (val2 0 0) := by rw [hw2]; exact hA1.drewN q
    have hb12 : Below w.heap.size w w2 := by rw [hw2]; exact ⟨hb1.os, hb1.tape, hb1.output, hb1.size, hb1.block⟩
    clear hw2
    go_wp2_with (first | ((with_reducible show wpList _ _ _ _ _ _); refine wpList_build_at rfl 40 #[] rfl (val2 0 0) (by kernel_rfl) ?_) | ((with_reducible show wpList _ _ _ _ _ _); refine wpList_store_at (P := Tryz.prog) rfl 40 (.tmp 2) (.tmp 13) rfl w.heap.size (val2 0 0) rfl rfl 40 (val2 0 0) hA2 i32 rfl (one2 0 0) ?_; intro w9 hA9 hb9 hs9))
    refine bodyPost_ret (results_at_tmp rfl _ _ w.heap.size 40 (val2 0 0) _ rfl hA9 Tryz.underlying40 rfl i32) rfl ?_
    exact ⟨.inr ⟨hg, rfl⟩, hb9.below hb12 (Nat.le_refl _) hb12.size⟩

end Go.Proofs.YtjgggmjjikopeaaGreatDoor

/- lex.tokenAt: the token at a place, or its error. -/
namespace Go.Proofs.YtjgggmjjikopeaaGreatDoor
open Go.RowKit
set_option linter.unusedVariables false

/-- A token's five cells. -/
def tok5 (K : Nat) (S : ByteArray) (p t b : Nat) : List Value := [.int .i64 (K : Int), .string S, .int .i64 (p : Int), .int .u8 (t : Int), .int .u64 (b : Int)]
theorem z34 : (Tryz.prog.info? 64).map (fun i => (i.zero, i.size)) = some (some (.agg (tok5 0 ⟨#[]⟩ 0 0 0).toArray), 5) := by kernel_rfl
theorem i34 : (Tryz.prog.info? 64).map (·.size) = some 5 := by kernel_rfl
theorem one5T (K : Nat) (S : ByteArray) (p t b : Nat) : ∀ v ∈ tok5 K S p t b, v.oneCell' = true := by intro v hv; simp [tok5] at hv; rcases hv with rfl | rfl | rfl | rfl | rfl <;> rfl

/-- What tokenAt answers. -/
def TokPost (s : ByteArray) (k K n : Nat) (e : Ending) : Prop :=
  e = .returned (.tuple #[.agg (if errOf K (((bytes s).drop k).take n) = 0 then tok5 K (s.extract k (k + n)) k (valT K) (valB K (((bytes s).drop k).take n)) else tok5 0 ⟨#[]⟩ 0 0 0).toArray, .int .i64 (errOf K (((bytes s).drop k).take n) : Nat)])

set_option maxRecDepth 100000 in
set_option maxHeartbeats 800000 in
theorem tokenAt_any (s : ByteArray) (k K n : Nat) (w : World) (hk : k < s.size) (hs : s.size ≤ 1099511627775) (hE : ErrR w) (hKn : endOf ((bytes s).drop k) = (K, n)) :
    Calls Tryz.prog 52 #[.string s, .int .i64 (k : Int)] w fun e w' => TokPost s k K n e ∧ Below w.heap.size w w' := by
  have hend := tokenEnd_any s k
  rw [hKn] at hend
  have hbd := endOf_bounds ((bytes s).drop k) (by rw [List.length_drop, bytes_length]; omega)
  rw [hKn, List.length_drop, bytes_length] at hbd
  obtain ⟨hn1, hn2, hKs⟩ := hbd
  simp only [] at hn1 hn2 hKs
  have hdig : K = 2 → allDg (((bytes s).drop k).take n) := fun h => by have := end_digits ((bytes s).drop k) (by rw [hKn]; exact h); rwa [hKn] at this
  have hbS : bytes (s.extract k (k + n)) = ((bytes s).drop k).take n := by rw [bytes_extract, Nat.add_sub_cancel_left]
  obtain ⟨S, hS⟩ : ∃ S, Hid (S = s.extract k (k + n)) := ⟨_, (rfl : s.extract k (k + n) = _)⟩
  have hSz : S.size = n := by rw [hS.out, ← bytes_length, hbS, List.length_take, List.length_drop, bytes_length]; omega
  have HPost : Hid (∀ e, TokPost s k K n e ↔ e = .returned (.tuple #[.agg (if errOf K (bytes S) = 0 then tok5 K S k (valT K) (valB K (bytes S)) else tok5 0 ⟨#[]⟩ 0 0 0).toArray, .int .i64 (errOf K (bytes S) : Nat)])) := by
    intro e; rw [TokPost, hS.out, hbS]
  have hdig' : K = 2 → allDg (bytes S) := by rw [hS.out, hbS]; exact hdig
  have HEnd : Hid (∀ w, Calls Tryz.prog 86 #[.string s, .int .i64 (k : Int)] w fun e w' => e = .returned (.tuple #[.int .i64 (K : Int), .int .i64 ((k + n : Nat) : Int)]) ∧ w' = w) := fun w => hend w hk (by omega)
  have HDig : Hid (K = 2 → allDg (bytes S)) := hdig'
  clear hend hdig hdig' hKn
  have hle : k + n ≤ s.size := by omega
  go_enter Tryz.func52, Tryz.ntmps52
  go_wp2_with (first | ((with_reducible show wpList _ _ _ _ _ _); refine wpList_alloc_at rfl 64 rfl (tok5 0 ⟨#[]⟩ 0 0 0) 5 z34 ?_; intro w1 hA1 hb1 hs1))
  refine (HEnd.out _).mono ?_
  rintro e w1' ⟨rfl, hw1⟩
  rw [hw1]
  clear hw1
  go_wp2_with fail
  rw [← hS.out]
  refine (clone_any S _ (by omega)).mono ?_
  rintro e w2 ⟨rfl, hb2⟩
  have hA2 := hA1.below hb2
  have hb12 := hb1.trans (hb2.mono (by omega))
  have hlt2 : w.heap.size < w2.heap.size := hA2.lt
  clear hb2
  go_wp2_with (first | ((with_reducible show wpList _ _ _ _ _ _); refine wpList_build_at rfl 64 _ rfl (tok5 K S k 0 0) (by kernel_rfl) ?_) | ((with_reducible show wpList _ _ _ _ _ _); refine wpList_alloc_at rfl 64 rfl (tok5 0 ⟨#[]⟩ 0 0 0) 5 z34 ?_; intro w3 hA3 hb3 hs3) | ((with_reducible show wpList _ _ _ _ _ _); refine wpList_store_at (P := Tryz.prog) rfl 64 (.tmp 8) (.tmp 23) rfl w2.heap.size (tok5 K S k 0 0) rfl rfl 64 (tok5 0 ⟨#[]⟩ 0 0 0) hA3 i34 rfl (one5T K S k 0 0) ?_; intro w4 hA4 hb4 hs4; refine Hid.out ?_))
  refine Lib.hid ?_
  have hB4 : Below w.heap.size w w4 := hb4.below (hb12.trans (hb3.mono hb12.size)) (by omega) (by omega)
  have hAr4 : At 64 w4 w.heap.size (tok5 0 ⟨#[]⟩ 0 0 0) := hb4.at (hA2.below hb3) (by omega)
  have hcell1 : w4.cell? ⟨w2.heap.size, 1, none⟩ = some (.string S) := by rw [hA4.cell]; rfl
  clear hb3 hA3 hb4 hA2 hA1 hb12
  have hlen : (bytes S).length = n := by rw [bytes_length]; exact hSz
  rcases hKs with rfl | rfl | rfl | rfl
  · by_cases h24 : 24 < n
    · have hfin : Hid (errOf 1 (bytes S) = 5) := by simp [Hid, errOf, hlen, h24]
      go_wp2_with (first | ((with_reducible show wpList _ _ _ _ _ _); refine wpList_build_at rfl 64 #[] rfl (tok5 0 ⟨#[]⟩ 0 0 0) (by kernel_rfl) ?_) | ((with_reducible show wpList _ _ _ _ _ _); refine wpList_store_at (P := Tryz.prog) rfl 64 (.tmp 4) (.tmp 34) rfl w.heap.size (tok5 0 ⟨#[]⟩ 0 0 0) rfl rfl 64 (tok5 0 ⟨#[]⟩ 0 0 0) hAr4 i34 rfl (one5T _ _ _ _ _) ?_; intro w9 hA9 hb9 hs9))
      refine bodyPost_ret (results_at_tmp rfl _ _ w.heap.size 64 (tok5 0 ⟨#[]⟩ 0 0 0) _ rfl hA9 Tryz.underlying64 rfl i34) rfl ?_
      exact ⟨(HPost.out _).2 (by rw [hfin.out]; rfl), hb9.below hB4 (Nat.le_refl _) hB4.size⟩
    · have hfin : Hid (errOf 1 (bytes S) = 0) := by simp [Hid, errOf, hlen, h24]
      go_wp2_with (first | ((with_reducible show wpList _ _ _ _ _ _); refine wpList_load_at (P := Tryz.prog) rfl 64 (.tmp 8) rfl w2.heap.size rfl 64 (tok5 1 S k 0 0) hA4 _ Tryz.underlying64 rfl i34 ?_) | ((with_reducible show wpList _ _ _ _ _ _); refine wpList_store_at (P := Tryz.prog) rfl 64 (.tmp 4) (.tmp 56) rfl w.heap.size (tok5 1 S k 0 0) rfl rfl 64 (tok5 0 ⟨#[]⟩ 0 0 0) hAr4 i34 rfl (one5T _ _ _ _ _) ?_; intro w9 hA9 hb9 hs9))
      refine bodyPost_ret (results_at_tmp rfl _ _ w.heap.size 64 (tok5 1 S k 0 0) _ rfl hA9 Tryz.underlying64 rfl i34) rfl ?_
      exact ⟨(HPost.out _).2 (by rw [hfin.out]; rfl), hb9.below hB4 (Nat.le_refl _) hB4.size⟩
  · go_wp2_with fail
    refine (lexNumber_any S _ (by omega) (by omega) (HDig.out (by trivial)) (hE.below hB4)).mono ?_
    rintro e w5 ⟨⟨hg, rfl⟩ | ⟨hg, rfl⟩, hb5⟩
    · have hfin : Hid (errOf 2 (bytes S) = 0) := by simp [Hid, errOf, hg]
      have hval : Hid (valB 2 (bytes S) = decVal (bytes S)) := by simp [Hid, valB]
      obtain ⟨V, hV⟩ : ∃ V, Hid (V = decVal (bytes S)) := ⟨_, (rfl : decVal (bytes S) = _)⟩
      rw [← hV.out]
      have hA5 := hA4.below hb5
      have hAr5 := hAr4.below hb5
      have hB5 := hB4.trans (hb5.mono hB4.size)
      have hlt5 : w.heap.size < w5.heap.size := hAr5.lt
      go_wp2_with (first | ((with_reducible show wpList _ _ _ _ _ _); refine wpList_store_two (P := Tryz.prog) rfl 40 (.tmp 43) (.tmp 41) rfl w2.heap.size 3 (.int .u8 1) (.int .u64 (V : Int)) rfl rfl 64 (tok5 2 S k 0 0) hA5 (show 3 + 2 ≤ 5 by decide) i32 (one2 1 V) ?_; intro w6 hA6 hb6 hs6; refine Hid.out ?_))
      refine Lib.hid ?_
      have hB6 : Below w.heap.size w w6 := hb6.below hB5 (by omega) (by omega)
      have hAr6 : At 64 w6 w.heap.size (tok5 0 ⟨#[]⟩ 0 0 0) := hb6.at hAr5 (by omega)
      have hA6' : At 64 w6 w2.heap.size (tok5 2 S k 1 V) := hA6
      go_wp2_with (first | ((with_reducible show wpList _ _ _ _ _ _); refine wpList_load_at (P := Tryz.prog) rfl 64 (.tmp 8) rfl w2.heap.size rfl 64 (tok5 2 S k 1 V) hA6' _ Tryz.underlying64 rfl i34 ?_) | ((with_reducible show wpList _ _ _ _ _ _); refine wpList_store_at (P := Tryz.prog) rfl 64 (.tmp 4) (.tmp 56) rfl w.heap.size (tok5 2 S k 1 V) rfl rfl 64 (tok5 0 ⟨#[]⟩ 0 0 0) hAr6 i34 rfl (one5T _ _ _ _ _) ?_; intro w9 hA9 hb9 hs9))
      refine bodyPost_ret (results_at_tmp rfl _ _ w.heap.size 64 (tok5 2 S k 1 V) _ rfl hA9 Tryz.underlying64 rfl i34) rfl ?_
      exact ⟨(HPost.out _).2 (by rw [hfin.out, hval.out, ← hV.out]; rfl), hb9.below hB6 (Nat.le_refl _) hB6.size⟩
    · have hfin : Hid (errOf 2 (bytes S) = 4) := by simp [Hid, errOf, hg]
      have hA5 := hA4.below hb5
      have hAr5 := hAr4.below hb5
      have hB5 := hB4.trans (hb5.mono hB4.size)
      have hlt5 : w.heap.size < w5.heap.size := hAr5.lt
      go_wp2_with (first | ((with_reducible show wpList _ _ _ _ _ _); refine wpList_store_two (P := Tryz.prog) rfl 40 (.tmp 43) (.tmp 41) rfl w2.heap.size 3 (.int .u8 0) (.int .u64 0) rfl rfl 64 (tok5 2 S k 0 0) hA5 (show 3 + 2 ≤ 5 by decide) i32 (one2 0 0) ?_; intro w6 hA6 hb6 hs6; refine Hid.out ?_))
      refine Lib.hid ?_
      have hB6 : Below w.heap.size w w6 := hb6.below hB5 (by omega) (by omega)
      have hAr6 : At 64 w6 w.heap.size (tok5 0 ⟨#[]⟩ 0 0 0) := hb6.at hAr5 (by omega)
      go_wp2_with (first | ((with_reducible show wpList _ _ _ _ _ _); refine wpList_build_at rfl 64 #[] rfl (tok5 0 ⟨#[]⟩ 0 0 0) (by kernel_rfl) ?_) | ((with_reducible show wpList _ _ _ _ _ _); refine wpList_store_at (P := Tryz.prog) rfl 64 (.tmp 4) (.tmp 55) rfl w.heap.size (tok5 0 ⟨#[]⟩ 0 0 0) rfl rfl 64 (tok5 0 ⟨#[]⟩ 0 0 0) hAr6 i34 rfl (one5T _ _ _ _ _) ?_; intro w9 hA9 hb9 hs9))
      refine bodyPost_ret (results_at_tmp rfl _ _ w.heap.size 64 (tok5 0 ⟨#[]⟩ 0 0 0) _ rfl hA9 Tryz.underlying64 rfl i34) rfl ?_
      exact ⟨(HPost.out _).2 (by rw [hfin.out]; rfl), hb9.below hB6 (Nat.le_refl _) hB6.size⟩
  · go_wp2_with fail
    refine (point_any S _ (by omega)).mono ?_
    rintro e w5 ⟨⟨hg, rfl⟩ | ⟨hg, rfl⟩, hb5⟩
    · have hfin : Hid (errOf 3 (bytes S) = 0) := by simp [Hid, errOf, hg]
      have hval : Hid (valB 3 (bytes S) = quo (litNum (bytes S)) (10 ^ (behindOf (bytes S)).length)) := by simp [Hid, valB]
      obtain ⟨V, hV⟩ : ∃ V, Hid (V = quo (litNum (bytes S)) (10 ^ (behindOf (bytes S)).length)) := ⟨_, (rfl : quo (litNum (bytes S)) (10 ^ (behindOf (bytes S)).length) = _)⟩
      rw [← hV.out]
      have hA5 := hA4.below hb5
      have hAr5 := hAr4.below hb5
      have hB5 := hB4.trans (hb5.mono hB4.size)
      have hlt5 : w.heap.size < w5.heap.size := hAr5.lt
      go_wp2_with (first | ((with_reducible show wpList _ _ _ _ _ _); refine wpList_store_two (P := Tryz.prog) rfl 40 (.tmp 52) (.tmp 50) rfl w2.heap.size 3 (.int .u8 3) (.int .u64 (V : Int)) rfl rfl 64 (tok5 3 S k 0 0) hA5 (show 3 + 2 ≤ 5 by decide) i32 (one2 3 V) ?_; intro w6 hA6 hb6 hs6; refine Hid.out ?_))
      refine Lib.hid ?_
      have hB6 : Below w.heap.size w w6 := hb6.below hB5 (by omega) (by omega)
      have hAr6 : At 64 w6 w.heap.size (tok5 0 ⟨#[]⟩ 0 0 0) := hb6.at hAr5 (by omega)
      have hA6' : At 64 w6 w2.heap.size (tok5 3 S k 3 V) := hA6
      go_wp2_with (first | ((with_reducible show wpList _ _ _ _ _ _); refine wpList_load_at (P := Tryz.prog) rfl 64 (.tmp 8) rfl w2.heap.size rfl 64 (tok5 3 S k 3 V) hA6' _ Tryz.underlying64 rfl i34 ?_) | ((with_reducible show wpList _ _ _ _ _ _); refine wpList_store_at (P := Tryz.prog) rfl 64 (.tmp 4) (.tmp 56) rfl w.heap.size (tok5 3 S k 3 V) rfl rfl 64 (tok5 0 ⟨#[]⟩ 0 0 0) hAr6 i34 rfl (one5T _ _ _ _ _) ?_; intro w9 hA9 hb9 hs9))
      refine bodyPost_ret (results_at_tmp rfl _ _ w.heap.size 64 (tok5 3 S k 3 V) _ rfl hA9 Tryz.underlying64 rfl i34) rfl ?_
      exact ⟨(HPost.out _).2 (by rw [hfin.out, hval.out, ← hV.out]; rfl), hb9.below hB6 (Nat.le_refl _) hB6.size⟩
    · have hfin : Hid (errOf 3 (bytes S) = 4) := by simp [Hid, errOf, hg]
      have hA5 := hA4.below hb5
      have hAr5 := hAr4.below hb5
      have hB5 := hB4.trans (hb5.mono hB4.size)
      have hlt5 : w.heap.size < w5.heap.size := hAr5.lt
      go_wp2_with (first | ((with_reducible show wpList _ _ _ _ _ _); refine wpList_store_two (P := Tryz.prog) rfl 40 (.tmp 52) (.tmp 50) rfl w2.heap.size 3 (.int .u8 0) (.int .u64 0) rfl rfl 64 (tok5 3 S k 0 0) hA5 (show 3 + 2 ≤ 5 by decide) i32 (one2 0 0) ?_; intro w6 hA6 hb6 hs6; refine Hid.out ?_))
      refine Lib.hid ?_
      have hB6 : Below w.heap.size w w6 := hb6.below hB5 (by omega) (by omega)
      have hAr6 : At 64 w6 w.heap.size (tok5 0 ⟨#[]⟩ 0 0 0) := hb6.at hAr5 (by omega)
      go_wp2_with (first | ((with_reducible show wpList _ _ _ _ _ _); refine wpList_build_at rfl 64 #[] rfl (tok5 0 ⟨#[]⟩ 0 0 0) (by kernel_rfl) ?_) | ((with_reducible show wpList _ _ _ _ _ _); refine wpList_store_at (P := Tryz.prog) rfl 64 (.tmp 4) (.tmp 55) rfl w.heap.size (tok5 0 ⟨#[]⟩ 0 0 0) rfl rfl 64 (tok5 0 ⟨#[]⟩ 0 0 0) hAr6 i34 rfl (one5T _ _ _ _ _) ?_; intro w9 hA9 hb9 hs9))
      refine bodyPost_ret (results_at_tmp rfl _ _ w.heap.size 64 (tok5 0 ⟨#[]⟩ 0 0 0) _ rfl hA9 Tryz.underlying64 rfl i34) rfl ?_
      exact ⟨(HPost.out _).2 (by rw [hfin.out]; rfl), hb9.below hB6 (Nat.le_refl _) hB6.size⟩
  · cases hsg : isSg (bytes S)
    · have hfin : Hid (errOf 4 (bytes S) = 4) := by simp [Hid, errOf, hsg]
      have HSG : Hid (isSg (bytes S) = false) := hsg
      clear hsg
      go_wp2_with fail
      refine (isSign_any S _).mono ?_
      rw [HSG.out]
      rintro e w5 ⟨rfl, hw5⟩
      rw [hw5]
      clear hw5
      go_wp2_with (first | ((with_reducible show wpList _ _ _ _ _ _); refine wpList_build_at rfl 64 #[] rfl (tok5 0 ⟨#[]⟩ 0 0 0) (by kernel_rfl) ?_) | ((with_reducible show wpList _ _ _ _ _ _); refine wpList_store_at (P := Tryz.prog) rfl 64 (.tmp 4) (.tmp 55) rfl w.heap.size (tok5 0 ⟨#[]⟩ 0 0 0) rfl rfl 64 (tok5 0 ⟨#[]⟩ 0 0 0) hAr4 i34 rfl (one5T _ _ _ _ _) ?_; intro w9 hA9 hb9 hs9))
      refine bodyPost_ret (results_at_tmp rfl _ _ w.heap.size 64 (tok5 0 ⟨#[]⟩ 0 0 0) _ rfl hA9 Tryz.underlying64 rfl i34) rfl ?_
      exact ⟨(HPost.out _).2 (by rw [hfin.out]; rfl), hb9.below hB4 (Nat.le_refl _) hB4.size⟩
    · have hfin : Hid (errOf 4 (bytes S) = 0) := by simp [Hid, errOf, hsg]
      have HSG : Hid (isSg (bytes S) = true) := hsg
      clear hsg
      go_wp2_with fail
      refine (isSign_any S _).mono ?_
      rw [HSG.out]
      rintro e w5 ⟨rfl, hw5⟩
      rw [hw5]
      clear hw5
      go_wp2_with (first | ((with_reducible show wpList _ _ _ _ _ _); refine wpList_load_at (P := Tryz.prog) rfl 64 (.tmp 8) rfl w2.heap.size rfl 64 (tok5 4 S k 0 0) hA4 _ Tryz.underlying64 rfl i34 ?_) | ((with_reducible show wpList _ _ _ _ _ _); refine wpList_store_at (P := Tryz.prog) rfl 64 (.tmp 4) (.tmp 56) rfl w.heap.size (tok5 4 S k 0 0) rfl rfl 64 (tok5 0 ⟨#[]⟩ 0 0 0) hAr4 i34 rfl (one5T _ _ _ _ _) ?_; intro w9 hA9 hb9 hs9))
      refine bodyPost_ret (results_at_tmp rfl _ _ w.heap.size 64 (tok5 4 S k 0 0) _ rfl hA9 Tryz.underlying64 rfl i34) rfl ?_
      exact ⟨(HPost.out _).2 (by rw [hfin.out]; rfl), hb9.below hB4 (Nat.le_refl _) hB4.size⟩

end Go.Proofs.YtjgggmjjikopeaaGreatDoor

/- Rows of tokens: appended to, kept, read. -/
namespace Go.Proofs.YtjgggmjjikopeaaGreatDoor
open Go.RowKit
set_option linter.unusedVariables false

/-- The cells of tokens, one behind the other. -/
def flat (ts : List Tk) : List Value := (ts.map Tk.cells).flatten

theorem flat_length (ts : List Tk) : (flat ts).length = ts.length * 5 := by
  induction ts with
  | nil => rfl
  | cons t r ih => simp [flat, Tk.cells] at ih ⊢; omega

theorem flat_append (a b : List Tk) : flat (a ++ b) = flat a ++ flat b := by simp [flat]

theorem flat_at (ts : List Tk) (i : Nat) (t : Tk) (h : ts[i]? = some t) : ((flat ts).drop (i * 5)).take 5 = t.cells := by
  induction ts generalizing i with
  | nil => simp at h
  | cons u r ih =>
    cases i with
    | zero =>
      simp at h
      subst h
      simp [flat, Tk.cells]
    | succ j =>
      have := ih j (by simpa using h)
      rw [show (j + 1) * 5 = 5 + j * 5 by omega, ← List.drop_drop]
      simpa [flat, Tk.cells] using this

/-- A row of tokens of the call's own. -/
def Toks (base : Nat) (w : World) (v : Value) (ts : List Tk) : Prop := w.ownsRow base 64 5 v ts.length (flat ts)

theorem Toks.nil (base : Nat) (w : World) : Toks base w (.slice none 0 0) [] := ⟨rfl, .inl ⟨rfl, rfl⟩⟩

theorem Toks.keep {base : Nat} {w w' : World} {v : Value} {ts : List Tk} (h : Toks base w v ts) (hk : ∀ g, v.ownBlock = some g → g < w.heap.size → w'.heap[g]? = w.heap[g]?) : Toks base w' v ts := by
  obtain ⟨h1, h2 | ⟨g, cap, cur, rfl, hg, hh, hr⟩⟩ := h
  · exact ⟨h1, .inl h2⟩
  · have hlt : g < w.heap.size := by
      rcases Nat.lt_or_ge g w.heap.size with hlt | hge
      · exact hlt
      · rw [Array.getElem?_eq_none hge] at hh; simp at hh
    exact ⟨h1, .inr ⟨g, cap, cur, rfl, hg, by rw [hk g rfl hlt]; exact hh, hr⟩⟩

theorem Toks.below {base : Nat} {w w' : World} {v : Value} {ts : List Tk} (h : Toks base w v ts) (hb : Below w.heap.size w w') : Toks base w' v ts :=
  h.keep fun g _ hlt => hb.block g hlt

theorem Toks.low {base base' : Nat} {w : World} {v : Value} {ts : List Tk} (h : Toks base w v ts) (hb : base' ≤ base) : Toks base' w v ts := by
  obtain ⟨h1, h2 | ⟨g, cap, cur, rfl, hg, hh, hr⟩⟩ := h
  · exact ⟨h1, .inl h2⟩
  · exact ⟨h1, .inr ⟨g, cap, cur, rfl, by omega, hh, hr⟩⟩

theorem Toks.block {base : Nat} {w : World} {v : Value} {ts : List Tk} (h : Toks base w v ts) : ∀ k, v.ownBlock = some k → base ≤ k := by
  intro k hk
  obtain ⟨_, ⟨rfl, _⟩ | ⟨g, cap, cur, rfl, hg, _⟩⟩ := h
  · simp [Value.ownBlock] at hk
  · simp [Value.ownBlock] at hk
    omega

/-- What a row of tokens is known by when it is read. -/
theorem Toks.open {base : Nat} {w : World} {v : Value} {ts : List Tk} (h : Toks base w v ts) :
    (v = .slice none 0 0 ∧ ts = []) ∨ ∃ g cap, v = .slice (some ⟨g, 0, none⟩) ts.length cap ∧ base ≤ g ∧ g < w.heap.size ∧ ts.length ≤ cap ∧ cap ≤ maxLen ∧ (∀ i t, ts[i]? = some t → w.rangeAt g (i * 5) t.cells) ∧ (∀ i, i < ts.length → w.there g (i * 5) 5) := by
  obtain ⟨h1, ⟨rfl, h2⟩ | ⟨g, cap, cur, rfl, hg, hh, hc, hm, hs, ht⟩⟩ := h
  · exact .inl ⟨rfl, List.length_eq_zero_iff.1 h2⟩
  · have hlt : g < w.heap.size := by
      rcases Nat.lt_or_ge g w.heap.size with hlt | hge
      · exact hlt
      · rw [Array.getElem?_eq_none hge] at hh; simp at hh
    have hA : At 64 w g cur.toList := by simpa [At] using hh
    refine .inr ⟨g, cap, rfl, hg, hlt, hc, hm, ?_, ?_⟩
    · intro i t hi
      have hil : i < ts.length := (List.getElem?_eq_some_iff.1 hi).1
      have := hA.range (i * 5) 5
      have e : (cur.toList.drop (i * 5)).take 5 = t.cells := by
        rw [← flat_at ts i t hi, ← ht, List.drop_take, List.take_take]
        congr 1
        omega
      rwa [e] at this
    · intro i hi
      exact hA.there (i * 5) 5 (by rw [Array.length_toList, hs]; omega)

theorem Try.i34' : (Tryz.prog.info? 64).map (fun i => (i.zero, i.size, i.bytes)) = some (some (.agg (tok5 0 ⟨#[]⟩ 0 0 0).toArray), 5, 48) := by kernel_rfl

section
variable {ops : Array Oper} {rest : List Oper} {o : Oper} {a : Act} {w : World} {Q : Exit → Act → World → Prop}

/-- One token is laid as a row. -/
theorem wpList_slice1 (hgd : o.guard = none) (x : Operand) (ho : o.op = .buildSlice 60 1 #[(0, x)]) (K : Nat) (S : ByteArray) (p t b : Nat) (hx : a.eval x = .agg (tok5 K S p t b).toArray)
    (h : ∀ w', At 64 w' w.heap.size (tok5 K S p t b) → Below w.heap.size w w' → w'.heap.size = w.heap.size + 1 → wpList Tryz.prog ops Q rest (a.put o.dst (.slice (some ⟨w.heap.size, 0, none⟩) 1 1)) w') :
    wpList Tryz.prog ops Q (o :: rest) a w := by
  obtain ⟨ie, hi, hz0, hz1, hz2⟩ := info_parts Try.i34'
  refine wpList_buildSlice hgd 60 64 1 #[(0, x)] ho (tok5 K S p t b).toArray ie (.agg (tok5 0 ⟨#[]⟩ 0 0 0).toArray) Tryz.underlying60 hi hz0 (by rw [hz1]; decide) (by rw [hz1]; decide) ?_ ?_
  · rw [hz1]
    simp only [List.map_toArray, List.map_cons, List.map_nil, hx]
    kernel_rfl
  · exact h _ (_root_.Go.heap_alloc_new w _) ((Below.refl _ w).alloc (Nat.le_refl _) _) (by show (w.heap.push _).size = _; simp)

/-- 'tokens = append(tokens, token)', the token laid as a row. -/
theorem wpList_appT (hgd : o.guard = none) (s x : Operand) (ho : o.op = .call { callee := .builtin .append, args := #[s, x], argTypes := #[60, 60] })
    (base g : Nat) (v : Value) (ts : List Tk) (tk : Tk) (hs : a.eval s = v) (hx : a.eval x = .slice (some ⟨g, 0, none⟩) 1 1) (hown : Toks base w v ts) (hA : At 64 w g tk.cells)
    (hlen : ts.length ≤ 1048576) (hbase : base ≤ w.heap.size)
    (h : ∀ v' w', Toks base w' v' (ts ++ [tk]) → Below base w w' → wpList Tryz.prog ops Q rest (a.put o.dst v') w') :
    wpList Tryz.prog ops Q (o :: rest) a w := by
  obtain ⟨ie, hi, hz0, hz1, hz2⟩ := info_parts Try.i34'
  refine wpList_append_own_at w hgd s x 60 ho base 64 ie (.agg (tok5 0 ⟨#[]⟩ 0 0 0).toArray) 5 48 Tryz.underlying60 hi hz0 hz1 hz2 rfl (by decide) v ts.length (flat ts) hs hown
    ⟨g, 0, none⟩ 1 1 tk.cells hx rfl ?_ ?_ ?_ ?_ hbase ?_
  · intro j u hj
    rw [Addr.add_mid, hA.cell, Nat.zero_add]; exact hj
  · intro u hu
    simp [Tk.cells] at hu
    rcases hu with rfl | rfl | rfl | rfl | rfl <;> rfl
  · unfold maxLen; omega
  · omega
  · intro v' w' h1 h2 _ _
    refine h v' w' ?_ ?_
    · have e : flat (ts ++ [tk]) = flat ts ++ tk.cells := by rw [flat_append]; simp [flat]
      unfold Toks
      rw [e, List.length_append]
      exact h1
    · exact (Below.refl base w).grown h2 hbase hown.block
end

end Go.Proofs.YtjgggmjjikopeaaGreatDoor
