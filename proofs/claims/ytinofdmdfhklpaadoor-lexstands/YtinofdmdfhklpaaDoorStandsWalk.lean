/- The law that tokens stand where they say, and are the same when they are joined: walked. -/
import Derived.Test.YtinofdmdfhklpaaDoorBetween
import Derived.Test.YtinofdmdfhklpaaDoorKnownWalk
namespace Go.Proofs.YtinofdmdfhklpaaDoor
open Go.RowKit
set_option linter.unusedVariables false

theorem run_eq25s (e p : Nat) (he : e ≠ 0) (u : World) : (Op.equalIn 10000 25 (.agg (fa2 e p).toArray) (.agg (fa2 0 0).toArray)).run Tryd.prog u = .ok false u := by
  unfold fa2
  have hp : ((e : Int) == ((0 : Nat) : Int)) = false := by rw [beq_eq_false_iff_ne]; omega
  go_simp

theorem run_eq32 (t b : Nat) (u : World) : (Op.equalIn 10000 32 (.agg (val2 t b).toArray) (.agg (val2 t b).toArray)).run Tryd.prog u = .ok true u := by
  unfold val2
  go_simp

theorem lexS_place (l : List UInt8) (ts : List Tk) (p : Nat) (h : lexS l = ⟨ts, 0, p⟩) : p = 0 := by
  unfold lexS at h
  split at h
  · simp at h
  · have := lexA_place l (l.length + 1) (skN l)
    rw [h] at this
    exact this rfl

theorem lexS_len (l : List UInt8) : (lexS l).toks.length ≤ 16384 := by
  have hA : ∀ (f p : Nat), (lexA l f p).toks.length ≤ l.length - p := by
    intro f
    induction f with
    | zero => intro p; simp [lexA]
    | succ f ih =>
      intro p
      simp only [lexA]
      split
      · simp
      · next h =>
        split
        · simp
        · split
          · simp
          · have h1 := ih (p + (endOf (l.drop p)).2 + skN (l.drop (p + (endOf (l.drop p)).2)))
            have h2 := (endOf_bounds (l.drop p) (by rw [List.length_drop]; omega)).1
            simp only [Out.ahead]
            split
            · simp; omega
            · omega
  unfold lexS
  split
  · simp
  · have := hA (l.length + 1) (skN l); omega

theorem jn_append (a b : List Tk) : jn (a ++ b) = jn a ++ jn b := by
  induction a with
  | nil => rfl
  | cons t r ih => simp [jn, ih]

theorem jn_take (ts : List Tk) (i : Nat) (t : Tk) (h : ts[i]? = some t) : jn (ts.take (i + 1)) = jn (ts.take i) ++ (t.text ++ [32]) := by
  have hi : i < ts.length := (List.getElem?_eq_some_iff.1 h).1
  rw [List.take_succ_eq_append_getElem hi, jn_append]
  have : ts[i] = t := (List.getElem?_eq_some_iff.1 h).2
  rw [this]; simp [jn]

theorem drop_tk (ts : List Tk) (i : Nat) (t : Tk) (h : ts[i]? = some t) : ts.drop i = t :: ts.drop (i + 1) := by
  have hi : i < ts.length := (List.getElem?_eq_some_iff.1 h).1
  rw [List.drop_eq_getElem_cons hi]
  rw [(List.getElem?_eq_some_iff.1 h).2]

theorem bytes_cat (a b : ByteArray) : bytes (a ++ b) = bytes a ++ bytes b := by simp [bytes]

/-- A row of tokens, as the law reads it. -/
theorem Toks.read {base : Nat} {w : World} {v : Value} {ts : List Tk} (h : Toks base w v ts) :
    ∃ a cap, v = .slice a ts.length cap ∧ (0 < ts.length → ∃ g, a = some ⟨g, 0, none⟩ ∧ g < w.heap.size ∧ ∀ i t, ts[i]? = some t → w.rangeAt g (i * 5) t.cells) := by
  rcases h.open with ⟨rfl, rfl⟩ | ⟨g, cap, rfl, _, h2, _, _, h5, _⟩
  · exact ⟨none, 0, rfl, fun h => by simp at h⟩
  · exact ⟨_, cap, rfl, fun _ => ⟨g, rfl, h2, h5⟩⟩

theorem rng35 {w : World} {g o : Nat} {t : Tk} (h : w.rangeAt g o t.cells) : w.rangeAt g (o + 3) (val2 (valT t.kind) t.bits) := by
  intro j v hj
  rw [Nat.add_assoc]
  refine h (3 + j) v ?_
  match j, hj with
  | 0, hj => exact hj
  | 1, hj => exact hj

set_option maxRecDepth 100000 in
set_option maxHeartbeats 4000000 in
theorem stands_walk (s : ByteArray) (w : World) (hmax : s.size ≤ 9223372036854775807) (hE : ErrR w) :
    Calls Tryd.prog 5 #[.string s] w fun e w' => e = .returned (.bool true) ∧ Below w.heap.size w w' := by
  have hlen := lexS_len (bytes s)
  have hL := fun w hE => lex_any s w hmax hE
  unfold LexPost at hL
  obtain ⟨ts, E, p, hO⟩ : ∃ ts E p, lexS (bytes s) = ⟨ts, E, p⟩ := ⟨_, _, _, rfl⟩
  rw [hO] at hlen hL
  simp only [] at hlen hL
  have HL : Hid (∀ w, ErrR w → Calls Tryd.prog 6 #[.string s] w fun e w' => ∃ v, e = .returned (.tuple #[v, .agg (fa2 E p).toArray]) ∧ Toks w.heap.size w' v ts ∧ Below w.heap.size w w') := hL
  have HO : Hid (lexS (bytes s) = ⟨ts, E, p⟩) := hO
  clear hL hO
  go_enter Tryd.func5, Tryd.ntmps5
  go_wp2_with fail
  refine (known_any _ hE).mono ?_
  rintro e w1 ⟨rfl, hb1⟩
  go_wp2_with fail
  refine (HL.out _ (hE.below hb1)).mono ?_
  rintro e w2 ⟨v1, rfl, hT2, hb2⟩
  obtain ⟨n, hn⟩ : ∃ n, Hid (n = ts.length) := ⟨_, (rfl : ts.length = _)⟩
  obtain ⟨a1, cap1, rfl, hread⟩ := hT2.read
  rw [← hn.out] at hlen hread ⊢
  go_wp2_with (first | ((with_reducible show wpList _ _ _ _ _ _); refine wpList_alloc_at rfl 25 rfl (fa2 0 0) 2 z25 ?_; intro w3 hA3 hb3 hs3) | ((with_reducible show wpList _ _ _ _ _ _); refine wpList_store_at (P := Tryd.prog) rfl 25 (.tmp 5) (.tmp 18) rfl w2.heap.size (fa2 E p) rfl rfl 25 (fa2 0 0) hA3 i25 rfl (one2f _ _) ?_; intro w4 hA4 hb4 hs4; refine Hid.out ?_))
  refine Lib.hid ?_
  have hb24 : Below w2.heap.size w2 w4 := hb4.below hb3 (Nat.le_refl _) (by omega)
  have hB4 : Below w.heap.size w w4 := (hb1.trans (hb2.mono hb1.size)).trans (hb24.mono (by have := hb1.size; have := hb2.size; omega))
  have hE4 : ErrR w4 := hE.below hB4
  have hread4 : Hid (0 < n → ∃ g, a1 = some ⟨g, 0, none⟩ ∧ g < w4.heap.size ∧ ∀ i t, ts[i]? = some t → w4.rangeAt g (i * 5) t.cells) := by
    intro h0
    obtain ⟨g, h1, h2, h3⟩ := hread h0
    refine ⟨g, h1, Nat.lt_of_lt_of_le h2 hb24.size, fun i t hi j v hj => ?_⟩
    rw [hb24.cell (show (⟨g, i * 5 + j, none⟩ : Addr).block < w2.heap.size from h2)]
    exact h3 i t hi j v hj
  clear hread hA3 hb3 hb4 hb24 hT2 hb2 hb1 hs3 hs4
  by_cases hE0 : E = 0
  · subst hE0
    have hp0 : p = 0 := lexS_place _ ts p HO.out
    subst hp0
    obtain ⟨hlen16, hst0, hgood⟩ := lexS_stands _ ts HO.out
    rw [bytes_length] at hlen16
    have HST : Hid (Stands (bytes s) 0 ts) := hst0
    have HGD : Hid (∀ t ∈ ts, Good t) := hgood
    have hq := run_eq25'
    clear hst0 hgood
    go_wp2_with (first | ((with_reducible show wpList _ _ _ _ _ _); refine wpList_load_at (P := Tryd.prog) rfl 25 (.tmp 5) rfl w2.heap.size rfl 25 (fa2 0 0) hA4 _ Tryd.underlying25 rfl i25 ?_) | ((with_reducible show wpList _ _ _ _ _ _); refine wpList_build_at rfl 25 #[] rfl (fa2 0 0) (by kernel_rfl) ?_))
    go_loopw [6, 7, 8, 9] (fun va vj vi vt wr => ∃ (i A : Nat) (J : ByteArray), va = .int .i64 (A : Int) ∧ vj = .string J ∧ vi = .int .i64 (i : Int) ∧ i ≤ n + 1 ∧ A ≤ s.size ∧ J.size ≤ A + i ∧ Hid (bytes J = jn (ts.take i)) ∧ Hid (i ≤ n → Stands (bytes s) A (ts.drop i)) ∧ ∃ q, wr = w4.drewN q) (fun _ _ vi _ _ => n + 1 - (intOf vi).toNat)
    case atStart => exact ⟨0, 0, ⟨#[]⟩, rfl, rfl, rfl, by omega, by omega, by decide, rfl, fun _ => HST.out, 0, rfl⟩
    case round =>
      obtain ⟨i, A, J, rfl, rfl, rfl, hi, hA, hJ, hbJ, hst, q, rfl⟩ := hrel
      by_cases hc : i < n
      · obtain ⟨t, ht⟩ : ∃ t, ts[i]? = some t := ⟨ts[i]'(by rw [← hn.out]; exact hc), by rw [List.getElem?_eq_getElem]⟩
        have hst1 := hst.out (by omega)
        rw [drop_tk ts i t ht] at hst1
        obtain ⟨s1, s2, s3, s4, s5, s6⟩ := hst1
        obtain ⟨g1, rfl, hg1, hrng⟩ := hread4.out (by omega)
        have hcell1 : w4.cell? ⟨g1, i * 5 + 1, none⟩ = some (.string ⟨t.text.toArray⟩) := hrng i t ht 1 _ rfl
        have hcell2 : w4.cell? ⟨g1, i * 5 + 2, none⟩ = some (.int .i64 (t.place : Int)) := hrng i t ht 2 _ rfl
        rw [bytes_length] at s2
        obtain ⟨S, hS⟩ : ∃ S : ByteArray, Hid (S = ⟨t.text.toArray⟩) := ⟨_, (rfl : (⟨t.text.toArray⟩ : ByteArray) = _)⟩
        have hbS : bytes S = t.text := by rw [hS.out]; simp [bytes]
        obtain ⟨m, hm⟩ : ∃ m, Hid (m = t.text.length) := ⟨_, (rfl : t.text.length = _)⟩
        have hSz : S.size = m := by rw [← bytes_length, hbS, hm.out]
        obtain ⟨pl, hpl⟩ : ∃ pl, Hid (pl = t.place) := ⟨_, (rfl : t.place = _)⟩
        rw [← hS.out] at hcell1
        rw [← hpl.out] at hcell2 s1 s2 s4 s5 s6
        rw [← hm.out] at s2 s3 s4 s6
        have heq : ((s.extract pl (pl + m)).toList == S.toList) = true := by
          rw [toList_bytes, toList_bytes, bytes_extract, Nat.add_sub_cancel_left, s4, hbS]; simp
        have hbt : btw false (bytes (s.extract A pl)) = true := by rw [bytes_extract]; exact s5
        have HBT : Hid (∀ w, Calls Tryd.prog 12 #[.string (s.extract A pl)] w fun e w' => e = .returned (.bool true) ∧ w' = w) := fun w => between_any _ w (by rw [← bytes_length, bytes_extract, List.length_take, List.length_drop, bytes_length]; omega) hbt
        have HS6 : Hid (i + 1 ≤ n → Stands (bytes s) (pl + m) (ts.drop (i + 1))) := fun _ => s6
        have HJ : Hid (bytes (J ++ S ++ { data := #[32] }) = jn (ts.take (i + 1))) := by
          show _ = _
          rw [bytes_cat, bytes_cat, hbJ.out, hbS, jn_take ts i t ht, List.append_assoc]; rfl
        have hJz : (J ++ S ++ ({ data := #[32] } : ByteArray)).size ≤ pl + m + (i + 1) := by
          have e := congrArg List.length (bytes_cat (J ++ S) ({ data := #[32] } : ByteArray))
          rw [bytes_cat J S, List.length_append, List.length_append, bytes_length, bytes_length, bytes_length, hSz] at e
          rw [e]
          show J.size + m + 1 ≤ _
          omega
        have hlt : decide ((pl : Int) < (A : Int)) = false := by simp; omega
        have hm0 : ((m : Int) == 0) = false := by rw [beq_eq_false_iff_ne]; omega
        have hgt : decide ((s.size : Int) < (pl : Int) + (m : Int)) = false := by simp; omega
        have hcat1 : ¬ 9223372036854775807 < J.size + m := by omega
        clear s4 s5 s6 hst hbJ hbt hbS hrng
        go_wp2_with fail
        refine (HBT.out _).mono ?_
        rintro e w6 ⟨rfl, hw6⟩
        rw [hw6]
        clear hw6
        go_wp2_with fail
        go_quiet (fail)
        go_wp2
        go_roundw
        case rel => exact ⟨i + 1, pl + m, J ++ S ++ { data := #[32] }, by go_num, rfl, by go_num, by omega, by omega, hJz, HJ, HS6, _, rfl⟩
        case measure => simp [intOf]; omega
      · by_cases hc2 : i = n
        · subst hc2
          have hst1 := hst.out (by omega)
          rw [List.drop_of_length_le (by rw [← hn.out]; omega)] at hst1
          have hbt : btw false (bytes (s.extract A s.size)) = true := by rw [bytes_from]; exact hst1
          have HBT : Hid (∀ w, Calls Tryd.prog 12 #[.string (s.extract A s.size)] w fun e w' => e = .returned (.bool true) ∧ w' = w) := fun w => between_any _ w (by rw [← bytes_length, bytes_extract, List.length_take, List.length_drop, bytes_length]; omega) hbt
          have HJ : Hid (bytes J = jn (ts.take (i + 1))) := by
            show _ = _
            rw [hbJ.out, List.take_of_length_le (by rw [← hn.out]; omega), List.take_of_length_le (by rw [← hn.out]; omega)]
          have hlt : decide ((s.size : Int) < (A : Int)) = false := by simp; omega
          clear hst1 hst hbJ hbt
          go_wp2_with fail
          refine (HBT.out _).mono ?_
          rintro e w6 ⟨rfl, hw6⟩
          rw [hw6]
          clear hw6
          go_wp2
          go_roundw
          case rel => exact ⟨i + 1, A, J, rfl, rfl, by go_num, by omega, by omega, by omega, HJ, fun h => by omega, q, rfl⟩
          case measure => simp [intOf]
        · have hin : ¬ i ≤ n := by omega
          have HJ : bytes J = jn ts := by
            rw [hbJ.out, List.take_of_length_le (by rw [← hn.out]; omega)]
          have hB4q : Below w.heap.size w (w4.drewN q) := ⟨hB4.os, hB4.tape, hB4.output, hB4.size, hB4.block⟩
          by_cases hlong : 16384 < J.size
          · clear hst hbJ HJ
            go_wp2
            go_ret
            exact ⟨rfl, hB4q⟩
          · obtain ⟨us, hus, hal⟩ := lexS_jn ts HGD.out (by rw [← HJ, bytes_length]; omega)
            rw [← HJ] at hus
            have hul := alike_length hal
            rw [← hn.out] at hul
            have hE4q : ErrR (w4.drewN q) := hE4
            have hL2 := lex_any J (w4.drewN q) (by omega) hE4q
            unfold LexPost at hL2
            rw [hus] at hL2
            have HL2 : Hid (Calls Tryd.prog 6 #[.string J] (w4.drewN q) fun e w' => ∃ v, e = .returned (.tuple #[v, .agg (fa2 0 0).toArray]) ∧ Toks (w4.drewN q).heap.size w' v us ∧ Below (w4.drewN q).heap.size (w4.drewN q) w') := hL2
            have HAL : Hid (Alike us ts) := hal
            have HUL : Hid (us.length = n) := hul
            clear hL2 hus hst hbJ HJ hal hul
            go_wp2_with fail
            refine (HL2.out).mono ?_
            rintro e w7 ⟨v2, rfl, hT7, hb7⟩
            obtain ⟨a2, cap2, rfl, hread2⟩ := hT7.read
            rw [HUL.out] at hread2 ⊢
            go_wp2_with (first | ((with_reducible show wpList _ _ _ _ _ _); refine wpList_alloc_at rfl 25 rfl (fa2 0 0) 2 z25 ?_; intro w8 hA8 hb8 hs8) | ((with_reducible show wpList _ _ _ _ _ _); refine wpList_store_at (P := Tryd.prog) rfl 25 (.tmp 11) (.tmp 121) rfl w7.heap.size (fa2 0 0) rfl rfl 25 (fa2 0 0) hA8 i25 rfl (one2f _ _) ?_; intro w9 hA9 hb9 hs9; refine Hid.out ?_))
            refine Lib.hid ?_
            have hb79 : Below w7.heap.size w7 w9 := hb9.below hb8 (Nat.le_refl _) (by omega)
            have hb49 : Below (w4.drewN q).heap.size (w4.drewN q) w9 := hb7.trans (hb79.mono hb7.size)
            have hB9 : Below w.heap.size w w9 := hB4q.trans (hb49.mono hB4q.size)
            have HR1 : Hid (0 < n → ∃ g, a1 = some ⟨g, 0, none⟩ ∧ ∀ i t, ts[i]? = some t → w9.rangeAt g (i * 5) t.cells) := by
              intro h0
              obtain ⟨g, h1, h2, h3⟩ := hread4.out h0
              refine ⟨g, h1, fun i t hi j v hj => ?_⟩
              rw [hb49.cell (show (⟨g, i * 5 + j, none⟩ : Addr).block < (w4.drewN q).heap.size from h2)]
              exact h3 i t hi j v hj
            have HR2 : Hid (0 < n → ∃ g, a2 = some ⟨g, 0, none⟩ ∧ ∀ i t, us[i]? = some t → w9.rangeAt g (i * 5) t.cells) := by
              intro h0
              obtain ⟨g, h1, h2, h3⟩ := hread2 h0
              refine ⟨g, h1, fun i t hi j v hj => ?_⟩
              rw [hb79.cell (show (⟨g, i * 5 + j, none⟩ : Addr).block < w7.heap.size from h2)]
              exact h3 i t hi j v hj
            clear hread2 hA8 hb8 hb9 hb79 hb49 hT7 hb7 hB4q
            go_wp2_with (first | ((with_reducible show wpList _ _ _ _ _ _); refine wpList_load_at (P := Tryd.prog) rfl 25 (.tmp 11) rfl w7.heap.size rfl 25 (fa2 0 0) hA9 _ Tryd.underlying25 rfl i25 ?_) | ((with_reducible show wpList _ _ _ _ _ _); refine wpList_build_at rfl 25 #[] rfl (fa2 0 0) (by kernel_rfl) ?_))
            clear hA9
            go_loopw [12] (fun vi wr => ∃ i : Nat, vi = .int .i64 (i : Int) ∧ i ≤ n ∧ ∃ q, wr = w9.drewN q) (fun vi _ => n - (intOf vi).toNat)
            case atStart => exact ⟨0, rfl, by omega, 0, rfl⟩
            case round =>
              obtain ⟨i, rfl, hi, q9, rfl⟩ := hrel
              by_cases hc : i < n
              · obtain ⟨t, ht⟩ : ∃ t, ts[i]? = some t := ⟨ts[i]'(by rw [← hn.out]; exact hc), by rw [List.getElem?_eq_getElem]⟩
                obtain ⟨u, hu⟩ : ∃ u, us[i]? = some u := ⟨us[i]'(by rw [HUL.out]; exact hc), by rw [List.getElem?_eq_getElem]⟩
                obtain ⟨e1, e2, e3⟩ := alike_at HAL.out i u t hu ht
                obtain ⟨g1, rfl, hr1'⟩ := HR1.out (by omega)
                obtain ⟨g2, rfl, hr2'⟩ := HR2.out (by omega)
                have k1 : w9.cell? ⟨g1, i * 5, none⟩ = some (.int .i64 (t.kind : Int)) := hr1' i t ht 0 _ rfl
                have k2 : w9.cell? ⟨g2, i * 5, none⟩ = some (.int .i64 (u.kind : Int)) := hr2' i u hu 0 _ rfl
                have x1 : w9.cell? ⟨g1, i * 5 + 1, none⟩ = some (.string ⟨t.text.toArray⟩) := hr1' i t ht 1 _ rfl
                have x2 : w9.cell? ⟨g2, i * 5 + 1, none⟩ = some (.string ⟨u.text.toArray⟩) := hr2' i u hu 1 _ rfl
                have hr1 : w9.rangeAt g1 (i * 5 + 3) (val2 (valT t.kind) t.bits) := rng35 (hr1' i t ht)
                have hr2 : w9.rangeAt g2 (i * 5 + 3) (val2 (valT u.kind) u.bits) := rng35 (hr2' i u hu)
                rw [e1] at k2 hr2
                rw [e2] at x2
                rw [e3] at hr2
                obtain ⟨Kd, hKd⟩ : ∃ Kd, Hid (Kd = t.kind) := ⟨_, (rfl : t.kind = _)⟩
                obtain ⟨S, hS0⟩ : ∃ S : ByteArray, Hid (S = ⟨t.text.toArray⟩) := ⟨_, (rfl : (⟨t.text.toArray⟩ : ByteArray) = _)⟩
                obtain ⟨T, hT⟩ : ∃ T, Hid (T = valT t.kind) := ⟨_, (rfl : valT t.kind = _)⟩
                obtain ⟨V, hV⟩ : ∃ V, Hid (V = t.bits) := ⟨_, (rfl : t.bits = _)⟩
                rw [← hT.out, ← hV.out] at hr1 hr2
                rw [← hKd.out] at k1 k2
                rw [← hS0.out] at x1 x2
                have hq32 := run_eq32 T V
                have hS : ∃ q', (w9.drewN q9).drew = w9.drewN q' := ⟨q9 + 1, rfl⟩
                clear hr1' hr2' e1 e2 e3
                go_wp2_with fail
                refine wp_region_held_drew (S := fun w' => ∃ q', w' = w9.drewN q') (by kernel_rfl) hS (fun _ => ?_)
                refine wpAnyH_take (i := 0) (oi := { dst := some 138, op := .move (.tmp 10), type := _, pos := _, after := _, guard := none }) (v := .slice (some ⟨g2, 0, none⟩) n cap2) rfl (by kernel_rfl) (by kernel_rfl) (by kernel_rfl) (fun _ _ _ h => h) (Or.inl ⟨by rfl, ?_⟩) hS ?_
                · intro w hSw
                  obtain ⟨q', rfl⟩ := hSw
                  go_simp
                simp only [Act.put, List.setIfInBounds_toArray, List.set_cons_zero, List.set_cons_succ]
                refine wpAnyH_take (i := 1) (oi := { dst := some 139, op := .move (.tmp 12), type := _, pos := _, after := _, guard := none }) (v := .int .i64 (i : Int)) rfl (by kernel_rfl) (by kernel_rfl) (by kernel_rfl) (fun _ _ _ h => h) (Or.inl ⟨by rfl, ?_⟩) hS ?_
                · intro w hSw
                  obtain ⟨q', rfl⟩ := hSw
                  go_simp
                simp only [Act.put, List.setIfInBounds_toArray, List.set_cons_zero, List.set_cons_succ]
                refine wpAnyH_take (i := 2) (oi := { dst := some 140, op := .indexAddr 22 (.tmp 138) (.tmp 139), type := _, pos := _, after := _, guard := none }) (v := .pointer (some ⟨g2, i * 5, none⟩)) rfl (by kernel_rfl) (by kernel_rfl) (by kernel_rfl) (fun _ _ _ h => h) (Or.inl ⟨by rfl, ?_⟩) hS ?_
                · intro w hSw
                  obtain ⟨q', rfl⟩ := hSw
                  go_simp
                simp only [Act.put, List.setIfInBounds_toArray, List.set_cons_zero, List.set_cons_succ]
                refine wpAnyH_take (i := 3) (oi := { dst := some 141, op := .fieldAddr 34 (.tmp 140) 0, type := _, pos := _, after := _, guard := none }) (v := .pointer (some ⟨g2, i * 5, none⟩)) rfl (by kernel_rfl) (by kernel_rfl) (by kernel_rfl) (fun _ _ _ h => h) (Or.inl ⟨by rfl, ?_⟩) hS ?_
                · intro w hSw
                  obtain ⟨q', rfl⟩ := hSw
                  go_simp
                simp only [Act.put, List.setIfInBounds_toArray, List.set_cons_zero, List.set_cons_succ]
                refine wpAnyH_take (i := 4) (oi := { dst := some 142, op := .load 3 (.tmp 141), type := _, pos := _, after := _, guard := none }) (v := .int .i64 (Kd : Int)) rfl (by kernel_rfl) (by kernel_rfl) (by kernel_rfl) (fun _ _ _ h => h) (Or.inl ⟨by rfl, ?_⟩) hS ?_
                · intro w hSw
                  obtain ⟨q', rfl⟩ := hSw
                  go_simp
                simp only [Act.put, List.setIfInBounds_toArray, List.set_cons_zero, List.set_cons_succ]
                refine wpAnyH_take (i := 5) (oi := { dst := some 143, op := .move (.tmp 4), type := _, pos := _, after := _, guard := none }) (v := .slice (some ⟨g1, 0, none⟩) n cap1) rfl (by kernel_rfl) (by kernel_rfl) (by kernel_rfl) (fun _ _ _ h => h) (Or.inl ⟨by rfl, ?_⟩) hS ?_
                · intro w hSw
                  obtain ⟨q', rfl⟩ := hSw
                  go_simp
                simp only [Act.put, List.setIfInBounds_toArray, List.set_cons_zero, List.set_cons_succ]
                refine wpAnyH_take (i := 6) (oi := { dst := some 144, op := .move (.tmp 12), type := _, pos := _, after := _, guard := none }) (v := .int .i64 (i : Int)) rfl (by kernel_rfl) (by kernel_rfl) (by kernel_rfl) (fun _ _ _ h => h) (Or.inl ⟨by rfl, ?_⟩) hS ?_
                · intro w hSw
                  obtain ⟨q', rfl⟩ := hSw
                  go_simp
                simp only [Act.put, List.setIfInBounds_toArray, List.set_cons_zero, List.set_cons_succ]
                refine wpAnyH_take (i := 7) (oi := { dst := some 145, op := .indexAddr 22 (.tmp 143) (.tmp 144), type := _, pos := _, after := _, guard := none }) (v := .pointer (some ⟨g1, i * 5, none⟩)) rfl (by kernel_rfl) (by kernel_rfl) (by kernel_rfl) (fun _ _ _ h => h) (Or.inl ⟨by rfl, ?_⟩) hS ?_
                · intro w hSw
                  obtain ⟨q', rfl⟩ := hSw
                  go_simp
                simp only [Act.put, List.setIfInBounds_toArray, List.set_cons_zero, List.set_cons_succ]
                refine wpAnyH_take (i := 8) (oi := { dst := some 146, op := .fieldAddr 34 (.tmp 145) 0, type := _, pos := _, after := _, guard := none }) (v := .pointer (some ⟨g1, i * 5, none⟩)) rfl (by kernel_rfl) (by kernel_rfl) (by kernel_rfl) (fun _ _ _ h => h) (Or.inl ⟨by rfl, ?_⟩) hS ?_
                · intro w hSw
                  obtain ⟨q', rfl⟩ := hSw
                  go_simp
                simp only [Act.put, List.setIfInBounds_toArray, List.set_cons_zero, List.set_cons_succ]
                refine wpAnyH_take (i := 9) (oi := { dst := some 147, op := .load 3 (.tmp 146), type := _, pos := _, after := _, guard := none }) (v := .int .i64 (Kd : Int)) rfl (by kernel_rfl) (by kernel_rfl) (by kernel_rfl) (fun _ _ _ h => h) (Or.inl ⟨by rfl, ?_⟩) hS ?_
                · intro w hSw
                  obtain ⟨q', rfl⟩ := hSw
                  go_simp
                simp only [Act.put, List.setIfInBounds_toArray, List.set_cons_zero, List.set_cons_succ]
                refine wpAnyH_take (i := 10) (oi := { dst := some 148, op := .binOp .neq 3 (.tmp 142) (.tmp 147) 3, type := _, pos := _, after := _, guard := none }) (v := .bool false) rfl (by kernel_rfl) (by kernel_rfl) (by kernel_rfl) (fun _ _ _ h => h) (Or.inl ⟨by rfl, ?_⟩) hS ?_
                · intro w hSw
                  obtain ⟨q', rfl⟩ := hSw
                  go_simp
                simp only [Act.put, List.setIfInBounds_toArray, List.set_cons_zero, List.set_cons_succ]
                refine wpAnyH_take (i := 11) (oi := { dst := some 149, op := .move (.tmp 148), type := _, pos := _, after := _, guard := none }) (v := .bool false) rfl (by kernel_rfl) (by kernel_rfl) (by kernel_rfl) (fun _ _ _ h => h) (Or.inl ⟨by rfl, ?_⟩) hS ?_
                · intro w hSw
                  obtain ⟨q', rfl⟩ := hSw
                  go_simp
                simp only [Act.put, List.setIfInBounds_toArray, List.set_cons_zero, List.set_cons_succ]
                refine wpAnyH_take (i := 12) (oi := { dst := some 150, op := .move (.tmp 10), type := _, pos := _, after := _, guard := some (11, false) }) (v := .slice (some ⟨g2, 0, none⟩) n cap2) rfl (by kernel_rfl) (by kernel_rfl) (by kernel_rfl) (fun _ _ _ h => h) (Or.inl ⟨by rfl, ?_⟩) hS ?_
                · intro w hSw
                  obtain ⟨q', rfl⟩ := hSw
                  go_simp
                simp only [Act.put, List.setIfInBounds_toArray, List.set_cons_zero, List.set_cons_succ]
                refine wpAnyH_take (i := 13) (oi := { dst := some 151, op := .move (.tmp 12), type := _, pos := _, after := _, guard := some (11, false) }) (v := .int .i64 (i : Int)) rfl (by kernel_rfl) (by kernel_rfl) (by kernel_rfl) (fun _ _ _ h => h) (Or.inl ⟨by rfl, ?_⟩) hS ?_
                · intro w hSw
                  obtain ⟨q', rfl⟩ := hSw
                  go_simp
                simp only [Act.put, List.setIfInBounds_toArray, List.set_cons_zero, List.set_cons_succ]
                refine wpAnyH_take (i := 14) (oi := { dst := some 152, op := .indexAddr 22 (.tmp 150) (.tmp 151), type := _, pos := _, after := _, guard := some (11, false) }) (v := .pointer (some ⟨g2, i * 5, none⟩)) rfl (by kernel_rfl) (by kernel_rfl) (by kernel_rfl) (fun _ _ _ h => h) (Or.inl ⟨by rfl, ?_⟩) hS ?_
                · intro w hSw
                  obtain ⟨q', rfl⟩ := hSw
                  go_simp
                simp only [Act.put, List.setIfInBounds_toArray, List.set_cons_zero, List.set_cons_succ]
                refine wpAnyH_take (i := 15) (oi := { dst := some 153, op := .fieldAddr 34 (.tmp 152) 1, type := _, pos := _, after := _, guard := some (11, false) }) (v := .pointer (some ⟨g2, i * 5 + 1, none⟩)) rfl (by kernel_rfl) (by kernel_rfl) (by kernel_rfl) (fun _ _ _ h => h) (Or.inl ⟨by rfl, ?_⟩) hS ?_
                · intro w hSw
                  obtain ⟨q', rfl⟩ := hSw
                  go_simp
                simp only [Act.put, List.setIfInBounds_toArray, List.set_cons_zero, List.set_cons_succ]
                refine wpAnyH_take (i := 16) (oi := { dst := some 154, op := .load 9 (.tmp 153), type := _, pos := _, after := _, guard := some (11, false) }) (v := .string S) rfl (by kernel_rfl) (by kernel_rfl) (by kernel_rfl) (fun _ _ _ h => h) (Or.inl ⟨by rfl, ?_⟩) hS ?_
                · intro w hSw
                  obtain ⟨q', rfl⟩ := hSw
                  go_simp
                simp only [Act.put, List.setIfInBounds_toArray, List.set_cons_zero, List.set_cons_succ]
                refine wpAnyH_take (i := 17) (oi := { dst := some 155, op := .move (.tmp 4), type := _, pos := _, after := _, guard := some (11, false) }) (v := .slice (some ⟨g1, 0, none⟩) n cap1) rfl (by kernel_rfl) (by kernel_rfl) (by kernel_rfl) (fun _ _ _ h => h) (Or.inl ⟨by rfl, ?_⟩) hS ?_
                · intro w hSw
                  obtain ⟨q', rfl⟩ := hSw
                  go_simp
                simp only [Act.put, List.setIfInBounds_toArray, List.set_cons_zero, List.set_cons_succ]
                refine wpAnyH_take (i := 18) (oi := { dst := some 156, op := .move (.tmp 12), type := _, pos := _, after := _, guard := some (11, false) }) (v := .int .i64 (i : Int)) rfl (by kernel_rfl) (by kernel_rfl) (by kernel_rfl) (fun _ _ _ h => h) (Or.inl ⟨by rfl, ?_⟩) hS ?_
                · intro w hSw
                  obtain ⟨q', rfl⟩ := hSw
                  go_simp
                simp only [Act.put, List.setIfInBounds_toArray, List.set_cons_zero, List.set_cons_succ]
                refine wpAnyH_take (i := 19) (oi := { dst := some 157, op := .indexAddr 22 (.tmp 155) (.tmp 156), type := _, pos := _, after := _, guard := some (11, false) }) (v := .pointer (some ⟨g1, i * 5, none⟩)) rfl (by kernel_rfl) (by kernel_rfl) (by kernel_rfl) (fun _ _ _ h => h) (Or.inl ⟨by rfl, ?_⟩) hS ?_
                · intro w hSw
                  obtain ⟨q', rfl⟩ := hSw
                  go_simp
                simp only [Act.put, List.setIfInBounds_toArray, List.set_cons_zero, List.set_cons_succ]
                refine wpAnyH_take (i := 20) (oi := { dst := some 158, op := .fieldAddr 34 (.tmp 157) 1, type := _, pos := _, after := _, guard := some (11, false) }) (v := .pointer (some ⟨g1, i * 5 + 1, none⟩)) rfl (by kernel_rfl) (by kernel_rfl) (by kernel_rfl) (fun _ _ _ h => h) (Or.inl ⟨by rfl, ?_⟩) hS ?_
                · intro w hSw
                  obtain ⟨q', rfl⟩ := hSw
                  go_simp
                simp only [Act.put, List.setIfInBounds_toArray, List.set_cons_zero, List.set_cons_succ]
                refine wpAnyH_take (i := 21) (oi := { dst := some 159, op := .load 9 (.tmp 158), type := _, pos := _, after := _, guard := some (11, false) }) (v := .string S) rfl (by kernel_rfl) (by kernel_rfl) (by kernel_rfl) (fun _ _ _ h => h) (Or.inl ⟨by rfl, ?_⟩) hS ?_
                · intro w hSw
                  obtain ⟨q', rfl⟩ := hSw
                  go_simp
                simp only [Act.put, List.setIfInBounds_toArray, List.set_cons_zero, List.set_cons_succ]
                refine wpAnyH_take (i := 22) (oi := { dst := some 160, op := .binOp .neq 9 (.tmp 154) (.tmp 159) 9, type := _, pos := _, after := _, guard := some (11, false) }) (v := .bool false) rfl (by kernel_rfl) (by kernel_rfl) (by kernel_rfl) (fun _ _ _ h => h) (Or.inl ⟨by rfl, ?_⟩) hS ?_
                · intro w hSw
                  obtain ⟨q', rfl⟩ := hSw
                  go_simp
                simp only [Act.put, List.setIfInBounds_toArray, List.set_cons_zero, List.set_cons_succ]
                refine wpAnyH_take (i := 23) (oi := { dst := some 161, op := .pick (.tmp 149) (.const (.bool true)) (.tmp 160), type := _, pos := _, after := _, guard := none }) (v := .bool false) rfl (by kernel_rfl) (by kernel_rfl) (by kernel_rfl) (fun _ _ _ h => h) (Or.inl ⟨by rfl, ?_⟩) hS ?_
                · intro w hSw
                  obtain ⟨q', rfl⟩ := hSw
                  go_simp
                simp only [Act.put, List.setIfInBounds_toArray, List.set_cons_zero, List.set_cons_succ]
                refine wpAnyH_take (i := 24) (oi := { dst := some 162, op := .move (.tmp 161), type := _, pos := _, after := _, guard := none }) (v := .bool false) rfl (by kernel_rfl) (by kernel_rfl) (by kernel_rfl) (fun _ _ _ h => h) (Or.inl ⟨by rfl, ?_⟩) hS ?_
                · intro w hSw
                  obtain ⟨q', rfl⟩ := hSw
                  go_simp
                simp only [Act.put, List.setIfInBounds_toArray, List.set_cons_zero, List.set_cons_succ]
                refine wpAnyH_take (i := 25) (oi := { dst := some 163, op := .move (.tmp 10), type := _, pos := _, after := _, guard := some (24, false) }) (v := .slice (some ⟨g2, 0, none⟩) n cap2) rfl (by kernel_rfl) (by kernel_rfl) (by kernel_rfl) (fun _ _ _ h => h) (Or.inl ⟨by rfl, ?_⟩) hS ?_
                · intro w hSw
                  obtain ⟨q', rfl⟩ := hSw
                  go_simp
                simp only [Act.put, List.setIfInBounds_toArray, List.set_cons_zero, List.set_cons_succ]
                refine wpAnyH_take (i := 26) (oi := { dst := some 164, op := .move (.tmp 12), type := _, pos := _, after := _, guard := some (24, false) }) (v := .int .i64 (i : Int)) rfl (by kernel_rfl) (by kernel_rfl) (by kernel_rfl) (fun _ _ _ h => h) (Or.inl ⟨by rfl, ?_⟩) hS ?_
                · intro w hSw
                  obtain ⟨q', rfl⟩ := hSw
                  go_simp
                simp only [Act.put, List.setIfInBounds_toArray, List.set_cons_zero, List.set_cons_succ]
                refine wpAnyH_take (i := 27) (oi := { dst := some 165, op := .indexAddr 22 (.tmp 163) (.tmp 164), type := _, pos := _, after := _, guard := some (24, false) }) (v := .pointer (some ⟨g2, i * 5, none⟩)) rfl (by kernel_rfl) (by kernel_rfl) (by kernel_rfl) (fun _ _ _ h => h) (Or.inl ⟨by rfl, ?_⟩) hS ?_
                · intro w hSw
                  obtain ⟨q', rfl⟩ := hSw
                  go_simp
                simp only [Act.put, List.setIfInBounds_toArray, List.set_cons_zero, List.set_cons_succ]
                refine wpAnyH_take (i := 28) (oi := { dst := some 166, op := .fieldAddr 34 (.tmp 165) 3, type := _, pos := _, after := _, guard := some (24, false) }) (v := .pointer (some ⟨g2, i * 5 + 3, none⟩)) rfl (by kernel_rfl) (by kernel_rfl) (by kernel_rfl) (fun _ _ _ h => h) (Or.inl ⟨by rfl, ?_⟩) hS ?_
                · intro w hSw
                  obtain ⟨q', rfl⟩ := hSw
                  go_simp
                simp only [Act.put, List.setIfInBounds_toArray, List.set_cons_zero, List.set_cons_succ]
                refine wpAnyH_take (i := 29) (oi := { dst := some 167, op := .load 32 (.tmp 166), type := _, pos := _, after := _, guard := some (24, false) }) rfl (by kernel_rfl) (by kernel_rfl) (by kernel_rfl) (fun _ _ _ h => h) (yieldsIf_load_mid (by rfl) 32 (.tmp 166) rfl g2 (i * 5 + 3) rfl (val2 T V) _ (fun w hSw => by obtain ⟨q', rfl⟩ := hSw; exact hr2) Tryd.underlying32 rfl i32) hS ?_
                simp only [Act.put, List.setIfInBounds_toArray, List.set_cons_zero, List.set_cons_succ]
                refine wpAnyH_take (i := 30) (oi := { dst := some 168, op := .move (.tmp 4), type := _, pos := _, after := _, guard := some (24, false) }) (v := .slice (some ⟨g1, 0, none⟩) n cap1) rfl (by kernel_rfl) (by kernel_rfl) (by kernel_rfl) (fun _ _ _ h => h) (Or.inl ⟨by rfl, ?_⟩) hS ?_
                · intro w hSw
                  obtain ⟨q', rfl⟩ := hSw
                  go_simp
                simp only [Act.put, List.setIfInBounds_toArray, List.set_cons_zero, List.set_cons_succ]
                refine wpAnyH_take (i := 31) (oi := { dst := some 169, op := .move (.tmp 12), type := _, pos := _, after := _, guard := some (24, false) }) (v := .int .i64 (i : Int)) rfl (by kernel_rfl) (by kernel_rfl) (by kernel_rfl) (fun _ _ _ h => h) (Or.inl ⟨by rfl, ?_⟩) hS ?_
                · intro w hSw
                  obtain ⟨q', rfl⟩ := hSw
                  go_simp
                simp only [Act.put, List.setIfInBounds_toArray, List.set_cons_zero, List.set_cons_succ]
                refine wpAnyH_take (i := 32) (oi := { dst := some 170, op := .indexAddr 22 (.tmp 168) (.tmp 169), type := _, pos := _, after := _, guard := some (24, false) }) (v := .pointer (some ⟨g1, i * 5, none⟩)) rfl (by kernel_rfl) (by kernel_rfl) (by kernel_rfl) (fun _ _ _ h => h) (Or.inl ⟨by rfl, ?_⟩) hS ?_
                · intro w hSw
                  obtain ⟨q', rfl⟩ := hSw
                  go_simp
                simp only [Act.put, List.setIfInBounds_toArray, List.set_cons_zero, List.set_cons_succ]
                refine wpAnyH_take (i := 33) (oi := { dst := some 171, op := .fieldAddr 34 (.tmp 170) 3, type := _, pos := _, after := _, guard := some (24, false) }) (v := .pointer (some ⟨g1, i * 5 + 3, none⟩)) rfl (by kernel_rfl) (by kernel_rfl) (by kernel_rfl) (fun _ _ _ h => h) (Or.inl ⟨by rfl, ?_⟩) hS ?_
                · intro w hSw
                  obtain ⟨q', rfl⟩ := hSw
                  go_simp
                simp only [Act.put, List.setIfInBounds_toArray, List.set_cons_zero, List.set_cons_succ]
                refine wpAnyH_take (i := 34) (oi := { dst := some 172, op := .load 32 (.tmp 171), type := _, pos := _, after := _, guard := some (24, false) }) rfl (by kernel_rfl) (by kernel_rfl) (by kernel_rfl) (fun _ _ _ h => h) (yieldsIf_load_mid (by rfl) 32 (.tmp 171) rfl g1 (i * 5 + 3) rfl (val2 T V) _ (fun w hSw => by obtain ⟨q', rfl⟩ := hSw; exact hr1) Tryd.underlying32 rfl i32) hS ?_
                simp only [Act.put, List.setIfInBounds_toArray, List.set_cons_zero, List.set_cons_succ]
                refine wpAnyH_take (i := 35) (oi := { dst := some 173, op := .binOp .neq 32 (.tmp 167) (.tmp 172) 32, type := _, pos := _, after := _, guard := some (24, false) }) (v := .bool false) rfl (by kernel_rfl) (by kernel_rfl) (by kernel_rfl) (fun _ _ _ h => h) (Or.inl ⟨by rfl, ?_⟩) hS ?_
                · intro w hSw
                  obtain ⟨q', rfl⟩ := hSw
                  go_simp
                simp only [Act.put, List.setIfInBounds_toArray, List.set_cons_zero, List.set_cons_succ]
                refine wpAnyH_take (i := 36) (oi := { dst := some 174, op := .pick (.tmp 162) (.const (.bool true)) (.tmp 173), type := _, pos := _, after := _, guard := none }) (v := .bool false) rfl (by kernel_rfl) (by kernel_rfl) (by kernel_rfl) (fun _ _ _ h => h) (Or.inl ⟨by rfl, ?_⟩) hS ?_
                · intro w hSw
                  obtain ⟨q', rfl⟩ := hSw
                  go_simp
                simp only [Act.put, List.setIfInBounds_toArray, List.set_cons_zero, List.set_cons_succ]
                refine wpAnyH_done (by kernel_rfl) ?_ _
                go_wp2
                go_roundw
                case rel => exact ⟨i + 1, by go_num, by omega, q9 + 1, rfl⟩
                case measure => simp [intOf]; omega
              · go_wp2
                go_ret
                exact ⟨rfl, ⟨hB9.os, hB9.tape, hB9.output, hB9.size, hB9.block⟩⟩
  · have hfa := lexS_fault _ ts E p HO.out hE0
    obtain ⟨hts, hpl⟩ := hfa
    rw [bytes_length] at hpl
    have hn0 : n = 0 := by rw [hn.out, hts]; rfl
    subst hn0
    have hq := run_eq25s E p hE0
    have c1 : w4.cell? ⟨w2.heap.size, 1, none⟩ = some (.int .i64 (p : Int)) := by rw [hA4.cell]; rfl
    clear hread4
    go_wp2_with (first | ((with_reducible show wpList _ _ _ _ _ _); refine wpList_load_at (P := Tryd.prog) rfl 25 (.tmp 5) rfl w2.heap.size rfl 25 (fa2 E p) hA4 _ Tryd.underlying25 rfl i25 ?_) | ((with_reducible show wpList _ _ _ _ _ _); refine wpList_build_at rfl 25 #[] rfl (fa2 0 0) (by kernel_rfl) ?_))
    all_goals
      go_ret
      exact ⟨rfl, hB4⟩

end Go.Proofs.YtinofdmdfhklpaaDoor
