/- J -/
import Derived.Test.YtjgggmjjikopeaaGreatDoorJ7
import Derived.Test.YtjgggmjjikopeaaGreatDoorJ8
import Derived.Maps.AppendAt
set_option linter.unusedVariables false
set_option maxRecDepth 100000
set_option maxHeartbeats 6400000
open Go.RowKit
namespace Go.Proofs.YtjgggmjjikopeaaGreatDoor
def ZP (l : List UInt8) : Prop := ∀ c ∈ l, 48 <= c.toNat /\ c.toNat <= 57
def Vk (n : Nat) (c : UInt8) : Nat := n * 10 + (c.toNat - 48)
def fo (acc : Nat) (l : List UInt8) : Nat := l.foldl Vk acc
theorem zgI (acc : Nat) : fo acc [] = acc := rfl
theorem zcd (acc : Nat) (c : UInt8) (r : List UInt8) : fo acc (c :: r) = fo (Vk acc c) r := List.foldl_cons ..
theorem zgH (l : List UInt8) : fo 0 l = zn l := rfl
theorem zg9 (l : List UInt8) : ∀ acc : Nat, acc <= fo acc l := by
 induction l with
 | nil => intro acc; exact zj _
 | cons c r ih => intro acc; rw [zcd]; exact zQ (by unfold Vk; omega) (ih (Vk acc c))
theorem zgc (M acc : Nat) : Lib.parseUintM M acc [] = .ok acc := by simp only [Lib.parseUintM]
theorem ze7 (M acc : Nat) (c : UInt8) (r : List UInt8) (hc : 48 <= c.toNat /\ c.toNat <= 57) : Lib.parseUintM M acc (c :: r) = if 1844674407370955162 <= acc then .range else if M < Vk acc c then .range else Lib.parseUintM M (Vk acc c) r := by
 have hd : Vk acc c = acc * 10 + (c.toNat - 48) := rfl
 rw [hd]
 simp only [Lib.parseUintM, hc.1, hc.2, and_self, if_true]
theorem qQ (M : Nat) (hM : 9 + 1844674407370955161 * 10 >= M) (l : List UInt8) (h : ZP l) : ∀ acc : Nat, acc <= M ->
  (fo acc l <= M /\ Lib.parseUintM M acc l = .ok (fo acc l)) \/ (M < fo acc l /\ Lib.parseUintM M acc l = .range) := by
 induction l with
 | nil => intro acc ha; left; rw [zgI, zgc]; exact ⟨ha, rfl⟩
 | cons c r ih =>
  intro acc ha
  have hc := h c List.mem_cons_self
  have hr : ZP r := fun d hd => h d (List.mem_cons_of_mem _ hd)
  have hge := zg9 r (Vk acc c)
  have hds : Vk acc c = acc * 10 + (c.toNat - 48) := rfl
  rw [ze7 M acc c r hc, zcd]
  by_cases h1 : 1844674407370955162 <= acc
  ·rw [zi h1]; right; exact ⟨by omega, rfl⟩
  ·rw [ze h1]
   by_cases h2 : M < Vk acc c
   ·rw [zi h2]; right; exact ⟨by omega, rfl⟩
   ·rw [ze h2]; exact ih hr _ (by omega)
theorem zbD (l : List UInt8) (h : ZP l) (hp : 0 < l.length) :
  Lib.parseIntB 64 l = if zn l <= 9223372036854775807 then .ok (zn l : Int) else .range := by
 match l, hp with
 | c :: r, _ =>
  have hc := h c List.mem_cons_self
  have h43 : ¬ (c.toNat = 43 \/ c.toNat = 45) := by omega
  have h45 : ¬ c.toNat = 45 := by omega
  obtain ⟨M, hM⟩ : ∃ M : Nat, M = 18446744073709551615 := ⟨_, rfl⟩
  have hu := qQ M (by omega) (c :: r) h 0 (by omega)
  have hv : fo 0 (c :: r) = zn (c :: r) := zgH _
  rw [hv] at hu
  simp only [Lib.parseIntB, Lib.parseUintB, ze h43, show (2 ^ 64 - 1 : Nat) = M from hM.symm, reduceCtorEq, if_false]
  generalize zn (c :: r) = V at hu ⊢
  rcases hu with ⟨h1, hu⟩ | ⟨h1, hu⟩
  ·rw [hu]
   simp only [h45, not_false_eq_true, true_and, false_and, if_false, show (2 ^ (64 - 1) : Nat) = 9223372036854775808 from rfl]
   by_cases h2 : V <= 9223372036854775807
   ·rw [zi h2, ze (by omega)]
   ·rw [ze h2, zi (by omega)]
  ·rw [hu, ze (by omega)]
theorem zaM (l : List UInt8) (h : ZP l) (hp : 0 < l.length) : zO l ↔ ((l.getD 0 0).toNat = 48 -> l.length = 1) /\ zn l <= 9223372036854775807 := by
 constructor
 ·intro g; exact ⟨g.2.1, g.2.2.2⟩
 ·rintro ⟨h1, h2⟩
  refine ⟨hp, h1, ?_, h2⟩
  intro j hj
  have : l.getD j 0 ∈ l := by simp [List.getD, yD hj]
  exact h _ this
theorem zfq (r : List UInt8) (h : (nmN r).1 = 2) : ZP (r.take (nmN r).2) := by
 induction r with
 | nil => intro c hc; simp [nmN] at hc
 | cons d q ih =>
  simp only [nmN] at h ⊢
  split at h
  ·simp at h
  ·next h0 =>
   rw [ze h0]
   split at h
   ·next hd =>
    rw [zi hd]
    intro c hc
    simp only [Y8] at hc
    rcases List.mem_cons.1 hc with rfl | hc
    ·simpa [zY] using hd
    ·exact ih h c hc
   ·next hd => rw [ze hd]; intro c hc; simp at hc
theorem YV (l : List UInt8) (h : (zI l).1 = 2) : ZP (l.take (zI l).2) := by
 match l with
 | [] => intro c hc; simp at hc
 | d :: r =>
  simp only [zI] at h ⊢
  split at h
  ·simp at h
  ·next h0 =>
   rw [ze h0]
   split at h
   ·next hd =>
    rw [zi hd]
    intro c hc
    simp only [Y8] at hc
    rcases List.mem_cons.1 hc with rfl | hc
    ·simpa [zY] using hd
    ·exact zfq r h c hc
   ·simp at h
def ErrR (w : World) : Prop := ∃ ev, w.cell? ⟨2, 0, none⟩ = some ev /\ (ev = .nilIface \/ ∃ te pe, ev = .iface te pe)
theorem ErrR.below {w w' : World} (h : ErrR w) (hb : Below w.heap.size w w') : ErrR w' := by
 obtain ⟨ev, h1, h2⟩ := h
 exact ⟨ev, by rw [hb.cell (Yn h1)]; exact h1, h2⟩
theorem zx {P : Program} {fn : Func} {p u : Tmp} {ty : TypeId} (h : fn.results = #[.cell p ty, .tmp u]) (tmps : Array Value) (w : World) (g : Nat) (t : TypeId) (cs : List Value) (d : TypeDesc)
  (hp : tmps.getD p undef = .pointer (some ⟨g, 0, none⟩)) (hg : At t w g cs)
  (hu : P.underlying ty = some d) (hd : (match d with | .struct _ | .array _ _ => true | _ => false) = true) (hi : (P.info? ty).map (·.size) = some cs.length) :
  (results fn tmps).run P w = .ok (.tuple #[.agg cs.toArray, tmps.getD u undef]) w := by
 have hp' : tmps[p]?.getD undef = .pointer (some ⟨g, 0, none⟩) := by simpa using hp
 have hl := run_loadVar_row (P := P) w g t ty cs.toArray (0, 0) d hg hu hd (by simpa using hi)
 simp [results, h, hp', asAddr, hl]
theorem y7 {P : Program} {fn : Func} {p u : Tmp} {ty : TypeId} (h : fn.results = #[.tmp u, .cell p ty]) (tmps : Array Value) (w : World) (g : Nat) (t : TypeId) (cs : List Value) (d : TypeDesc)
  (hp : tmps.getD p undef = .pointer (some ⟨g, 0, none⟩)) (hg : At t w g cs)
  (hu : P.underlying ty = some d) (hd : (match d with | .struct _ | .array _ _ => true | _ => false) = true) (hi : (P.info? ty).map (·.size) = some cs.length) :
  (results fn tmps).run P w = .ok (.tuple #[tmps.getD u undef, .agg cs.toArray]) w := by
 have hp' : tmps[p]?.getD undef = .pointer (some ⟨g, 0, none⟩) := by simpa using hp
 have hl := run_loadVar_row (P := P) w g t ty cs.toArray (0, 0) d hg hu hd (by simpa using hi)
 simp [results, h, hp', asAddr, hl]
def zy (t b : Nat) : List Value := [.int .u8 (t : Int), .int .u64 (b : Int)]
theorem z32 : (Tryz.prog.info? 40).map (fun i => (i.zero, i.size)) = some (some (.agg (zy 0 0).toArray), 2) := by kernel_rfl
theorem i32 : (Tryz.prog.info? 40).map (·.size) = some 2 := by kernel_rfl
theorem yj (t b : Nat) : ∀ v ∈ zy t b, v.oneCell' = true := by intro v hv; simp [zy] at hv; rcases hv with rfl | rfl <;> rfl
theorem zdm (s : ByteArray) (w : World) (hlim : s.size <= 1099511627776) : Calls Tryz.prog 87 #[.string s] w fun e w' => e = .returned (.string s) /\ Below w.heap.size w w' := by
 go_enter Tryz.func87, Tryz.ntmps87
 go_wp2_with fail
 refine (Tryz.stringslite_Clone s _ (by omega)).mono ?_
 rintro e w1 ⟨rfl, hb⟩
 go_wp2
 go_ret
 exact ⟨rfl, hb⟩
theorem zbI (K : Nat) (s : ByteArray) (w : World) : Calls Tryz.prog 53 #[.int .i64 (K : Int), .string s] w fun e w' => e = .returned (.bool (clB K (bytes s))) /\ w' = w := by
 by_cases h0 : s.size = 0
 ·have he := VY h0
  have hn : bytes s = [] := List.eq_nil_of_length_eq_zero (by rw [zc]; exact h0)
  rw [hn, clB, Bool.and_false]
  go_enter Tryz.func53, Tryz.ntmps53
  go_wp2
  go_ret
  exact ⟨rfl, rfl⟩
 ·have hp : 0 < s.size := by omega
  have he := Xi hp
  have hd := z8 s 0 hp
  rw [List.drop_zero] at hd
  rw [hd, clB]
  by_cases hK : K = 2 \/ K = 3
  ·have hKb : (decide (K = 2) || decide (K = 3)) = true := by simpa using hK
   rw [hKb, Bool.true_and]
   have hK' : (K : Int) = 2 \/ (K : Int) = 3 := by omega
   cases hl : z7 s[0].toNat
   ·rcases hK' with h | h
    all_goals
     rw [h]
     go_enter Tryz.func53, Tryz.ntmps53
     go_wp2_with (first | (go_at_call 91; refine (Yx _ _ false hl).mono ?_; rintro e w1 ⟨rfl, rfl⟩))
     go_ret
     refine ⟨?_, rfl⟩
     simp
     try (rw [Bool.eq_iff_iff]; simp)
     try omega
   ·rcases hK' with h | h
    all_goals
     rw [h]
     go_enter Tryz.func53, Tryz.ntmps53
     go_wp2_with (first | (go_at_call 91; refine (Yx _ _ true hl).mono ?_; rintro e w1 ⟨rfl, rfl⟩))
     go_ret
     exact ⟨rfl, rfl⟩
  ·have hKb : (decide (K = 2) || decide (K = 3)) = false := by simpa using hK
   rw [hKb, Bool.false_and]
   have h2 : ((K : Int) != 2) = true := by simp; omega
   have h3 : ((K : Int) != 3) = true := by simp; omega
   go_enter Tryz.func53, Tryz.ntmps53
   go_wp2
   go_ret
   exact ⟨rfl, rfl⟩
def zcu (good : Prop) (t b : Nat) (e : Ending) : Prop :=
 (good /\ e = .returned (.tuple #[.agg (zy t b).toArray, .bool true])) \/ (¬ good /\ e = .returned (.tuple #[.agg (zy 0 0).toArray, .bool false]))
theorem jf {w w' : World} {t : TypeId} (h : w' = w \/ ∃ x, w' = Lib.bytesWorld w t x) : Below w.heap.size w w' := by
 rcases h with rfl | ⟨x, rfl⟩
 ·exact Below.refl _ _
 ·exact Lib.bytesWorld_below _ _ _
theorem K9 (S : ByteArray) (w : World) (hp : 0 < S.size) (hmax : S.size <= 1099511627776) (hd : ZP (bytes S)) (hE : ErrR w) :
  Calls Tryz.prog 88 #[.string S] w fun e w' => zcu (zO (bytes S)) 1 (zn (bytes S)) e /\ Below w.heap.size w w' := by
 have hgi := zaM (bytes S) hd (by rw [zc]; exact hp)
 have hint := zbD (bytes S) hd (by rw [zc]; exact hp)
 rw [zc, yH S 0 hp] at hgi
 obtain ⟨V, hV⟩ : ∃ V, Hid (V = zn (bytes S)) := ⟨_, (rfl : zn (bytes S) = _)⟩
 obtain ⟨c0, hc0⟩ : ∃ c0 : Nat, S[0].toNat = c0 := ⟨_, rfl⟩
 rw [<- hV.out] at hgi hint ⊢
 rw [hc0] at hgi
 obtain ⟨G, hG⟩ : ∃ G, Hid (G = zO (bytes S)) := ⟨_, (rfl : zO (bytes S) = _)⟩
 rw [<- hG.out] at hgi ⊢
 have HGI : Hid (G ↔ (c0 = 48 -> S.size = 1) /\ V <= 9223372036854775807) := hgi
 have HI : Hid (Lib.parseIntB 64 S.data.toList = if V <= 9223372036854775807 then .ok (V : Int) else .range) := hint
 clear hgi hint hd
 by_cases hz : c0 = 48 /\ 1 < S.size
 ·obtain ⟨h1, h2⟩ := hz
  have hno : ¬ G := fun g => by have := (HGI.out.1 g).1 h1; omega
  have hc' : (c0 : Int) = 48 := by omega
  go_enter Tryz.func88, Tryz.ntmps88
  go_wp2_with (first | (refine zD rfl rfl z32 ?_; intro w1 hA1 hb1 hs1) | (refine zF rfl rfl (zy 0 0) ?_) | (refine zl rfl rfl hA1 (zy 0 0) rfl rfl i32 rfl (yj 0 0) ?_; intro w9 hA9 hb9 hs9))
  refine zr (zx rfl _ _ w.heap.size 40 (zy 0 0) _ rfl hA9 Tryz.underlying40 rfl i32) rfl ?_
  exact ⟨.inr ⟨hno, rfl⟩, hb9.below hb1 (zj _) (by omega)⟩
 ·have hz' : ((c0 : Int) == 48) = true /\ decide (1 < (S.size : Int)) = false \/ ((c0 : Int) == 48) = false := by
   by_cases h : c0 = 48
   ·left
    refine ⟨by rw [beq_iff_eq]; omega, ?_⟩
    simp; omega
   ·right; rw [zt]; omega
  have hone : c0 = 48 -> S.size = 1 := fun h => by
   have : ¬ 1 < S.size := fun h2 => hz ⟨h, h2⟩
   omega
  clear hz
  by_cases hv : V <= 9223372036854775807
  ·have hyes : G := HGI.out.2 ⟨hone, hv⟩
   have hok : Lib.parseIntB 64 S.data.toList = .ok (V : Int) := by rw [HI.out, zi hv]
   have hcall := fun w => Tryz.strconv_ParseInt_10_at64_ok S (by omega) (V : Int) hok w
   have HC : Hid (∀ w, Calls Tryz.prog 124 #[.string S, .int .i64 10, .int .i64 64] w fun e w' => e = .returned (.tuple #[.int .i64 (V : Int), .nilIface]) /\ (w' = w \/ ∃ t, w' = Lib.bytesWorld w 5 t)) := hcall
   clear hcall hok HI hone
   rcases hz' with ⟨hz1, hz2⟩ | hz1
   all_goals
    go_enter Tryz.func88, Tryz.ntmps88
    go_wp2_with (first | (refine zD rfl rfl z32 ?_; intro w1 hA1 hb1 hs1))
    refine (HC.out _).mono ?_
    rintro e w2 ⟨rfl, hW⟩
    have hb2 := jf hW
    have hA2 := hA1.below hb2
    have hb12 := hb1.trans (hb2.mono (by omega))
    clear hW
    go_wp2_with (first | (refine zF rfl rfl (zy 1 V) ?_) | (refine zl rfl rfl hA2 (zy 1 V) rfl rfl i32 rfl (yj 1 V) ?_; intro w9 hA9 hb9 hs9))
    refine zr (zx rfl _ _ w.heap.size 40 (zy 1 V) _ rfl hA9 Tryz.underlying40 rfl i32) rfl ?_
    exact ⟨.inl ⟨hyes, rfl⟩, hb9.below hb12 (zj _) hb12.size⟩
  ·have hno : ¬ G := fun g => hv (HGI.out.1 g).2
   have hrg : Lib.parseIntB 64 S.data.toList = .range := by rw [HI.out, ze hv]
   obtain ⟨ev, hev1, hev2⟩ := hE
   have hcall := fun (w : World) hv => Tryz.strconv_ParseInt_10_at64_range S (by omega) hrg ev w hv hev2
   have HC : Hid (∀ w : World, w.cell? ⟨2, 0, none⟩ = some ev -> Calls Tryz.prog 124 #[.string S, .int .i64 10, .int .i64 64] w fun e w' => ∃ n N, e = .returned (.tuple #[.int .i64 n, .iface 200 (.pointer (some ⟨N, 0, none⟩))]) /\ Below w.heap.size w w') := by
    intro w hv
    refine (hcall w hv).mono ?_
    rintro e w' ⟨N, h1, _, _, h4⟩
    exact ⟨_, N, h1, h4⟩
   have HEV : Hid (w.cell? ⟨2, 0, none⟩ = some ev) := hev1
   clear hcall hrg HI hone hev1 hev2
   rcases hz' with ⟨hz1, hz2⟩ | hz1
   all_goals
    go_enter Tryz.func88, Tryz.ntmps88
    go_wp2_with (first | (refine zD rfl rfl z32 ?_; intro w1 hA1 hb1 hs1))
    refine (HC.out _ (by rw [hb1.cell (Yn HEV.out)]; exact HEV.out)).mono ?_
    rintro e w2 ⟨n, N, rfl, hb2⟩
    have hA2 := hA1.below hb2
    have hb12 := hb1.trans (hb2.mono (by omega))
    go_wp2_with (first | (refine zF rfl rfl (zy 0 0) ?_) | (refine zl rfl rfl hA2 (zy 0 0) rfl rfl i32 rfl (yj 0 0) ?_; intro w9 hA9 hb9 hs9))
    refine zr (zx rfl _ _ w.heap.size 40 (zy 0 0) _ rfl hA9 Tryz.underlying40 rfl i32) rfl ?_
    exact ⟨.inr ⟨hno, rfl⟩, hb9.below hb12 (zj _) hb12.size⟩
theorem zcU (S : ByteArray) (w : World) (hmax : S.size <= 1099511627775) :
  Calls Tryz.prog 125 #[.string S] w fun e w' => YO (bytes S) e /\ ∃ q, w' = w.drewN q := by
 have h := zcV (bytes S) w (by rw [zc]; exact hmax)
 rwa [<- yv S] at h
theorem zcT (S : ByteArray) (w : World) (hmax : S.size <= 1099511627775) :
  Calls Tryz.prog 89 #[.string S] w fun e w' => zcu (yO (bytes S)) 3 (quo (yE (bytes S)) (10 ^ (zu (bytes S)).length)) e /\ Below w.heap.size w w' := by
 have hcall := fun w => zcU S w hmax
 have hPP : ∀ e, YO (bytes S) e -> (yO (bytes S) /\ e = .returned (.tuple #[.int .u64 (quo (yE (bytes S)) (10 ^ (zu (bytes S)).length) : Nat), .int .i64 0])) \/ (¬ yO (bytes S) /\ e = .returned (.tuple #[.int .u64 0, .int .i64 4])) := fun e h => h
 obtain ⟨V, hV⟩ : ∃ V, Hid (V = quo (yE (bytes S)) (10 ^ (zu (bytes S)).length)) := ⟨_, (rfl : quo (yE (bytes S)) (10 ^ (zu (bytes S)).length) = _)⟩
 rw [<- hV.out] at hPP ⊢
 obtain ⟨G, hG⟩ : ∃ G, Hid (G = yO (bytes S)) := ⟨_, (rfl : yO (bytes S) = _)⟩
 rw [<- hG.out] at hPP ⊢
 have HC : Hid (∀ w, Calls Tryz.prog 125 #[.string S] w fun e w' => ((G /\ e = .returned (.tuple #[.int .u64 (V : Nat), .int .i64 0])) \/ (¬ G /\ e = .returned (.tuple #[.int .u64 0, .int .i64 4]))) /\ ∃ q, w' = w.drewN q) := by
  intro w
  refine (hcall w).mono ?_
  rintro e w' ⟨h1, h2⟩
  exact ⟨hPP e h1, h2⟩
 clear hcall hPP
 go_enter Tryz.func89, Tryz.ntmps89
 go_wp2_with (first | (refine zD rfl rfl z32 ?_; intro w1 hA1 hb1 hs1))
 refine (HC.out _).mono ?_
 rintro e w2 ⟨⟨hg, rfl⟩ | ⟨hg, rfl⟩, q, hw2⟩
 ·have hA2 : At 40 w2 w.heap.size (zy 0 0) := by rw [hw2]; exact hA1.drewN q
  have hb12 : Below w.heap.size w w2 := by rw [hw2]; exact ⟨hb1.os, hb1.tape, hb1.output, hb1.size, hb1.block⟩
  clear hw2
  go_wp2_with (first | (refine zF rfl rfl (zy 3 V) ?_) | (refine zl rfl rfl hA2 (zy 3 V) rfl rfl i32 rfl (yj 3 V) ?_; intro w9 hA9 hb9 hs9))
  refine zr (zx rfl _ _ w.heap.size 40 (zy 3 V) _ rfl hA9 Tryz.underlying40 rfl i32) rfl ?_
  exact ⟨.inl ⟨hg, rfl⟩, hb9.below hb12 (zj _) hb12.size⟩
 ·have hA2 : At 40 w2 w.heap.size (zy 0 0) := by rw [hw2]; exact hA1.drewN q
  have hb12 : Below w.heap.size w w2 := by rw [hw2]; exact ⟨hb1.os, hb1.tape, hb1.output, hb1.size, hb1.block⟩
  clear hw2
  go_wp2_with (first | (refine zF rfl rfl (zy 0 0) ?_) | (refine zl rfl rfl hA2 (zy 0 0) rfl rfl i32 rfl (yj 0 0) ?_; intro w9 hA9 hb9 hs9))
  refine zr (zx rfl _ _ w.heap.size 40 (zy 0 0) _ rfl hA9 Tryz.underlying40 rfl i32) rfl ?_
  exact ⟨.inr ⟨hg, rfl⟩, hb9.below hb12 (zj _) hb12.size⟩
def zm (K : Nat) (S : ByteArray) (p t b : Nat) : List Value := [.int .i64 (K : Int), .string S, .int .i64 (p : Int), .int .u8 (t : Int), .int .u64 (b : Int)]
theorem z34 : (Tryz.prog.info? 64).map (fun i => (i.zero, i.size)) = some (some (.agg (zm 0 ⟨#[]⟩ 0 0 0).toArray), 5) := by kernel_rfl
theorem i34 : (Tryz.prog.info? 64).map (·.size) = some 5 := by kernel_rfl
theorem yo (K : Nat) (S : ByteArray) (p t b : Nat) : ∀ v ∈ zm K S p t b, v.oneCell' = true := by intro v hv; simp [zm] at hv; rcases hv with rfl | rfl | rfl | rfl | rfl <;> rfl
def J5 (s : ByteArray) (k K n : Nat) (e : Ending) : Prop :=
 e = .returned (.tuple #[.agg (if zG K (((bytes s).drop k).take n) = 0 then zm K (s.extract k (k + n)) k (yh K) (ZT K (((bytes s).drop k).take n)) else zm 0 ⟨#[]⟩ 0 0 0).toArray, .int .i64 (zG K (((bytes s).drop k).take n) : Nat)])
theorem qR (s : ByteArray) (k K n : Nat) (w : World) (hk : k < s.size) (hs : s.size <= 1099511627775) (hE : ErrR w) (hKn : zI ((bytes s).drop k) = (K, n)) :
  Calls Tryz.prog 52 #[.string s, .int .i64 (k : Int)] w fun e w' => J5 s k K n e /\ Below w.heap.size w w' := by
 have hend := VH s k
 rw [hKn] at hend
 have hbd := Zv ((bytes s).drop k) (by rw [yC, zc]; omega)
 rw [hKn, yC, zc] at hbd
 obtain ⟨hn1, hn2, hKs⟩ := hbd
 simp only [] at hn1 hn2 hKs
 have hdig : K = 2 -> ZP (((bytes s).drop k).take n) := fun h => by have := YV ((bytes s).drop k) (by rw [hKn]; exact h); rwa [hKn] at this
 have hbS : bytes (s.extract k (k + n)) = ((bytes s).drop k).take n := by rw [yp, XP]
 obtain ⟨S, hS⟩ : ∃ S, Hid (S = s.extract k (k + n)) := ⟨_, (rfl : s.extract k (k + n) = _)⟩
 have hSz : S.size = n := by rw [hS.out, <- zc, hbS, Yj, yC, zc]; omega
 have HPost : Hid (∀ e, J5 s k K n e ↔ e = .returned (.tuple #[.agg (if zG K (bytes S) = 0 then zm K S k (yh K) (ZT K (bytes S)) else zm 0 ⟨#[]⟩ 0 0 0).toArray, .int .i64 (zG K (bytes S) : Nat)])) := by
  intro e; rw [J5, hS.out, hbS]
 have hdig' : K = 2 -> ZP (bytes S) := by rw [hS.out, hbS]; exact hdig
 have HEnd : Hid (∀ w, Calls Tryz.prog 86 #[.string s, .int .i64 (k : Int)] w fun e w' => e = .returned (.tuple #[.int .i64 (K : Int), .int .i64 ((k + n : Nat) : Int)]) /\ w' = w) := fun w => hend w hk (by omega)
 have HDig : Hid (K = 2 -> ZP (bytes S)) := hdig'
 clear hend hdig hdig' hKn
 have hle : k + n <= s.size := by omega
 go_enter Tryz.func52, Tryz.ntmps52
 go_wp2_with (first | (refine zD rfl rfl z34 ?_; intro w1 hA1 hb1 hs1))
 refine (HEnd.out _).mono ?_
 rintro e w1' ⟨rfl, hw1⟩
 rw [hw1]
 clear hw1
 go_wp2_with fail
 rw [<- hS.out]
 refine (zdm S _ (by omega)).mono ?_
 rintro e w2 ⟨rfl, hb2⟩
 have hA2 := hA1.below hb2
 have hb12 := hb1.trans (hb2.mono (by omega))
 have hlt2 : w.heap.size < w2.heap.size := hA2.lt
 clear hb2
 go_wp2_with (first | (refine zF rfl rfl (zm K S k 0 0) ?_) | (refine zD rfl rfl z34 ?_; intro w3 hA3 hb3 hs3) | (refine zl rfl rfl hA3 (zm K S k 0 0) rfl rfl i34 rfl (yo K S k 0 0) ?_; intro w4 hA4 hb4 hs4; refine zb ?_))
 refine Lib.hid ?_
 have hB4 : Below w.heap.size w w4 := hb4.below (hb12.trans (hb3.mono hb12.size)) (by omega) (by omega)
 have hAr4 : At 64 w4 w.heap.size (zm 0 ⟨#[]⟩ 0 0 0) := hb4.at (hA2.below hb3) (by omega)
 have hcell1 : w4.cell? ⟨w2.heap.size, 1, none⟩ = some (.string S) := by rw [hA4.cell]; rfl
 clear hb3 hA3 hb4 hA2 hA1 hb12
 have hlen : (bytes S).length = n := by rw [zc]; exact hSz
 rcases hKs with rfl | rfl | rfl | rfl
 ·by_cases h24 : 24 < n
  ·have hfin : Hid (zG 1 (bytes S) = 5) := by simp [Hid, zG, hlen, h24]
   go_wp2_with (first | (refine zF rfl rfl (zm 0 ⟨#[]⟩ 0 0 0) ?_) | (refine zl rfl rfl hAr4 (zm 0 ⟨#[]⟩ 0 0 0) rfl rfl i34 rfl (yo _ _ _ _ _) ?_; intro w9 hA9 hb9 hs9))
   refine zr (zx rfl _ _ w.heap.size 64 (zm 0 ⟨#[]⟩ 0 0 0) _ rfl hA9 Tryz.underlying64 rfl i34) rfl ?_
   exact ⟨(HPost.out _).2 (by rw [hfin.out]; rfl), hb9.below hB4 (zj _) hB4.size⟩
  ·have hfin : Hid (zG 1 (bytes S) = 0) := by simp [Hid, zG, hlen, h24]
   go_wp2_with (first | (refine lL rfl rfl hA4 rfl Tryz.underlying64 rfl i34 ?_) | (refine zl rfl rfl hAr4 (zm 1 S k 0 0) rfl rfl i34 rfl (yo _ _ _ _ _) ?_; intro w9 hA9 hb9 hs9))
   refine zr (zx rfl _ _ w.heap.size 64 (zm 1 S k 0 0) _ rfl hA9 Tryz.underlying64 rfl i34) rfl ?_
   exact ⟨(HPost.out _).2 (by rw [hfin.out]; rfl), hb9.below hB4 (zj _) hB4.size⟩
 ·go_wp2_with fail
  refine (K9 S _ (by omega) (by omega) (HDig.out (by trivial)) (hE.below hB4)).mono ?_
  rintro e w5 ⟨⟨hg, rfl⟩ | ⟨hg, rfl⟩, hb5⟩
  ·have hfin : Hid (zG 2 (bytes S) = 0) := by simp [Hid, zG, hg]
   have hval : Hid (ZT 2 (bytes S) = zn (bytes S)) := by simp [Hid, ZT]
   obtain ⟨V, hV⟩ : ∃ V, Hid (V = zn (bytes S)) := ⟨_, (rfl : zn (bytes S) = _)⟩
   rw [<- hV.out]
   have hA5 := hA4.below hb5
   have hAr5 := hAr4.below hb5
   have hB5 := hB4.trans (hb5.mono hB4.size)
   have hlt5 : w.heap.size < w5.heap.size := hAr5.lt
   go_wp2_with (first | (refine yV rfl rfl hA5 3 (.int .u8 1) (.int .u64 (V : Int)) rfl rfl i32 (yj 1 V) ?_; intro w6 hA6 hb6 hs6; refine zb ?_))
   refine Lib.hid ?_
   have hB6 : Below w.heap.size w w6 := hb6.below hB5 (by omega) (by omega)
   have hAr6 : At 64 w6 w.heap.size (zm 0 ⟨#[]⟩ 0 0 0) := hb6.at hAr5 (by omega)
   have hA6' : At 64 w6 w2.heap.size (zm 2 S k 1 V) := hA6
   go_wp2_with (first | (refine lL rfl rfl hA6' rfl Tryz.underlying64 rfl i34 ?_) | (refine zl rfl rfl hAr6 (zm 2 S k 1 V) rfl rfl i34 rfl (yo _ _ _ _ _) ?_; intro w9 hA9 hb9 hs9))
   refine zr (zx rfl _ _ w.heap.size 64 (zm 2 S k 1 V) _ rfl hA9 Tryz.underlying64 rfl i34) rfl ?_
   exact ⟨(HPost.out _).2 (by rw [hfin.out, hval.out, <- hV.out]; rfl), hb9.below hB6 (zj _) hB6.size⟩
  ·have hfin : Hid (zG 2 (bytes S) = 4) := by simp [Hid, zG, hg]
   have hA5 := hA4.below hb5
   have hAr5 := hAr4.below hb5
   have hB5 := hB4.trans (hb5.mono hB4.size)
   have hlt5 : w.heap.size < w5.heap.size := hAr5.lt
   go_wp2_with (first | (refine yV rfl rfl hA5 3 (.int .u8 0) (.int .u64 0) rfl rfl i32 (yj 0 0) ?_; intro w6 hA6 hb6 hs6; refine zb ?_))
   refine Lib.hid ?_
   have hB6 : Below w.heap.size w w6 := hb6.below hB5 (by omega) (by omega)
   have hAr6 : At 64 w6 w.heap.size (zm 0 ⟨#[]⟩ 0 0 0) := hb6.at hAr5 (by omega)
   go_wp2_with (first | (refine zF rfl rfl (zm 0 ⟨#[]⟩ 0 0 0) ?_) | (refine zl rfl rfl hAr6 (zm 0 ⟨#[]⟩ 0 0 0) rfl rfl i34 rfl (yo _ _ _ _ _) ?_; intro w9 hA9 hb9 hs9))
   refine zr (zx rfl _ _ w.heap.size 64 (zm 0 ⟨#[]⟩ 0 0 0) _ rfl hA9 Tryz.underlying64 rfl i34) rfl ?_
   exact ⟨(HPost.out _).2 (by rw [hfin.out]; rfl), hb9.below hB6 (zj _) hB6.size⟩
 ·go_wp2_with fail
  refine (zcT S _ (by omega)).mono ?_
  rintro e w5 ⟨⟨hg, rfl⟩ | ⟨hg, rfl⟩, hb5⟩
  ·have hfin : Hid (zG 3 (bytes S) = 0) := by simp [Hid, zG, hg]
   have hval : Hid (ZT 3 (bytes S) = quo (yE (bytes S)) (10 ^ (zu (bytes S)).length)) := by simp [Hid, ZT]
   obtain ⟨V, hV⟩ : ∃ V, Hid (V = quo (yE (bytes S)) (10 ^ (zu (bytes S)).length)) := ⟨_, (rfl : quo (yE (bytes S)) (10 ^ (zu (bytes S)).length) = _)⟩
   rw [<- hV.out]
   have hA5 := hA4.below hb5
   have hAr5 := hAr4.below hb5
   have hB5 := hB4.trans (hb5.mono hB4.size)
   have hlt5 : w.heap.size < w5.heap.size := hAr5.lt
   go_wp2_with (first | (refine yV rfl rfl hA5 3 (.int .u8 3) (.int .u64 (V : Int)) rfl rfl i32 (yj 3 V) ?_; intro w6 hA6 hb6 hs6; refine zb ?_))
   refine Lib.hid ?_
   have hB6 : Below w.heap.size w w6 := hb6.below hB5 (by omega) (by omega)
   have hAr6 : At 64 w6 w.heap.size (zm 0 ⟨#[]⟩ 0 0 0) := hb6.at hAr5 (by omega)
   have hA6' : At 64 w6 w2.heap.size (zm 3 S k 3 V) := hA6
   go_wp2_with (first | (refine lL rfl rfl hA6' rfl Tryz.underlying64 rfl i34 ?_) | (refine zl rfl rfl hAr6 (zm 3 S k 3 V) rfl rfl i34 rfl (yo _ _ _ _ _) ?_; intro w9 hA9 hb9 hs9))
   refine zr (zx rfl _ _ w.heap.size 64 (zm 3 S k 3 V) _ rfl hA9 Tryz.underlying64 rfl i34) rfl ?_
   exact ⟨(HPost.out _).2 (by rw [hfin.out, hval.out, <- hV.out]; rfl), hb9.below hB6 (zj _) hB6.size⟩
  ·have hfin : Hid (zG 3 (bytes S) = 4) := by simp [Hid, zG, hg]
   have hA5 := hA4.below hb5
   have hAr5 := hAr4.below hb5
   have hB5 := hB4.trans (hb5.mono hB4.size)
   have hlt5 : w.heap.size < w5.heap.size := hAr5.lt
   go_wp2_with (first | (refine yV rfl rfl hA5 3 (.int .u8 0) (.int .u64 0) rfl rfl i32 (yj 0 0) ?_; intro w6 hA6 hb6 hs6; refine zb ?_))
   refine Lib.hid ?_
   have hB6 : Below w.heap.size w w6 := hb6.below hB5 (by omega) (by omega)
   have hAr6 : At 64 w6 w.heap.size (zm 0 ⟨#[]⟩ 0 0 0) := hb6.at hAr5 (by omega)
   go_wp2_with (first | (refine zF rfl rfl (zm 0 ⟨#[]⟩ 0 0 0) ?_) | (refine zl rfl rfl hAr6 (zm 0 ⟨#[]⟩ 0 0 0) rfl rfl i34 rfl (yo _ _ _ _ _) ?_; intro w9 hA9 hb9 hs9))
   refine zr (zx rfl _ _ w.heap.size 64 (zm 0 ⟨#[]⟩ 0 0 0) _ rfl hA9 Tryz.underlying64 rfl i34) rfl ?_
   exact ⟨(HPost.out _).2 (by rw [hfin.out]; rfl), hb9.below hB6 (zj _) hB6.size⟩
 ·cases hsg : YX (bytes S)
  ·have hfin : Hid (zG 4 (bytes S) = 4) := by simp [Hid, zG, hsg]
   have HSG : Hid (YX (bytes S) = false) := hsg
   clear hsg
   go_wp2_with fail
   refine (Vq S _).mono ?_
   rw [HSG.out]
   rintro e w5 ⟨rfl, hw5⟩
   rw [hw5]
   clear hw5
   go_wp2_with (first | (refine zF rfl rfl (zm 0 ⟨#[]⟩ 0 0 0) ?_) | (refine zl rfl rfl hAr4 (zm 0 ⟨#[]⟩ 0 0 0) rfl rfl i34 rfl (yo _ _ _ _ _) ?_; intro w9 hA9 hb9 hs9))
   refine zr (zx rfl _ _ w.heap.size 64 (zm 0 ⟨#[]⟩ 0 0 0) _ rfl hA9 Tryz.underlying64 rfl i34) rfl ?_
   exact ⟨(HPost.out _).2 (by rw [hfin.out]; rfl), hb9.below hB4 (zj _) hB4.size⟩
  ·have hfin : Hid (zG 4 (bytes S) = 0) := by simp [Hid, zG, hsg]
   have HSG : Hid (YX (bytes S) = true) := hsg
   clear hsg
   go_wp2_with fail
   refine (Vq S _).mono ?_
   rw [HSG.out]
   rintro e w5 ⟨rfl, hw5⟩
   rw [hw5]
   clear hw5
   go_wp2_with (first | (refine lL rfl rfl hA4 rfl Tryz.underlying64 rfl i34 ?_) | (refine zl rfl rfl hAr4 (zm 4 S k 0 0) rfl rfl i34 rfl (yo _ _ _ _ _) ?_; intro w9 hA9 hb9 hs9))
   refine zr (zx rfl _ _ w.heap.size 64 (zm 4 S k 0 0) _ rfl hA9 Tryz.underlying64 rfl i34) rfl ?_
   exact ⟨(HPost.out _).2 (by rw [hfin.out]; rfl), hb9.below hB4 (zj _) hB4.size⟩
def Yp (ts : List Tk) : List Value := (ts.map Tk.cells).flatten
theorem zaP (ts : List Tk) : (Yp ts).length = ts.length * 5 := by
 induction ts with
 | nil => rfl
 | cons t r ih => simp [Yp, Tk.cells] at ih ⊢; omega
theorem JJ (a b : List Tk) : Yp (a ++ b) = Yp a ++ Yp b := by simp [Yp]
theorem qv (ts : List Tk) (i : Nat) (t : Tk) (h : ts[i]? = some t) : ((Yp ts).drop (i * 5)).take 5 = t.cells := by
 induction ts generalizing i with
 | nil => simp at h
 | cons u r ih =>
  cases i with
  | zero =>
   simp at h
   subst h
   simp [Yp, Tk.cells]
  | succ j =>
   have := ih j (by simpa using h)
   rw [show (j + 1) * 5 = 5 + j * 5 by omega, <- List.drop_drop]
   simpa [Yp, Tk.cells] using this
def Toks (base : Nat) (w : World) (v : Value) (ts : List Tk) : Prop := w.ownsRow base 64 5 v ts.length (Yp ts)
theorem Toks.nil (base : Nat) (w : World) : Toks base w (.slice none 0 0) [] := ⟨rfl, .inl ⟨rfl, rfl⟩⟩
theorem Toks.keep {base : Nat} {w w' : World} {v : Value} {ts : List Tk} (h : Toks base w v ts) (hk : ∀ g, v.ownBlock = some g -> g < w.heap.size -> w'.heap[g]? = w.heap[g]?) : Toks base w' v ts := by
 obtain ⟨h1, h2 | ⟨g, cap, cur, rfl, hg, hh, hr⟩⟩ := h
 ·exact ⟨h1, .inl h2⟩
 ·have hlt : g < w.heap.size := by
   rcases Nat.lt_or_ge g w.heap.size with hlt | hge
   ·exact hlt
   ·rw [Array.getElem?_eq_none hge] at hh; simp at hh
  exact ⟨h1, .inr ⟨g, cap, cur, rfl, hg, by rw [hk g rfl hlt]; exact hh, hr⟩⟩
theorem Toks.below {base : Nat} {w w' : World} {v : Value} {ts : List Tk} (h : Toks base w v ts) (hb : Below w.heap.size w w') : Toks base w' v ts :=
 h.keep fun g _ hlt => hb.block g hlt
theorem Toks.low {base base' : Nat} {w : World} {v : Value} {ts : List Tk} (h : Toks base w v ts) (hb : base' <= base) : Toks base' w v ts := by
 obtain ⟨h1, h2 | ⟨g, cap, cur, rfl, hg, hh, hr⟩⟩ := h
 ·exact ⟨h1, .inl h2⟩
 ·exact ⟨h1, .inr ⟨g, cap, cur, rfl, by omega, hh, hr⟩⟩
theorem Toks.block {base : Nat} {w : World} {v : Value} {ts : List Tk} (h : Toks base w v ts) : ∀ k, v.ownBlock = some k -> base <= k := by
 intro k hk
 obtain ⟨_, ⟨rfl, _⟩ | ⟨g, cap, cur, rfl, hg, _⟩⟩ := h
 ·simp [Value.ownBlock] at hk
 ·simp [Value.ownBlock] at hk
  omega
theorem Toks.open {base : Nat} {w : World} {v : Value} {ts : List Tk} (h : Toks base w v ts) :
  (v = .slice none 0 0 /\ ts = []) \/ ∃ g cap, v = .slice (some ⟨g, 0, none⟩) ts.length cap /\ base <= g /\ g < w.heap.size /\ ts.length <= cap /\ cap <= maxLen /\ (∀ i t, ts[i]? = some t -> w.rangeAt g (i * 5) t.cells) /\ (∀ i, i < ts.length -> w.there g (i * 5) 5) := by
 obtain ⟨h1, ⟨rfl, h2⟩ | ⟨g, cap, cur, rfl, hg, hh, hc, hm, hs, ht⟩⟩ := h
 ·exact .inl ⟨rfl, List.length_eq_zero_iff.1 h2⟩
 ·have hlt : g < w.heap.size := by
   rcases Nat.lt_or_ge g w.heap.size with hlt | hge
   ·exact hlt
   ·rw [Array.getElem?_eq_none hge] at hh; simp at hh
  have hA : At 64 w g cur.toList := by simpa [At] using hh
  refine .inr ⟨g, cap, rfl, hg, hlt, hc, hm, ?_, ?_⟩
  ·intro i t hi
   have hil : i < ts.length := (List.getElem?_eq_some_iff.1 hi).1
   have := hA.range (i * 5) 5
   have e : (cur.toList.drop (i * 5)).take 5 = t.cells := by
    rw [<- qv ts i t hi, <- ht, List.drop_take, List.take_take]
    congr 1
    omega
   rwa [e] at this
  ·intro i hi
   exact hA.there (i * 5) 5 (by rw [Array.length_toList, hs]; omega)
theorem Try.i34' : (Tryz.prog.info? 64).map (fun i => (i.zero, i.size, i.bytes)) = some (some (.agg (zm 0 ⟨#[]⟩ 0 0 0).toArray), 5, 48) := by kernel_rfl
section
variable {ops : Array Oper} {rest : List Oper} {o : Oper} {a : Act} {w : World} {Q : Exit -> Act -> World -> Prop}
theorem Y7 (hgd : o.guard = none) (x : Operand) (ho : o.op = .buildSlice 60 1 #[(0, x)]) (K : Nat) (S : ByteArray) (p t b : Nat) (hx : a.eval x = .agg (zm K S p t b).toArray)
  (h : ∀ w', At 64 w' w.heap.size (zm K S p t b) -> Below w.heap.size w w' -> w'.heap.size = w.heap.size + 1 -> wpList Tryz.prog ops Q rest (a.put o.dst (.slice (some ⟨w.heap.size, 0, none⟩) 1 1)) w') :
  wpList Tryz.prog ops Q (o :: rest) a w := by
 obtain ⟨ie, hi, hz0, hz1, hz2⟩ := info_parts Try.i34'
 refine wpList_buildSlice hgd 60 64 1 #[(0, x)] ho (zm K S p t b).toArray ie (.agg (zm 0 ⟨#[]⟩ 0 0 0).toArray) Tryz.underlying60 hi hz0 (by rw [hz1]; decide) (by rw [hz1]; decide) ?_ ?_
 ·rw [hz1]
  simp only [List.map_toArray, Yi, List.map_nil, hx]
  kernel_rfl
 ·exact h _ (_root_.Go.heap_alloc_new w _) ((Below.refl _ w).alloc (zj _) _) (by show (w.heap.push _).size = _; simp)
theorem Jp (hgd : o.guard = none) (s x : Operand) (ho : o.op = .call { callee := .builtin .append, args := #[s, x], argTypes := #[60, 60] })
  (base g : Nat) (v : Value) (ts : List Tk) (tk : Tk) (hs : a.eval s = v) (hx : a.eval x = .slice (some ⟨g, 0, none⟩) 1 1) (hown : Toks base w v ts) (hA : At 64 w g tk.cells)
  (hlen : ts.length <= 1048576) (hbase : base <= w.heap.size)
  (h : ∀ v' w', Toks base w' v' (ts ++ [tk]) -> Below base w w' -> wpList Tryz.prog ops Q rest (a.put o.dst v') w') :
  wpList Tryz.prog ops Q (o :: rest) a w := by
 obtain ⟨ie, hi, hz0, hz1, hz2⟩ := info_parts Try.i34'
 refine wpList_append_own_at w hgd s x 60 ho base 64 ie (.agg (zm 0 ⟨#[]⟩ 0 0 0).toArray) 5 48 Tryz.underlying60 hi hz0 hz1 hz2 rfl (by decide) v ts.length (Yp ts) hs hown
  ⟨g, 0, none⟩ 1 1 tk.cells hx rfl ?_ ?_ ?_ ?_ hbase ?_
 ·intro j u hj
  rw [Addr.add_mid, hA.cell, Nat.zero_add]; exact hj
 ·intro u hu
  simp [Tk.cells] at hu
  rcases hu with rfl | rfl | rfl | rfl | rfl <;> rfl
 ·unfold maxLen; omega
 ·omega
 ·intro v' w' h1 h2 _ _
  refine h v' w' ?_ ?_
  ·have e : Yp (ts ++ [tk]) = Yp ts ++ tk.cells := by rw [JJ]; simp [Yp]
   unfold Toks
   rw [e, yN]
   exact h1
  ·exact (Below.refl base w).grown h2 hbase hown.block
end
