/- OpenA LKeep LKeepL -/
import Derived.Test.YthmopindibdhnaaGreatDoorM01
import Derived.ProofKit
import Derived.OpenShut
import Derived.Lib.SmallJoins
import Derived.SizedLaws
import Derived.Test.YthmopindibdhnaaGreatDoorM32
import Derived.Test.YthmopindibdhnaaGreatDoorM23
import Derived.Test.YthmopindibdhnaaGreatDoorM35
import Derived.StillTailTactics
namespace Go.Proofs.YthmopindibdhnaaGreatDoor
open Go.ChangeShapes Go.WideShapes Go.ChangeAt Go.RowKit Go.Joins
def textsD {H : Type} (l m : List UInt8) : DataW H := .agg [.lit (.string l), .lit (.string m)]
theorem cellsA : Tryz.prog.cellsOf 35 = 2 := by kernel_rfl
theorem cellsS2 : Tryz.prog.cellsOf 9 = 1 := by kernel_rfl
set_option maxRecDepth 100000 in
theorem open_texts2 {H : Type} {enc : TypeId × Value → H} {w : World} {r : Reach} {b0 base : Nat} {sp : Nat → Bool} {held : Bool} {v : Value} {d : DataW H} {p : List MemPlace}
    (hv : Value.okWide Tryz.prog w r b0 35 v) (h : DataW.Trod enc Tryz.prog w base sp held 35 v d p) :
    ∃ (s t : ByteArray), v = .agg #[.string s, .string t] ∧ d = textsD s.data.toList t.data.toList ∧ p = [] ∧ s.size ≤ maxLen ∧ t.size ≤ maxLen := by
  have hv2 : ∃ cs, v = .agg cs ∧ cs.size = Tryz.prog.cellsOf 35 := by
    simp only [Value.okWide, Tryz.underlying35] at hv
    obtain ⟨cs, h1, h2, _⟩ := hv
    exact ⟨cs, h1, h2⟩
  obtain ⟨cs, rfl, hsz⟩ := hv2
  obtain ⟨c0, c1, rfl⟩ := array2 (hsz.trans cellsA)
  obtain ⟨fuel, hf⟩ := h
  obtain ⟨xs, m, _, hx, _, hl, hi⟩ := DataW.trod_array Tryz.underlying35 hf
  have h0 := hi 0 (by decide)
  have h1 := hi 1 (by decide)
  rw [cellsS2] at h0 h1
  match xs, hl with
  | [y0, y1], _ =>
    have h0' : DataW.trod enc Tryz.prog w base sp held m 9 [c0] = some y0 := by simpa [Value.cells] using h0
    have h1' : DataW.trod enc Tryz.prog w base sp held m 9 [c1] = some y1 := by simpa [Value.cells] using h1
    obtain ⟨s, e0, rfl, w0⟩ := DataW.trod_string Tryz.underlying9 h0'
    obtain ⟨t, e1, rfl, w1⟩ := DataW.trod_string Tryz.underlying9 h1'
    simp at e0 e1
    subst e0 e1
    simp only [Prod.mk.injEq] at hx
    exact ⟨s, t, rfl, hx.1, by rw [hx.2]; rfl, w0, w1⟩
theorem shut_texts2 {H : Type} {enc : TypeId × Value → H} {w : World} {base : Nat} {sp : Nat → Bool} {held : Bool} {s t : ByteArray} (ws : s.size ≤ maxLen) (wt : t.size ≤ maxLen) :
    DataW.Trod enc Tryz.prog w base sp held 35 (.agg #[.string s, .string t]) (textsD s.data.toList t.data.toList) [] := by
  refine ⟨2, ?_⟩
  unfold DataW.trod
  rw [Tryz.underlying35]
  have r2 : List.range 2 = [0, 1] := rfl
  simp [Value.cells, cellsA, cellsS2, r2, DataW.trod, Tryz.underlying9, ws, wt, textsD]
theorem sized_texts2 {H : Type} {ts : List TypeId} {ds : List (DataW H)} (h : (DataW.weightsEach Tryz.prog ts ds).all (· ≤ reachBytes) = true) {j : Nat} {s t : ByteArray}
    (ht : ts[j]? = some 35) (hd : ds[j]? = some (textsD s.data.toList t.data.toList)) : s.size ≤ 140737488351232 ∧ t.size ≤ 140737488351232 := by
  have h1 := List.all_eq_true.1 h _ (DataW.weights_mem_each ht hd s.data.toList.length (by simp [textsD, DataW.weights, DataW.weightsAll, Tryz.underlying35]))
  have h2 := List.all_eq_true.1 h _ (DataW.weights_mem_each ht hd t.data.toList.length (by simp [textsD, DataW.weights, DataW.weightsAll, Tryz.underlying35]))
  rw [sizeL] at h1 h2
  exact ⟨of_decide_eq_true h1, of_decide_eq_true h2⟩
end Go.Proofs.YthmopindibdhnaaGreatDoor
namespace Go.Proofs.YthmopindibdhnaaGreatDoor.G
open Go.RowKit Go.Shelf Go.Maps
def keptY (r : List RTok × List Bool) : Except Nat (List RTok × List Bool) → Value
  | .error e => .tuple #[.int .i64 0, .int .i64 (e : Int)]
  | .ok r2 => .tuple #[.int .i64 (alikeN (toksOf r.1) (toksOf r2.1)), .int .i64 0]
/-- what Kept gives -/
def keptV (X Y : Except Nat (List RTok × List Bool)) (n : Nat) (a b : Int) : Value := match X with
  | .error e => .tuple #[.int .i64 0, .int .i64 (e : Int)]
  | .ok r => if a < 0 ∨ b < a ∨ (n : Int) < b then .tuple #[.int .i64 0, .int .i64 1] else keptY r Y
theorem kept_tup (X Y : Except Nat (List RTok × List Bool)) (m : Nat) (a b : Int) : ∃ n e : Int, keptV X Y m a b = .tuple #[.int .i64 n, .int .i64 e] := by
  unfold keptV
  split
  · exact ⟨_, _, rfl⟩
  · split
    · exact ⟨_, _, rfl⟩
    · cases Y with
      | error e => exact ⟨_, _, rfl⟩
      | ok r2 => exact ⟨_, _, rfl⟩
/-- a source in which a part is replaced -/
def newL (s t : ByteArray) (a b : Int) : List UInt8 := s.data.toList.take a.toNat ++ t.data.toList ++ s.data.toList.drop b.toNat
theorem toks_own {w : World} {base : Nat} {v : Value} {l : List Tok} (h : OwnT w base v l) : TksIs w v l := by
  by_cases hl : l = []
  · obtain ⟨ao, cap, hv⟩ := ownsRow_shape h
    exact ⟨ao, cap, hv, fun i hi => by rw [hl] at hi; exact absurd hi (Nat.not_lt_zero _)⟩
  · have hne : 0 < l.length := List.length_pos_iff.2 hl
    obtain ⟨g, cap, hv, _⟩ := tok_at h hne
    refine ⟨_, cap, hv, fun k hk => ?_⟩
    obtain ⟨g2, cap2, hv2, _, hlt, c⟩ := tok_at h hk
    rw [hv] at hv2
    injection hv2 with e1 _ _
    injection e1 with e1
    injection e1 with e1 _ _
    subst e1
    refine ⟨g, 0, rfl, hlt, ?_⟩
    simp only [Nat.zero_add]
    exact c
def LexQ (w : World) (X : Except Nat (List RTok × List Bool)) (e : Ending) (w' : World) : Prop :=
  match X with
  | .error n => (∃ p : Int, e = .returned (.tuple #[.slice none 0 0, .int .i64 p, .int .i64 (n : Int)])) ∧ Gr w w'
  | .ok r => (∃ tv m, e = .returned (.tuple #[tv, .int .i64 m, .int .i64 0]) ∧ TksIs w' tv (toksOf r.1)) ∧ r.1.length ≤ 1000 ∧ Gr w w'
theorem lexq_p (s : ByteArray) (w : World) (hFA : ∀ W, Gr w W → FieldsAt W) : Calls Tryz.prog 18 #[.string s] w (LexQ w (lexO false s.data.toList)) := by
  refine (lex_g (s := s) w hFA).mono fun e w' h => ?_
  cases hx : lexO false s.data.toList with
  | error n => rw [hx] at h; obtain ⟨⟨p, _, h1⟩, h2⟩ := h; exact ⟨⟨_, h1⟩, h2⟩
  | ok r => rw [hx] at h; obtain ⟨tv, h1, h2, _, h3, h4⟩ := h; exact ⟨⟨tv, _, h1, toks_own h2⟩, h3, h4⟩
theorem lexq_r (s : ByteArray) (w : World) : Calls Tryz.prog 25 #[.string s] w (LexQ w (lexO false s.data.toList)) := by
  refine (lex_r s w).mono fun e w' h => ?_
  rw [lexO_two] at h
  cases hx : lexO false s.data.toList with
  | error n => rw [hx] at h; obtain ⟨⟨p, h1⟩, h2⟩ := h; exact ⟨⟨_, h1⟩, h2⟩
  | ok r => rw [hx] at h; obtain ⟨tv, h1, h2, h3, h4⟩ := h; exact ⟨⟨tv, _, h1, toks_own h2⟩, h3, h4⟩
theorem lexO_small {l : List UInt8} {r : List RTok × List Bool} (h : lexO false l = .ok r) : l.length ≤ 4000 := by
  unfold lexO at h
  split at h
  · cases h
  · omega
set_option maxRecDepth 100000 in
set_option maxHeartbeats 4000000 in
theorem kept_p (s t : ByteArray) (a b : Int) (ht : t.size ≤ 16000) (ha : -9223372036854775808 ≤ a ∧ a ≤ 9223372036854775807) (hb : -9223372036854775808 ≤ b ∧ b ≤ 9223372036854775807) (w : World) (hFA : ∀ W, Gr w W → FieldsAt W) : Calls Tryz.prog 17 #[.string s, .int .i64 a, .int .i64 b, .string t] w fun e w' => e = .returned (keptV (lexO false s.data.toList) (lexO false (newL s t a b)) s.size a b) ∧ Gr w w' := by
  have HF := Lib.hid (fun s W (gW : Gr w W) => lexq_p s W (fun W2 g => hFA W2 (gW.trans g)))
  have HE := Lib.hid (fun l n => lexO_err (ref := false) (l := l) (n := n))
  have HF1 := Lib.hid (HF.out s w (Gr.refl w))
  have HsX := Lib.hid (fun r => lexO_small (l := s.data.toList) (r := r))
  have HE1 := Lib.hid (HE.out s.data.toList)
  have HY : Hid (∀ W, Gr w W → 0 ≤ a → a ≤ b → b ≤ (s.size : Int) → Calls Tryz.prog 18 #[.string ((s.extract 0 a.toNat ++ t) ++ s.extract b.toNat s.size)] W (LexQ W (lexO false (newL s t a b)))) := Lib.hid (fun W g _ _ _ => by
    have := HF.out ((s.extract 0 a.toNat ++ t) ++ s.extract b.toNat s.size) W g
    rw [app_data, app_data, takeB, dropE] at this
    exact this)
  have HE2 := Lib.hid (HE.out (newL s t a b))
  generalize lexO false s.data.toList = X at *
  generalize lexO false (newL s t a b) = Y at *
  clear HF HE hFA
  cases X with
  | error n =>
    have hn : ((n : Int) != 0) = true := by have := HE1.out n rfl; simp; omega
    clear HE1 HE2 HsX HY
    unfold keptV
    go_enter Tryz.func17, Tryz.ntmps17
    go_wp2_with fail
    refine (HF1.out).mono ?_
    rintro e w3 ⟨⟨p, rfl⟩, g3⟩
    have G3 := Lib.hid g3
    clear g3
    go_wp2_with fail
    refine bodyPost_ret (v := .tuple #[.int .i64 0, .int .i64 (n : Int)]) (by simp [results, Tryz.results17, go_sem]) rfl ?_
    exact ⟨rfl, G3.out⟩
  | ok r =>
    have hs : s.size ≤ 4000 := by rw [← sizeL]; exact HsX.out r rfl
    clear HE1 HsX
    by_cases hbad : a < 0 ∨ b < a ∨ (s.size : Int) < b
    · have hv : keptV (.ok r) Y s.size a b = .tuple #[.int .i64 0, .int .i64 1] := by unfold keptV; simp only; rw [if_pos hbad]
      rw [hv]
      have h3 : (a < 0) ∨ (¬ a < 0 ∧ a > b) ∨ (¬ a < 0 ∧ ¬ a > b ∧ b > (s.size : Int)) := by omega
      clear hv HY HE2 hbad
      rcases h3 with h1 | ⟨h1, h2⟩ | ⟨h1, h2, h4⟩
      · go_enter Tryz.func17, Tryz.ntmps17
        go_wp2_with fail
        refine (HF1.out).mono ?_
        rintro e w3 ⟨⟨tv, m, rfl, hT⟩, _, g3⟩
        have G3 := Lib.hid g3
        clear g3
        go_wp2_with fail
        refine bodyPost_ret (v := .tuple #[.int .i64 0, .int .i64 1]) (by simp [results, Tryz.results17, go_sem]) rfl ?_
        exact ⟨rfl, G3.out⟩
      · have h1b : decide (a < 0) = false := decide_eq_false h1
        go_enter Tryz.func17, Tryz.ntmps17
        go_wp2_with fail
        refine (HF1.out).mono ?_
        rintro e w3 ⟨⟨tv, m, rfl, hT⟩, _, g3⟩
        have G3 := Lib.hid g3
        clear g3
        go_wp2_with fail
        refine bodyPost_ret (v := .tuple #[.int .i64 0, .int .i64 1]) (by simp [results, Tryz.results17, go_sem]) rfl ?_
        exact ⟨rfl, G3.out⟩
      · have h1b : decide (a < 0) = false := decide_eq_false h1
        have h2b : decide (b < a) = false := decide_eq_false (by omega)
        go_enter Tryz.func17, Tryz.ntmps17
        go_wp2_with fail
        refine (HF1.out).mono ?_
        rintro e w3 ⟨⟨tv, m, rfl, hT⟩, _, g3⟩
        have G3 := Lib.hid g3
        clear g3
        go_wp2_with fail
        refine bodyPost_ret (v := .tuple #[.int .i64 0, .int .i64 1]) (by simp [results, Tryz.results17, go_sem]) rfl ?_
        exact ⟨rfl, G3.out⟩
    · have hv : keptV (.ok r) Y s.size a b = keptY r Y := by unfold keptV; simp only; rw [if_neg hbad]
      rw [hv]
      obtain ⟨i, rfl⟩ : ∃ i : Nat, a = (i : Int) := ⟨a.toNat, by omega⟩
      obtain ⟨j, rfl⟩ : ∃ j : Nat, b = (j : Int) := ⟨b.toNat, by omega⟩
      have hij : i ≤ j := by omega
      have hjs : j ≤ s.size := by omega
      have q0 : ¬ (i : Int) < 0 := by omega
      have q1 : decide ((i : Int) < 0) = false := decide_eq_false q0
      have q2 : decide ((j : Int) < (i : Int)) = false := decide_eq_false (by omega)
      have q3 : decide (j < i) = false := decide_eq_false (by omega)
      have q4 : decide ((s.size : Int) < (j : Int)) = false := decide_eq_false (by omega)
      have q5 : decide (s.size < j) = false := decide_eq_false (by omega)
      have q6 : (i : Int) ≤ (s.size : Int) := by omega
      have q7 : (j : Int) ≤ (s.size : Int) := by omega
      have q8 : (0 : Int) ≤ (j : Int) := by omega
      have HY2 := Lib.hid (fun W g => HY.out W g (by omega) (by omega) (by omega))
      rw [Int.toNat_natCast, Int.toNat_natCast] at HY2
      have z1 : ¬ 9223372036854775807 < min i s.size + t.size := by omega
      have z2 : ¬ 9223372036854775807 < min i s.size + t.size + (s.size - j) := by omega
      obtain ⟨KV, hKV⟩ : ∃ V, V = keptY r Y := ⟨_, rfl⟩
      rw [← hKV]
      have HKV := Lib.hid hKV
      clear hKV hv HY hbad ha hb hs ht hij hjs
      go_enter Tryz.func17, Tryz.ntmps17
      go_wp2_with fail
      refine (HF1.out).mono ?_
      rintro e w3 ⟨⟨tv, m, rfl, hT⟩, hl1, g3⟩
      have G3 := Lib.hid g3
      have T3 := Lib.hid hT
      have L3 := Lib.hid hl1
      clear g3 hT hl1
      have HY3 := Lib.hid (HY2.out w3.drew (G3.out.drew))
      clear HY2
      cases Y with
      | error n =>
        have hn : ((n : Int) != 0) = true := by have := HE2.out n rfl; simp; omega
        clear HE2
        go_wp2_with fail
        go_region_with (go_at_call 18; refine (HY3.out).mono ?_; rintro e9 w9 ⟨⟨p9, rfl⟩, g9⟩; have G9 := Lib.hid (G3.out.drew.trans g9); clear g9)
        all_goals
          go_wp2_with fail
          refine bodyPost_ret (v := .tuple #[.int .i64 0, .int .i64 (n : Int)]) (by simp [results, Tryz.results17, go_sem]) rfl ?_
          exact ⟨by rw [HKV.out]; rfl, G9.out⟩
      | ok r2 =>
        clear HE2
        go_wp2_with fail
        go_region_with (go_at_call 18; refine (HY3.out).mono ?_; rintro e9 w9 ⟨⟨tv2, m2, rfl, hT2⟩, hl2, g9⟩; have G9 := Lib.hid (G3.out.drew.trans g9); have T9 := Lib.hid (T3.out.gr ((Gr.refl w3).drew.trans g9)); have U9 := Lib.hid hT2; have L9 := Lib.hid hl2; clear g9 hT2 hl2)
        all_goals
          go_wp2_with fail
          refine (alike_p _ T9.out U9.out (by rw [toksOf_len]; have := L3.out; omega)).mono ?_
          rintro e10 w10 ⟨rfl, g10⟩
          have G10 := Lib.hid (G9.out.trans g10)
          clear g10
          go_wp2_with fail
          refine bodyPost_ret (v := .tuple #[.int .i64 (alikeN (toksOf r.1) (toksOf r2.1)), .int .i64 0]) (by simp [results, Tryz.results17, go_sem]) rfl ?_
          exact ⟨by rw [HKV.out]; rfl, G10.out⟩
set_option maxRecDepth 100000 in
set_option maxHeartbeats 4000000 in
theorem kept_r (s t : ByteArray) (a b : Int) (ht : t.size ≤ 16000) (ha : -9223372036854775808 ≤ a ∧ a ≤ 9223372036854775807) (hb : -9223372036854775808 ≤ b ∧ b ≤ 9223372036854775807) (w : World) : Calls Tryz.prog 16 #[.string s, .int .i64 a, .int .i64 b, .string t] w fun e w' => e = .returned (keptV (lexO false s.data.toList) (lexO false (newL s t a b)) s.size a b) ∧ Gr w w' := by
  have HF := Lib.hid (fun s W (gW : Gr w W) => lexq_r s W)
  have HE := Lib.hid (fun l n => lexO_err (ref := false) (l := l) (n := n))
  have HF1 := Lib.hid (HF.out s w (Gr.refl w))
  have HsX := Lib.hid (fun r => lexO_small (l := s.data.toList) (r := r))
  have HE1 := Lib.hid (HE.out s.data.toList)
  have HY : Hid (∀ W, Gr w W → 0 ≤ a → a ≤ b → b ≤ (s.size : Int) → Calls Tryz.prog 25 #[.string ((s.extract 0 a.toNat ++ t) ++ s.extract b.toNat s.size)] W (LexQ W (lexO false (newL s t a b)))) := Lib.hid (fun W g _ _ _ => by
    have := HF.out ((s.extract 0 a.toNat ++ t) ++ s.extract b.toNat s.size) W g
    rw [app_data, app_data, takeB, dropE] at this
    exact this)
  have HE2 := Lib.hid (HE.out (newL s t a b))
  generalize lexO false s.data.toList = X at *
  generalize lexO false (newL s t a b) = Y at *
  clear HF HE 
  cases X with
  | error n =>
    have hn : ((n : Int) != 0) = true := by have := HE1.out n rfl; simp; omega
    clear HE1 HE2 HsX HY
    unfold keptV
    go_enter Tryz.func16, Tryz.ntmps16
    go_wp2_with fail
    refine (HF1.out).mono ?_
    rintro e w3 ⟨⟨p, rfl⟩, g3⟩
    have G3 := Lib.hid g3
    clear g3
    go_wp2_with fail
    refine bodyPost_ret (v := .tuple #[.int .i64 0, .int .i64 (n : Int)]) (by simp [results, Tryz.results16, go_sem]) rfl ?_
    exact ⟨rfl, G3.out⟩
  | ok r =>
    have hs : s.size ≤ 4000 := by rw [← sizeL]; exact HsX.out r rfl
    clear HE1 HsX
    by_cases hbad : a < 0 ∨ b < a ∨ (s.size : Int) < b
    · have hv : keptV (.ok r) Y s.size a b = .tuple #[.int .i64 0, .int .i64 1] := by unfold keptV; simp only; rw [if_pos hbad]
      rw [hv]
      have h3 : (a < 0) ∨ (¬ a < 0 ∧ a > b) ∨ (¬ a < 0 ∧ ¬ a > b ∧ b > (s.size : Int)) := by omega
      clear hv HY HE2 hbad
      rcases h3 with h1 | ⟨h1, h2⟩ | ⟨h1, h2, h4⟩
      · go_enter Tryz.func16, Tryz.ntmps16
        go_wp2_with fail
        refine (HF1.out).mono ?_
        rintro e w3 ⟨⟨tv, m, rfl, hT⟩, _, g3⟩
        have G3 := Lib.hid g3
        clear g3
        go_wp2_with fail
        refine bodyPost_ret (v := .tuple #[.int .i64 0, .int .i64 1]) (by simp [results, Tryz.results16, go_sem]) rfl ?_
        exact ⟨rfl, G3.out⟩
      · have h1b : decide (a < 0) = false := decide_eq_false h1
        go_enter Tryz.func16, Tryz.ntmps16
        go_wp2_with fail
        refine (HF1.out).mono ?_
        rintro e w3 ⟨⟨tv, m, rfl, hT⟩, _, g3⟩
        have G3 := Lib.hid g3
        clear g3
        go_wp2_with fail
        refine bodyPost_ret (v := .tuple #[.int .i64 0, .int .i64 1]) (by simp [results, Tryz.results16, go_sem]) rfl ?_
        exact ⟨rfl, G3.out⟩
      · have h1b : decide (a < 0) = false := decide_eq_false h1
        have h2b : decide (b < a) = false := decide_eq_false (by omega)
        go_enter Tryz.func16, Tryz.ntmps16
        go_wp2_with fail
        refine (HF1.out).mono ?_
        rintro e w3 ⟨⟨tv, m, rfl, hT⟩, _, g3⟩
        have G3 := Lib.hid g3
        clear g3
        go_wp2_with fail
        refine bodyPost_ret (v := .tuple #[.int .i64 0, .int .i64 1]) (by simp [results, Tryz.results16, go_sem]) rfl ?_
        exact ⟨rfl, G3.out⟩
    · have hv : keptV (.ok r) Y s.size a b = keptY r Y := by unfold keptV; simp only; rw [if_neg hbad]
      rw [hv]
      obtain ⟨i, rfl⟩ : ∃ i : Nat, a = (i : Int) := ⟨a.toNat, by omega⟩
      obtain ⟨j, rfl⟩ : ∃ j : Nat, b = (j : Int) := ⟨b.toNat, by omega⟩
      have hij : i ≤ j := by omega
      have hjs : j ≤ s.size := by omega
      have q0 : ¬ (i : Int) < 0 := by omega
      have q1 : decide ((i : Int) < 0) = false := decide_eq_false q0
      have q2 : decide ((j : Int) < (i : Int)) = false := decide_eq_false (by omega)
      have q3 : decide (j < i) = false := decide_eq_false (by omega)
      have q4 : decide ((s.size : Int) < (j : Int)) = false := decide_eq_false (by omega)
      have q5 : decide (s.size < j) = false := decide_eq_false (by omega)
      have q6 : (i : Int) ≤ (s.size : Int) := by omega
      have q7 : (j : Int) ≤ (s.size : Int) := by omega
      have q8 : (0 : Int) ≤ (j : Int) := by omega
      have HY2 := Lib.hid (fun W g => HY.out W g (by omega) (by omega) (by omega))
      rw [Int.toNat_natCast, Int.toNat_natCast] at HY2
      have z1 : ¬ 9223372036854775807 < min i s.size + t.size := by omega
      have z2 : ¬ 9223372036854775807 < min i s.size + t.size + (s.size - j) := by omega
      obtain ⟨KV, hKV⟩ : ∃ V, V = keptY r Y := ⟨_, rfl⟩
      rw [← hKV]
      have HKV := Lib.hid hKV
      clear hKV hv HY hbad ha hb hs ht hij hjs
      go_enter Tryz.func16, Tryz.ntmps16
      go_wp2_with fail
      refine (HF1.out).mono ?_
      rintro e w3 ⟨⟨tv, m, rfl, hT⟩, hl1, g3⟩
      have G3 := Lib.hid g3
      have T3 := Lib.hid hT
      have L3 := Lib.hid hl1
      clear g3 hT hl1
      have HY3 := Lib.hid (HY2.out w3.drew (G3.out.drew))
      clear HY2
      cases Y with
      | error n =>
        have hn : ((n : Int) != 0) = true := by have := HE2.out n rfl; simp; omega
        clear HE2
        go_wp2_with fail
        go_region_with (go_at_call 25; refine (HY3.out).mono ?_; rintro e9 w9 ⟨⟨p9, rfl⟩, g9⟩; have G9 := Lib.hid (G3.out.drew.trans g9); clear g9)
        all_goals
          go_wp2_with fail
          refine bodyPost_ret (v := .tuple #[.int .i64 0, .int .i64 (n : Int)]) (by simp [results, Tryz.results16, go_sem]) rfl ?_
          exact ⟨by rw [HKV.out]; rfl, G9.out⟩
      | ok r2 =>
        clear HE2
        go_wp2_with fail
        go_region_with (go_at_call 25; refine (HY3.out).mono ?_; rintro e9 w9 ⟨⟨tv2, m2, rfl, hT2⟩, hl2, g9⟩; have G9 := Lib.hid (G3.out.drew.trans g9); have T9 := Lib.hid (T3.out.gr ((Gr.refl w3).drew.trans g9)); have U9 := Lib.hid hT2; have L9 := Lib.hid hl2; clear g9 hT2 hl2)
        all_goals
          obtain ⟨a1, cap1, rfl, hc1⟩ := T9.out
          obtain ⟨a2, cap2, rfl, hc2⟩ := U9.out
          have Hc1 := Lib.hid hc1
          have Hc2 := Lib.hid hc2
          have Hkl : Hid ((toksOf r.1).length ≤ 9223372036854775807) := Lib.hid (by rw [toksOf_len]; have := L3.out; omega)
          clear hc1 hc2 T9 U9 T3 HF1 HY3
          have HR : Hid (alikeN (toksOf r.1) (toksOf r2.1) = 0 + alikeN ((toksOf r.1).drop 0) ((toksOf r2.1).drop 0)) := Lib.hid (by simp)
          have HS := Lib.hid (fun t u w => tokSame_r t u w)
          have HK2 : Hid (KV = .tuple #[.int .i64 (alikeN (toksOf r.1) (toksOf r2.1)), .int .i64 0]) := Lib.hid (by rw [HKV.out]; rfl)
          clear HKV
          generalize toksOf r.1 = k at *
          generalize toksOf r2.1 = l at *
          generalize alikeN k l = R at *
          go_wp2_with fail
          go_loopw [15] (fun nv wr => ∃ n : Nat, nv = .int .i64 (n : Int) ∧ n ≤ k.length ∧ Gr w9 wr ∧ Hid (R = n + alikeN (k.drop n) (l.drop n))) (fun nv _ => leftTo k.length nv)
          case atStart => exact ⟨0, rfl, Nat.zero_le _, Gr.refl _, HR⟩
          case round =>
            obtain ⟨n, rfl, hn, hg, hR⟩ := hrel
            have Hg := Lib.hid hg
            clear hg HR
            by_cases h1 : n < k.length
            · by_cases h2 : n < l.length
              · obtain ⟨b1, o1, rfl, hb1, x0, x1, x2, x3, x4, x5⟩ := Hc1.out n h1
                obtain ⟨b2, o2, rfl, hb2, y0, y1, y2, y3, y4, y5⟩ := Hc2.out n h2
                rw [← cell_gr Hg.out hb1] at x0 x1 x2 x3 x4 x5
                rw [← cell_gr Hg.out hb2] at y0 y1 y2 y3 y4 y5
                have i1 : (n : Int) < (k.length : Int) := by omega
                have i2 : (n : Int) < (l.length : Int) := by omega
                have hS := Lib.hid (fun w => HS.out k[n] l[n] w)
                have Hon := Lib.hid (fun hs => alikeN_on h1 h2 hs)
                have Hoff := Lib.hid (fun hs => alikeN_off h1 h2 hs)
                rw [show Tok.val k[n] = .agg #[.int .i64 k[n].kind, .int .i64 k[n].place, .string k[n].text, .string k[n].repl, .string k[n].more, .int .i64 k[n].opn] from rfl, show Tok.val l[n] = .agg #[.int .i64 l[n].kind, .int .i64 l[n].place, .string l[n].text, .string l[n].repl, .string l[n].more, .int .i64 l[n].opn] from rfl] at hS
                have Hn1 : Hid (n < k.length ∧ n ≤ 9223372036854775807) := Lib.hid (by have := Hkl.out; omega)
                have b1' : (n : Int) + 1 ≤ 9223372036854775807 := by have := Hkl.out; omega
                have b2' : -9223372036854775808 ≤ (n : Int) + 1 := by omega
                generalize sameT k[n] l[n] = same at *
                generalize k[n] = tk at *
                generalize l[n] = tl at *
                clear HS Hc1 Hc2 h1 h2 hn hb1 hb2
                cases same
                · have E : Hid (R = n) := Lib.hid (by rw [hR.out, Hoff.out rfl]; omega)
                  clear Hon Hoff hR
                  go_wp2_with fail
                  go_still_tail 19, (by kernel_rfl)
                  change wpList _ _ _ _ _ wr.drew
                  generalize hW2 : wr.drew = w2
                  have G2 := Lib.hid (by rw [← hW2]; exact Hg.out.drew : Gr w9 w2)
                  clear hW2 x0 x1 x2 x3 x4 x5 y0 y1 y2 y3 y4 y5
                  go_wp2_with fail
                  refine (hS.out _).mono ?_
                  rintro e8 w8 ⟨rfl, g8⟩
                  have G8 := Lib.hid (G9.out.trans (G2.out.trans g8))
                  clear g8
                  go_wp2_with fail
                  refine bodyPost_ret (v := .tuple #[.int .i64 (n : Int), .int .i64 0]) (by simp [results, Tryz.results16, go_sem]) rfl ?_
                  exact ⟨by rw [HK2.out, E.out], G8.out⟩
                · have HE := Lib.hid (Hon.out rfl)
                  clear Hon Hoff
                  go_wp2_with fail
                  go_still_tail 19, (by kernel_rfl)
                  change wpList _ _ _ _ _ wr.drew
                  generalize hW2 : wr.drew = w2
                  have G2 := Lib.hid (by rw [← hW2]; exact Hg.out.drew : Gr w9 w2)
                  clear hW2 x0 x1 x2 x3 x4 x5 y0 y1 y2 y3 y4 y5
                  go_wp2_with fail
                  refine (hS.out _).mono ?_
                  rintro e8 w8 ⟨rfl, g8⟩
                  have G8 := Lib.hid (G2.out.trans g8)
                  clear g8
                  go_wp2_with fail
                  go_roundw
                  case rel => have := Hn1.out; exact ⟨n + 1, rfl, by omega, G8.out, Lib.hid (by rw [hR.out, HE.out]; omega)⟩
                  case measure => have := Hn1.out; simp only [leftTo]; omega
              · have i1 : (n : Int) < (k.length : Int) := by omega
                have i2 : decide ((n : Int) < (l.length : Int)) = false := by simp; omega
                have i3 : decide (n < l.length) = false := by simpa using h2
                have E : Hid (R = n) := Lib.hid (by rw [hR.out, alikeN_end2 h2]; omega)
                clear hR HS Hc1 Hc2 h1 h2 hn
                go_wp2_with fail
                go_quiet (fail)
                go_wp2_with fail
                refine bodyPost_ret (v := .tuple #[.int .i64 (n : Int), .int .i64 0]) (by simp [results, Tryz.results16, go_sem]) rfl ?_
                exact ⟨by rw [HK2.out, E.out], G9.out.trans (Hg.out.drewN _)⟩
            · have i1 : decide ((n : Int) < (k.length : Int)) = false := by simp; omega
              have i3 : decide (n < k.length) = false := by simpa using h1
              have E : Hid (R = n) := Lib.hid (by rw [hR.out, alikeN_end1 h1]; omega)
              clear hR HS Hc1 Hc2 h1 hn
              go_wp2_with fail
              go_quiet (fail)
              go_wp2_with fail
              refine bodyPost_ret (v := .tuple #[.int .i64 (n : Int), .int .i64 0]) (by simp [results, Tryz.results16, go_sem]) rfl ?_
              exact ⟨by rw [HK2.out, E.out], G9.out.trans (Hg.out.drewN _)⟩
end Go.Proofs.YthmopindibdhnaaGreatDoor.G
namespace Go.Proofs.YthmopindibdhnaaGreatDoor.G
open Go.RowKit Go.Shelf Go.Maps
set_option maxRecDepth 100000 in
set_option maxHeartbeats 4000000 in
theorem law_keeps (s t : ByteArray) (a b : Int) (ha : -9223372036854775808 ≤ a ∧ a ≤ 9223372036854775807) (hb : -9223372036854775808 ≤ b ∧ b ≤ 9223372036854775807) (w : World) (hFA : ∀ W, Gr w W → FieldsAt W) :
    Calls Tryz.prog 6 #[.agg #[.string s, .string t], .int .i64 a, .int .i64 b] w fun e w' => e = .returned (.bool true) ∧ Gr w w' := by
  have HO := Lib.hid (fun s w => over_l s w)
  have HK := Lib.hid (fun w => known_l w)
  have HG1 : Hid (Gr w (w.alloc (.cells #[.string s, .string t] 35))) := Lib.hid ((Gr.refl w).alloc _)
  have HK1 := Lib.hid (heap_alloc_new w (.cells #[.string s, .string t] 35))
  obtain ⟨kc, kf⟩ := cellsOf HK1.out
  have k0 := kc 0
  have k1 := kc 1
  simp at k0 k1
  clear kc
  by_cases hs : 16000 < (s.size : Int)
  · have hs1 : decide (16000 < (s.size : Int)) = true := by simpa using hs
    have HO1 := Lib.hid (HO.out s)
    rw [hs1] at HO1
    clear hs hs1 HO hFA ha hb
    go_enter Tryz.func6, Tryz.ntmps6
    go_wp2_with (go_at_call 7; refine (HO1.out _).mono ?_; rintro e1 w1 ⟨rfl, rfl⟩)
    refine (HK.out _).mono ?_
    rintro e w2 ⟨rfl, g⟩
    have G2 := Lib.hid (HG1.out.trans g)
    clear g
    go_wp2
    go_ret
    exact ⟨rfl, G2.out⟩
  · have hs1 : decide (16000 < (s.size : Int)) = false := by simpa using hs
    have HO1 := Lib.hid (HO.out s)
    rw [hs1] at HO1
    by_cases ht : 16000 < (t.size : Int)
    · have ht1 : decide (16000 < (t.size : Int)) = true := by simpa using ht
      have HO2 := Lib.hid (HO.out t)
      rw [ht1] at HO2
      clear hs hs1 ht ht1 HO hFA ha hb
      go_enter Tryz.func6, Tryz.ntmps6
      go_wp2_with (first | (go_at_call 7; refine (HO1.out _).mono ?_; rintro e1 w1 ⟨rfl, rfl⟩) | (go_at_call 7; refine (HO2.out _).mono ?_; rintro e1 w1 ⟨rfl, rfl⟩))
      refine (HK.out _).mono ?_
      rintro e w2 ⟨rfl, g⟩
      have G2 := Lib.hid (HG1.out.trans g)
      clear g
      go_wp2
      go_ret
      exact ⟨rfl, G2.out⟩
    · have ht1 : decide (16000 < (t.size : Int)) = false := by simpa using ht
      have HO2 := Lib.hid (HO.out t)
      rw [ht1] at HO2
      have HR := Lib.hid (fun w => kept_r s t a b (by omega) ha hb w)
      have HP := Lib.hid (fun W (gW : Gr w W) => kept_p s t a b (by omega) ha hb W (fun W2 g => hFA W2 (gW.trans g)))
      obtain ⟨n, m, hv⟩ := kept_tup (lexO false s.data.toList) (lexO false (newL s t a b)) s.size a b
      rw [hv] at HR HP
      have en : (n == n) = true := by simp
      have em : (m == m) = true := by simp
      clear hs hs1 ht ht1 HO hFA ha hb hv
      go_enter Tryz.func6, Tryz.ntmps6
      go_wp2_with (first | (go_at_call 7; refine (HO1.out _).mono ?_; rintro e1 w1 ⟨rfl, rfl⟩) | (go_at_call 7; refine (HO2.out _).mono ?_; rintro e1 w1 ⟨rfl, rfl⟩))
      refine (HR.out _).mono ?_
      rintro e w2 ⟨rfl, g2⟩
      have G2 := Lib.hid (HG1.out.trans g2)
      have K2 := Lib.hid ((g2.block _ (Array.getElem?_eq_some_iff.1 HK1.out).1).trans HK1.out)
      clear g2 k0 k1 kf
      obtain ⟨kc, kf⟩ := cellsOf K2.out
      have k0 := kc 0
      have k1 := kc 1
      simp at k0 k1
      clear kc
      go_wp2_with fail
      refine (HP.out _ G2.out).mono ?_
      rintro e w3 ⟨rfl, g3⟩
      have G3 := Lib.hid (G2.out.trans g3)
      clear g3
      go_wp2_with (go_at_call 8; refine (HK.out _).mono ?_; rintro e4 w4 ⟨rfl, g4⟩; have G4 := Lib.hid (G3.out.trans g4); clear g4)
      go_ret
      exact ⟨rfl, G4.out⟩
end Go.Proofs.YthmopindibdhnaaGreatDoor.G
