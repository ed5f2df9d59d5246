/- Is a list a placement: both texts. No condition but the sizes. -/
import Derived.Test.YtlkmbnekaeabaabPc
import Derived.Test.YtlkmbnekaeabaabZ
import Derived.Test.YtlkmbnekaeabaabRo
namespace Go.Proofs.Ytlkmbnekaeabaab
open Go.RowKit Go.WideShapes

def isPlB (r c : Int) (xs P : List Int) : R2 := if goodB r c xs then ⟨placeP r.toNat c.toNat xs P, true⟩ else ⟨false, false⟩

theorem own_cap {w : World} {lo : Nat} {a : Option Addr} {n p : Nat} {xs : List Int} (h : Own w lo (.slice a n p) xs) : n ≤ p := by
  rcases h.cases with ⟨h0, _⟩ | ⟨g', p', h0, _, _, h1, _⟩
  · injection h0 with _ h2 h3
    omega
  · injection h0 with _ h2 h3
    omega


set_option maxRecDepth 100000 in
set_option maxHeartbeats 1600000 in
theorem implIsPl_any (r c : Int) (xs P : List Int) (w : World) (hx : xs.length ≤ 1048576) (hp : P.length ≤ 1048576) (lo : Nat) (s : Value) (lo2 : Nat) (s2 : Value) (hO : Own w lo s xs) (hO2 : Own w lo2 s2 P) :
    Calls Try.prog 147 #[.agg #[.int .i64 r, .int .i64 c, s], s2] w fun e w' => AnsOO (isPlB r c xs P) w e w' := by
  have L0 := (Law.start w).box (.int .i64 r) (.int .i64 c) s 28
  obtain ⟨a, cap, rfl, hr⟩ := hO.reads
  obtain ⟨a2, p2, rfl, hr2⟩ := hO2.reads
  have hr0 := L0.reads hr
  clear hO hO2
  cases hg : goodB r c xs
  · rw [show isPlB r c xs P = ⟨false, false⟩ by simp [isPlB, hg]]
    go_enter Try.func147, Try.ntmps147
    go_wp2_with fail
    refine (gridOf_no r c a cap xs _ hx hr0 hg).mono ?_
    rintro e w1 ⟨rfl, hb⟩
    have HB := Lib.hid (((L0.kept hb).kept (below_new (.cells #[.int .i64 0, .int .i64 0, .int .i64 0, .int .i64 0, .int .i64 0, .int .i64 0, .int .i64 0, .int .i64 0] 84))).below)
    clear L0 hb hg hr0
    go_wp2_with fail
    go_ret2
    exact ⟨rfl, HB.out⟩
  · obtain ⟨g1, g2, g3, _⟩ := good_facts hg
    have hgc := good_cell hg
    obtain ⟨n, rfl⟩ := Int.eq_ofNat_of_zero_le (show 0 ≤ r by omega)
    obtain ⟨m, rfl⟩ := Int.eq_ofNat_of_zero_le (show 0 ≤ c by omega)
    rw [show isPlB n m xs P = ⟨placeP n m xs P, true⟩ by simp [isPlB, hg]]
    obtain ⟨M, hM, hc⟩ := gridOf_good n m a cap xs _ hx hr0 hg
    have HC := Lib.hid hc
    have HN := Lib.hid (fun W (h : Reads W a2 P.length P) => placesOf_any n m xs P M hM a2 p2 W hp (by omega) (by omega) hgc h)
    clear hg hr0 hgc hc hM
    go_enter Try.func147, Try.ntmps147
    go_wp2_with fail
    refine HC.out.mono ?_
    rintro e w1 ⟨rfl, hb⟩
    have HL := Lib.hid ((L0.kept hb).kept (below_new (.cells (gl n m M).toArray 84)))
    clear L0 hb HC
    go_wp2_with fail
    refine (HN.out _ (HL.out.reads hr2)).mono ?_
    rintro e w2 ⟨F, rfl, _, hb⟩
    have HB := Lib.hid ((HL.out.kept hb).kept (below_new (.cells (pl6 F).toArray 97))).below
    clear HL hb HN
    go_wp2_with fail
    go_ret2
    exact ⟨rfl, HB.out⟩
end Go.Proofs.Ytlkmbnekaeabaab
