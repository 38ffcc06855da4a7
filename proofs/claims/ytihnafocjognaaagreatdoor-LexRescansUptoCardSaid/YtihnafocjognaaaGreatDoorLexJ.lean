/- Lex: the lists of keys and signs; names in the document. -/
import Derived.Test.YtihnafocjognaaaGreatDoorLexI
namespace Go.Proofs.YtihnafocjognaaaGreatDoor
open Go.RowKit Go.Maps Go.Shelf

theorem infoStrL : (Tryz.prog.info? 9).map (fun i => (i.zero, i.size, i.bytes)) = some (some (.string ⟨#[]⟩), 1, 16) := by kernel_rfl

theorem wakeL_ok : scanOk ⟨#[97, 32, 47, 42, 32, 98, 32, 42, 47, 43, 49]⟩ = true := by decide +kernel
theorem wakeL_toks : tokR true 0 [97, 32, 47, 42, 32, 98, 32, 42, 47, 43, 49] = [⟨1, ⟨#[]⟩, ⟨#[97]⟩, 0⟩, ⟨6, ⟨#[32, 47, 42, 32, 98, 32, 42, 47]⟩, ⟨#[43]⟩, 9⟩, ⟨3, ⟨#[]⟩, ⟨#[49]⟩, 10⟩, ⟨0, ⟨#[]⟩, ⟨#[]⟩, 11⟩] := by kernel_rfl

set_option maxHeartbeats 4000000 in
set_option maxRecDepth 100000 in
theorem awakeL_any (n0 : Nat) (w : World) (hG : LexG n0 w) : Calls Tryz.prog 5 #[] w fun e w' => e = .returned (.bool true) ∧ Below w.heap.size w w' := by
  have S := scan_any n0 ⟨#[97, 32, 47, 42, 32, 98, 32, 42, 47, 43, 49]⟩ w hG
  unfold scanE scanL at S
  rw [if_pos wakeL_ok, if_pos wakeL_ok, show (ByteArray.mk #[97, 32, 47, 42, 32, 98, 32, 42, 47, 43, 49]).data.toList = [97, 32, 47, 42, 32, 98, 32, 42, 47, 43, 49] from rfl, wakeL_toks] at S
  have HS := Lib.hid S
  clear S hG
  go_enter Tryz.func5, Tryz.ntmps5
  go_wp2_with fail
  refine HS.out.mono ?_
  rintro e w1 ⟨v, rfl, hO, hb⟩
  obtain ⟨g, cap, rfl, hgb, hglt⟩ := hO.form (by decide)
  have HB := Lib.hid hb
  obtain ⟨b, off, e2, hB, hc⟩ := Rd.of_own hO (by decide)
  cases e2
  have k1 := hc 5 _ rfl
  have k2 := hc 6 _ rfl
  have k3 := hc 12 _ rfl
  simp only [Nat.zero_add] at k1 k2 k3
  clear hO hb hc
  go_wp2
  go_ret
  exact ⟨rfl, HB.out⟩

end Go.Proofs.YtihnafocjognaaaGreatDoor
