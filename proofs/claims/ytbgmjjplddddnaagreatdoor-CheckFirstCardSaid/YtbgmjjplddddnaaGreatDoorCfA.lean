import Derived.Test.YtbgmjjplddddnaaGreatDoorRiP
import Derived.Test.YtbgmjjplddddnaaGreatDoorRiR
import Derived.Test.YtbgmjjplddddnaaGreatDoorProg
import Derived.KernelRfl
set_option linter.unusedVariables false
set_option maxRecDepth 100000
namespace Go.Proofs.YtbgmjjplddddnaaGreatDoor
open Go.Lift
def tab:List (TypeId×Ty):=[(2,(.int .i64)),(3,(.int .i64)),(4,.bool),(5,(.int .u8)),(9,.str),(23,(.pair (.int .u8) (.pair (.int .i64) (.pair (.int .i64) (.pair (.int .i64) .unit))))),(24,(.slice (.pair (.int .u8) (.pair (.int .i64) (.pair (.int .i64) (.pair (.int .i64) .unit)))))),(27,(.slice (.pair (.int .u8) (.pair (.int .i64) (.pair (.int .i64) (.pair (.slice (.pair .str (.pair (.int .i64) .unit))) .unit)))))),(28,(.slice .str)),(29,(.slice (.pair .str (.pair (.int .i64) (.pair (.int .i64) (.pair (.slice (.pair .str (.pair (.int .i64) .unit))) (.pair (.slice (.pair (.int .u8) (.pair (.int .i64) (.pair (.int .i64) (.pair (.int .i64) .unit))))) (.pair (.slice (.pair (.int .i64) (.pair (.int .u64) .unit))) (.pair (.slice (.pair (.int .i64) (.pair (.int .u64) .unit))) .unit))))))))),(31,(.pair (.slice (.pair (.int .u8) (.pair (.int .i64) (.pair (.int .i64) (.pair (.slice (.pair .str (.pair (.int .i64) .unit))) .unit))))) (.pair (.slice .str) (.pair (.slice (.pair .str (.pair (.int .i64) (.pair (.int .i64) (.pair (.slice (.pair .str (.pair (.int .i64) .unit))) (.pair (.slice (.pair (.int .u8) (.pair (.int .i64) (.pair (.int .i64) (.pair (.int .i64) .unit))))) (.pair (.slice (.pair (.int .i64) (.pair (.int .u64) .unit))) (.pair (.slice (.pair (.int .i64) (.pair (.int .u64) .unit))) .unit)))))))) .unit)))),(33,(.int .i64)),(35,(.slice (.pair .str (.pair (.int .i64) .unit)))),(36,(.slice (.pair (.int .i64) (.pair (.int .u64) .unit)))),(38,(.pair .str (.pair (.int .i64) (.pair (.int .i64) (.pair (.slice (.pair .str (.pair (.int .i64) .unit))) (.pair (.slice (.pair (.int .u8) (.pair (.int .i64) (.pair (.int .i64) (.pair (.int .i64) .unit))))) (.pair (.slice (.pair (.int .i64) (.pair (.int .u64) .unit))) (.pair (.slice (.pair (.int .i64) (.pair (.int .u64) .unit))) .unit)))))))),(39,(.int .u64)),(41,(.pair (.int .i64) (.pair (.int .u64) .unit))),(44,(.slice (.int .i64))),(76,(.slice (.int .u8))),(80,(.pair (.int .u8) (.pair (.int .i64) (.pair (.int .i64) (.pair (.slice (.pair .str (.pair (.int .i64) .unit))) .unit))))),(82,(.pair .str (.pair (.int .i64) .unit))),(84,.fn),(91,(.pair (.pair (.slice (.pair (.int .u8) (.pair (.int .i64) (.pair (.int .i64) (.pair (.slice (.pair .str (.pair (.int .i64) .unit))) .unit))))) (.pair (.slice .str) (.pair (.slice (.pair .str (.pair (.int .i64) (.pair (.int .i64) (.pair (.slice (.pair .str (.pair (.int .i64) .unit))) (.pair (.slice (.pair (.int .u8) (.pair (.int .i64) (.pair (.int .i64) (.pair (.int .i64) .unit))))) (.pair (.slice (.pair (.int .i64) (.pair (.int .u64) .unit))) (.pair (.slice (.pair (.int .i64) (.pair (.int .u64) .unit))) .unit)))))))) .unit))) (.pair (.pair .str (.pair (.int .i64) (.pair (.int .i64) (.pair (.slice (.pair .str (.pair (.int .i64) .unit))) (.pair (.slice (.pair (.int .u8) (.pair (.int .i64) (.pair (.int .i64) (.pair (.int .i64) .unit))))) (.pair (.slice (.pair (.int .i64) (.pair (.int .u64) .unit))) (.pair (.slice (.pair (.int .i64) (.pair (.int .u64) .unit))) .unit))))))) .unit))),(106,(.arr 3 (.int .i64))),(124,(.slice (.int .u64))),(145,(.int .u8)),(147,.fn),(152,(.slice .bool)),(155,(.slice (.slice (.int .i64)))),(178,.fn),(181,(.slice (.pair (.int .i64) (.pair (.int .i64) .unit)))),(185,(.pair (.int .i64) (.pair (.int .i64) .unit))),(187,(.arr 3 (.int .u8))),(189,(.pair .str (.pair (.arr 3 (.int .u8)) .unit))),(190,(.arr 35 (.pair .str (.pair (.arr 3 (.int .u8)) .unit)))),(201,.fn),(203,.fn),(205,.fn),(207,.fn),(219,.fn),(222,.fn),(226,.fn),(232,(.mp .str .bool)),(234,(.int .u64)),(242,.fn),(243,(.arr 10 (.int .u8))),(244,(.slice (.slice (.int .u8))))]
theorem mixed:Tryz.prog.follows .mixedOrders=true:=by kernel_rfl
theorem ZK:BR Tryz.prog tab:=XD (by kernel_rfl) (by kernel_rfl) (by kernel_rfl)
def QFp:List (TypeId×Ty):=[(2,(.int .i64)),(3,(.int .i64)),(4,.bool),(5,(.int .u8)),(9,.str),(23,(.pair (.int .u8) (.pair (.int .i64) (.pair (.int .i64) (.pair (.int .i64) .unit))))),(24,(.slice (.pair (.int .u8) (.pair (.int .i64) (.pair (.int .i64) (.pair (.int .i64) .unit)))))),(27,(.slice (.pair (.int .u8) (.pair (.int .i64) (.pair (.int .i64) (.pair (.slice (.pair .str (.pair (.int .i64) .unit))) .unit)))))),(28,(.slice .str)),(29,(.slice (.pair .str (.pair (.int .i64) (.pair (.int .i64) (.pair (.slice (.pair .str (.pair (.int .i64) .unit))) (.pair (.slice (.pair (.int .u8) (.pair (.int .i64) (.pair (.int .i64) (.pair (.int .i64) .unit))))) (.pair (.slice (.pair (.int .i64) (.pair (.int .u64) .unit))) (.pair (.slice (.pair (.int .i64) (.pair (.int .u64) .unit))) .unit))))))))),(31,(.pair (.slice (.pair (.int .u8) (.pair (.int .i64) (.pair (.int .i64) (.pair (.slice (.pair .str (.pair (.int .i64) .unit))) .unit))))) (.pair (.slice .str) (.pair (.slice (.pair .str (.pair (.int .i64) (.pair (.int .i64) (.pair (.slice (.pair .str (.pair (.int .i64) .unit))) (.pair (.slice (.pair (.int .u8) (.pair (.int .i64) (.pair (.int .i64) (.pair (.int .i64) .unit))))) (.pair (.slice (.pair (.int .i64) (.pair (.int .u64) .unit))) (.pair (.slice (.pair (.int .i64) (.pair (.int .u64) .unit))) .unit)))))))) .unit)))),(33,(.int .i64)),(35,(.slice (.pair .str (.pair (.int .i64) .unit)))),(36,(.slice (.pair (.int .i64) (.pair (.int .u64) .unit)))),(38,(.pair .str (.pair (.int .i64) (.pair (.int .i64) (.pair (.slice (.pair .str (.pair (.int .i64) .unit))) (.pair (.slice (.pair (.int .u8) (.pair (.int .i64) (.pair (.int .i64) (.pair (.int .i64) .unit))))) (.pair (.slice (.pair (.int .i64) (.pair (.int .u64) .unit))) (.pair (.slice (.pair (.int .i64) (.pair (.int .u64) .unit))) .unit)))))))),(39,(.int .u64)),(41,(.pair (.int .i64) (.pair (.int .u64) .unit))),(44,(.nes (.int .i64))),(76,(.slice (.int .u8))),(80,(.pair (.int .u8) (.pair (.int .i64) (.pair (.int .i64) (.pair (.slice (.pair .str (.pair (.int .i64) .unit))) .unit))))),(82,(.pair .str (.pair (.int .i64) .unit))),(84,.fn),(91,(.pair (.pair (.slice (.pair (.int .u8) (.pair (.int .i64) (.pair (.int .i64) (.pair (.slice (.pair .str (.pair (.int .i64) .unit))) .unit))))) (.pair (.slice .str) (.pair (.slice (.pair .str (.pair (.int .i64) (.pair (.int .i64) (.pair (.slice (.pair .str (.pair (.int .i64) .unit))) (.pair (.slice (.pair (.int .u8) (.pair (.int .i64) (.pair (.int .i64) (.pair (.int .i64) .unit))))) (.pair (.slice (.pair (.int .i64) (.pair (.int .u64) .unit))) (.pair (.slice (.pair (.int .i64) (.pair (.int .u64) .unit))) .unit)))))))) .unit))) (.pair (.pair .str (.pair (.int .i64) (.pair (.int .i64) (.pair (.slice (.pair .str (.pair (.int .i64) .unit))) (.pair (.slice (.pair (.int .u8) (.pair (.int .i64) (.pair (.int .i64) (.pair (.int .i64) .unit))))) (.pair (.slice (.pair (.int .i64) (.pair (.int .u64) .unit))) (.pair (.slice (.pair (.int .i64) (.pair (.int .u64) .unit))) .unit))))))) .unit))),(106,(.arr 3 (.int .i64))),(124,(.slice (.int .u64))),(145,(.int .u8)),(147,.fn),(152,(.slice .bool)),(155,(.slice (.nes (.int .i64)))),(178,.fn),(181,(.slice (.pair (.int .i64) (.pair (.int .i64) .unit)))),(185,(.pair (.int .i64) (.pair (.int .i64) .unit))),(187,(.arr 3 (.int .u8))),(189,(.pair .str (.pair (.arr 3 (.int .u8)) .unit))),(190,(.arr 35 (.pair .str (.pair (.arr 3 (.int .u8)) .unit)))),(201,.fn),(203,.fn),(205,.fn),(207,.fn),(219,.fn),(222,.fn),(226,.fn),(232,(.mp .str .bool)),(234,(.int .u64)),(242,.fn),(243,(.arr 10 (.int .u8))),(244,(.slice (.slice (.int .u8))))]
theorem QEb:BR Tryz.prog QFp:=XD (by kernel_rfl) (by kernel_rfl) (by kernel_rfl)
abbrev Tg:Type:=(List Int)×(Int×(Int×((List ((List Int)×(Int×Unit)))×((List (Int×(Int×(Int×(Int×Unit)))))×((List (Int×(Int×Unit)))×((List (Int×(Int×Unit)))×Unit))))))
abbrev ZA:Type:=(List (Int×(Int×(Int×((List ((List Int)×(Int×Unit)))×Unit)))))×((List (List Int))×((List Tg)×Unit))
abbrev ZB:Type:=List Int
abbrev ZC:Type:=Int×(Int×(Int×((List (ZB×(Int×Unit)))×Unit)))
abbrev ZE:Type:=Int×(Int×(Int×(Int×Unit)))
abbrev ZF:Type:=List (Int×(Int×Unit))
abbrev Y6:Type:=List (ZB×(Int×Unit))
abbrev Y7:Type:=ZA×(Tg×Unit)
abbrev Y8:Type:=List ZE
abbrev Y9:Type:=List ZC
abbrev oq:Type:=List Bool
abbrev uH:Type:=Int×(Int×Unit)
abbrev yD:Type:=List ZB
abbrev Y13:Type:=Y7×(Unit×(yD×(Unit×Unit)))
abbrev lD:Type:=ZB×Int
abbrev Y15:Type:=Int×(Unit×(Unit×(Unit×Unit)))
abbrev Y16:Type:=List (ZB×Bool)
abbrev Y17:Type:=List Tg
abbrev Y18:Type:=Int×Unit
abbrev Y19:Type:=Int×Int×Int
abbrev Y20:Type:=yD×Bool
abbrev Y21:Type:=ZB×Bool
abbrev Y22:Type:=ZB×Int×Int
abbrev Y23:Type:=ZB×ZB×Int
abbrev Z0:Ty:=.pair .str (.pair (.int .i64) (.pair (.int .i64) (.pair (.slice (.pair .str (.pair (.int .i64) .unit))) (.pair (.slice (.pair (.int .u8) (.pair (.int .i64) (.pair (.int .i64) (.pair (.int .i64) .unit))))) (.pair (.slice (.pair (.int .i64) (.pair (.int .u64) .unit))) (.pair (.slice (.pair (.int .i64) (.pair (.int .u64) .unit))) .unit))))))
abbrev Z1:Ty:=.pair (.slice (.pair (.int .u8) (.pair (.int .i64) (.pair (.int .i64) (.pair (.slice (.pair .str (.pair (.int .i64) .unit))) .unit))))) (.pair (.slice .str) (.pair (.slice Z0) .unit))
abbrev Z2:Ty:=.int .i64
abbrev Z3:Ty:=.pair (.int .u8) (.pair Z2 (.pair Z2 (.pair Z2 .unit)))
abbrev Z4:Ty:=.pair (.int .u8) (.pair Z2 (.pair Z2 (.pair (.slice (.pair .str (.pair Z2 .unit))) .unit)))
abbrev Z5:Ty:=.slice (.pair Z2 (.pair (.int .u64) .unit))
abbrev Z6:Ty:=.slice Z2
abbrev Z7:Ty:=.slice (.pair .str (.pair Z2 .unit))
abbrev Z8:Ty:=.pair Z1 (.pair Z0 .unit)
abbrev Z9:Ty:=.slice (.int .u8)
abbrev wM:Ty:=.slice (.int .u64)
abbrev fI:Ty:=.int .u8
abbrev Z12:Ty:=.pair Z2 (.pair Z2 .unit)
abbrev mP:Ty:=.slice Z3
abbrev sV:Ty:=.slice Z4
abbrev Z15:Ty:=.int .u64
abbrev Z16:Ty:=.pair Z2 (.pair Z15 .unit)
abbrev Z17:Ty:=.slice .bool
abbrev Z18:Ty:=.arr 3 Z2
abbrev Z19:Ty:=.pair .str (.pair Z2 .unit)
abbrev Z20:Ty:=.slice Z12
abbrev Y24:Type:=Int×ZB×Int×Int×Y8×ZB×ZB×Int×ZB×oq×Y8×oq×ZB
abbrev Y25:Type:=Int×ZB×Int×Int×ZB×ZB×Bool×Y8×oq×ZB×Y8
abbrev Y26:Type:=ZB×Int×Int×Y9×Int×Int×Y6×Int×Int×ZB
abbrev Y27:Type:=Y8×ZB×ZB×Int×ZB×oq×Y8×oq×ZB
abbrev Y28:Type:=Int×ZB×Int×Int×oq×Y8×oq×ZB
abbrev Y29:Type:=ZB×Int×Int×Y8×ZB×ZB×Int×Bool
abbrev Y30:Type:=Y8×Int×Int×Int×Int×ZB×ZB×oq
abbrev Y31:Type:=Int×Int×ZB×ZB×Int×Y8×Int×Int
abbrev Y32:Type:=Y9×Int×Int×Int×Int×ZB×ZB×ZB
abbrev Y33:Type:=ZF×Y6×Int×Int×uH×ZB×uH
abbrev Y34:Type:=Y8×Int×Int×Y8×Int×Int×ZB
abbrev Y35:Type:=ZB×ZB×Y6×Int×Int×Int×ZB
abbrev Y36:Type:=ZB×ZB×Bool×Y8×oq×ZB×Y8
abbrev Y37:Type:=ZB×ZB×Int×Int×yD×Y7
abbrev Y38:Type:=ZB×Y8×Int×Int×Y7×ZB
abbrev Y39:Type:=Y17×Int×Y17×Int×Int
abbrev Y40:Type:=yD×Int×yD×Int×Int
abbrev Y41:Type:=Int×Y6×Int×Int×Y16
abbrev Y42:Type:=Int×Nat×Nat×Int×ZB
abbrev Y43:Type:=Int×Int×Int×Int×ZA
abbrev Y44:Type:=Int×Int×Int×ZA×Tg
abbrev Y45:Type:=Y6×Int×Y6×Int×Int
abbrev Y46:Type:=Int×ZF×Int×Int×ZB
abbrev Y47:Type:=yD×Int×Int×ZB×ZA
abbrev Y48:Type:=ZB×Int×Int×Y7×Int
abbrev Y49:Type:=Y8×Int×Int×Y7×oq
abbrev Y50:Type:=ZB×Int×ZB×Int×Int
abbrev Y51:Type:=ZB×Int×Int×Y7×yD
abbrev Y52:Type:=ZB×Y17×Int×Int×ZA
abbrev Y53:Type:=Y9×Int×Int×ZB×ZB
abbrev Y54:Type:=Int×Int×ZA×ZB×Tg
abbrev Y55:Type:=ZB×Y9×Int×Int×ZB
abbrev Y56:Type:=Y8×Int×Int×ZB×Tg
abbrev Y57:Type:=Y6×Int×Int×ZB×Tg
abbrev Y58:Type:=Y9×Int×Int×ZB×ZA
abbrev Y59:Type:=Int×Int×Y7×ZE×ZB
abbrev Y60:Type:=ZB×Int×ZB×ZB×ZB
abbrev Y61:Type:=ZB×Int×Int×Int
abbrev Y62:Type:=yD×Int×Int×ZB
abbrev Y63:Type:=Y6×Int×Int×ZB
abbrev Y64:Type:=oq×Y8×oq×ZB
abbrev Y65:Type:=Y8×ZB×ZB×Bool
abbrev Y66:Type:=Y8×Int×Int×ZB
abbrev Y67:Type:=ZB×Int×Int×ZB
abbrev Y68:Type:=ZB×Int×ZB×ZB
abbrev Y69:Type:=Y9×Int×Int
abbrev Y70:Type:=Int×Int×ZA
abbrev Y71:Type:=ZF×Int×Int
abbrev Y72:Type:=Y8×Int×Int
abbrev Y73:Type:=Y9×Int×ZB
abbrev Y74:Type:=ZB×Int×ZB
abbrev vk:Type:=Int×ZA×ZB
abbrev wL:Type:=Int×Int
abbrev vo:Type:=Y9×Int
abbrev Y78:Type:=Int×ZA
abbrev Y79:Type:=ZB×Int
def QY5:LT:={ live:=[(3,[1,5,10,11,12])],keep:=[] }
def QYF:LT:={ live:=[(3,[1,5,10,11,12])],keep:=[] }
def QYI:LT:={ live:=[(3,[0,2,13,14,15])],keep:=[] }
def QV0:LT:={ live:=[(3,[0,2,13,14,15])],keep:=[] }
def QYK:LT:={ live:=[(3,[0,2,13,14,15])],keep:=[] }
def QYL:LT:={ live:=[(3,[0,2,13,14,15])],keep:=[] }
def QYN:LT:={ live:=[(3,[0,2,13,14,15])],keep:=[] }
def QYP:LT:={ live:=[],keep:=[] }
def QV4:LT:={ live:=[(3,[1,4,13,14])],keep:=[(25,[1,4,13,14])] }
def QYV:LT:={ live:=[(4,[0,3]),(9,[0,3,4,5])],keep:=[] }
def QKb:LT:={ live:=[(3,[0,1,3,4]),(7,[0,1,3,4,5,30,31,32])],keep:=[(39,[0,1,3,4,5,7,30,31,32])],stk:=[4] }
def QKc:LT:={ live:=[],keep:=[] }
def QUS:LT:={ live:=[],keep:=[] }
def QUT:LT:={ live:=[],keep:=[(12,[2]),(18,[3])] }
def QUU:LT:={ live:=[],keep:=[] }
def QUY:LT:={ live:=[],keep:=[] }
def QIO:LT:={ live:=[(2,[0,1,7,8])],keep:=[(16,[0,1,5,7,8])] }
def QIP:LT:={ live:=[],keep:=[(7,[])] }
def QIQ:LT:={ live:=[(6,[2,3,6,43,44,45])],keep:=[] }
def QUm:LT:={ live:=[],keep:=[] }
def QUo:LT:={ live:=[],keep:=[] }
def QXt:LT:={ live:=[],keep:=[] }
noncomputable def QS2:Aj:={ tab:=tab,fs:=[],inl:=[] }
def og (x:wL):Option (Bool):=
 (bif (decide (x.1≥(0:Int))) then (some (decide (x.1 < x.2))) else (some false))
def QDS (N:Nat) (x:wL):Option (Bool):=og x
theorem QZ2 (N:Nat) (x:wL):rise (QS2) QXt 6 N Tryz.f204 [Z2,Z2] [.bool] [false] x=og x:=by kernel_rfl
def ZU (x:wL):Option (Bool):=QDS big x
def QPN:UA:=⟨[Z2,Z2],[.bool],[false],fun x=>ZU x⟩
theorem QU9:GV Tryz.prog 204 QPN:=rz (E:=QS2) ⟨ZK,Xq,fun _ _ _=>rfl,mixed,X8,YF,YE⟩ Tryz.func204 fun _ _ h=>(QZ2 big _).trans h
def QXu:LT:={ live:=[],keep:=[] }
noncomputable def QS3:Aj:={ tab:=tab,fs:=[],inl:=[] }
def l7 (x:Int):Option (Bool):=
 (bif (decide (x≥(97:Int))) then (bif (decide (x<=(122:Int))) then (some true) else (bif (decide (x≥(65:Int))) then (some (decide (x<=(90:Int)))) else (some false))) else (bif (decide (x≥(65:Int))) then (some (decide (x<=(90:Int)))) else (some false)))
def QC9 (N:Nat) (x:Int):Option (Bool):=l7 x
theorem QZ3 (N:Nat) (x:Int):rise (QS3) QXu 6 N Tryz.f211 [fI] [.bool] [false] x=l7 x:=by kernel_rfl
def lU (x:Int):Option (Bool):=QC9 big x
def QSq:UA:=⟨[fI],[.bool],[false],fun x=>lU x⟩
theorem QX6:GV Tryz.prog 211 QSq:=rz (E:=QS3) ⟨ZK,Xq,fun _ _ _=>rfl,mixed,X8,YF,YE⟩ Tryz.func211 fun _ _ h=>(QZ3 big _).trans h
def QXv:LT:={ live:=[],keep:=[] }
noncomputable def QS4:Aj:={ tab:=tab,fs:=[],inl:=[] }
def oZ (x:Int):Option (Bool):=
 (bif (decide (x≥(48:Int))) then (some (decide (x<=(57:Int)))) else (some false))
def QDR (N:Nat) (x:Int):Option (Bool):=oZ x
theorem QZ4 (N:Nat) (x:Int):rise (QS4) QXv 6 N Tryz.f212 [fI] [.bool] [false] x=oZ x:=by kernel_rfl
def tF (x:Int):Option (Bool):=QDR big x
def QSr:UA:=⟨[fI],[.bool],[false],fun x=>tF x⟩
theorem QX7:GV Tryz.prog 212 QSr:=rz (E:=QS4) ⟨ZK,Xq,fun _ _ _=>rfl,mixed,X8,YF,YE⟩ Tryz.func212 fun _ _ h=>(QZ4 big _).trans h
def QPv:LT:={ live:=[(4,[0,18,19])],keep:=[] }
noncomputable def QM5:Aj:={ tab:=tab,fs:=[(211,QSq),(212,QSr)],inl:=[] }
noncomputable def QF3 (v:ZB×Int×Int):St:={ s:=[(0,(.val ⟨.str,v.1⟩)),(18,(.val ⟨Z2,v.2.1⟩)),(19,(.val ⟨Z2,v.2.2⟩))],l:=[],k:=[],b:=4096 }
def jl (ZG:ZB×Int×Int->Option (Bool)) (v:ZB×Int×Int):Option (Bool):=
 (bif (decide (v.2.2 < v.2.1)) then ((Mh v.1 v.2.2).bind fun x3=>((lU x3).bind fun x4=>(bif (!x4) then ((Mh v.1 v.2.2).bind fun x5=>((tF x5).bind fun x6=>(bif (!x6) then (some false) else (let x7:Int:=(IntKind.i64.wrap (v.2.2+(1:Int)));(ZG (v.1,v.2.1,x7)))))) else (let x8:Int:=(IntKind.i64.wrap (v.2.2+(1:Int)));(ZG (v.1,v.2.1,x8)))))) else (some true))
def nR (N:Nat) (ZG:ZB×Int×Int->Option (Bool)) (v:ZB×Int×Int):Option (Bool):=jl ZG v
theorem QQW (N:Nat) (s0:St->Option (Bool)) (v):(Yg (QM5) QPv 6 N Tryz.f198 [.bool] [false] [] 0 Wx) s0 (QF3 v)=nR N (fun v=>s0 (QF3 v)) v:=by kernel_rfl
def rY (ZJ:ZB×Int×Int->Option (Bool)) (x:ZB):Option (Bool):=
 (bif (Ib .str x ([]:List Int)) then (some false) else (bif (decide ((List.length x:Int) > (16:Int))) then (some false) else ((Mh x (0:Int)).bind fun x1=>((lU x1).bind fun x2=>(bif (!x2) then (some false) else (ZJ (x,(List.length x:Int),(0:Int))))))))
def QAl (N:Nat) (x:ZB):Option (Bool):=rY (FU (nR N) N) x
theorem QZ5 (N:Nat) (x:ZB):rise (QM5) QPv 6 N Tryz.f198 [.str] [.bool] [false] x=QAl N x:=Eq.trans (b:=rY (fun v=>Ns (Yg (QM5) QPv 6 N Tryz.f198 [.bool] [false] [] 0 Wx) N (QF3 v)) x) (by kernel_rfl) (by rw [funext (SN QF3 (QQW N) N)];rfl)
def nJ (x:ZB):Option (Bool):=QAl big x
def QMO:UA:=⟨[.str],[.bool],[false],fun x=>nJ x⟩
theorem QPb:GV Tryz.prog 198 QMO:=rz (E:=QM5) ⟨ZK,(XT QX6 (XT QX7 Xq)),fun _ _ _=>rfl,mixed,X8,YF,YE⟩ Tryz.func198 fun _ _ h=>(QZ5 big _).trans h
def QPw:LT:={ live:=[(5,[1,5,17,18,19])],keep:=[] }
noncomputable def QM6:Aj:={ tab:=tab,fs:=[(198,QMO),(204,QPN)],inl:=[] }
noncomputable def QF4 (v:Y41):St:={ s:=[(1,(.val ⟨Z2,v.1⟩)),(5,(.mp 0)),(17,(.val ⟨Z7,v.2.1⟩)),(18,(.val ⟨Z2,v.2.2.1⟩)),(19,(.val ⟨Z2,v.2.2.2.1⟩))],l:=[(0,.mp .str .bool v.2.2.2.2)],k:=[],b:=4096 }
def dw (ZG:Y41->Option (Bool)) (v:Y41):Option (Bool):=
 (bif (decide (v.2.2.2.1 < v.2.2.1)) then ((Mh v.2.1 v.2.2.2.1).bind fun x1=>((nJ x1.1).bind fun x2=>(bif (!x2) then (some false) else (bif (@Om .str .bool x1.1 false v.2.2.2.2).1 then (some false) else ((ZU (x1.2.1,v.1)).bind fun x3=>(bif (!x3) then (some false) else (let x4:Y16:=(@LH .str .bool x1.1 true v.2.2.2.2);(let x5:Int:=(IntKind.i64.wrap (v.2.2.2.1+(1:Int)));(ZG (v.1,v.2.1,v.2.2.1,x5,x4)))))))))) else (some true))
def dY (N:Nat) (ZG:Y41->Option (Bool)) (v:Y41):Option (Bool):=dw ZG v
theorem QQX (N:Nat) (s0:St->Option (Bool)) (v):(Yg (QM6) QPw 6 N Tryz.f205 [.bool] [false] [] 0 Wx) s0 (QF4 v)=dY N (fun v=>s0 (QF4 v)) v:=by kernel_rfl
def l6 (ZJ:Y41->Option (Bool)) (x:Y6×Int):Option (Bool):=
 (bif (decide ((List.length x.1:Int) < (1:Int))) then (some false) else (bif (decide ((List.length x.1:Int) > (8:Int))) then (some false) else (ZJ (x.2,x.1,(List.length x.1:Int),(0:Int),([]:List Y21)))))
def xX (N:Nat) (x:Y6×Int):Option (Bool):=l6 (FU (dY N) N) x
theorem QZ6 (N:Nat) (x:Y6×Int):rise (QM6) QPw 6 N Tryz.f205 [Z7,Z2] [.bool] [false] x=xX N x:=Eq.trans (b:=l6 (fun v=>Ns (Yg (QM6) QPw 6 N Tryz.f205 [.bool] [false] [] 0 Wx) N (QF4 v)) x) (by kernel_rfl) (by rw [funext (SN QF4 (QQX N) N)];rfl)
def aT (x:Y6×Int):Option (Bool):=xX big x
def QSs:UA:=⟨[Z7,Z2],[.bool],[false],fun x=>aT x⟩
theorem QX8:GV Tryz.prog 205 QSs:=rz (E:=QM6) ⟨ZK,(XT QPb (XT QU9 Xq)),fun _ _ _=>rfl,mixed,X8,YF,YE⟩ Tryz.func205 fun _ _ h=>(QZ6 big _).trans h
def QXw:LT:={ live:=[],keep:=[] }
noncomputable def QS5:Aj:={ tab:=tab,fs:=[(204,QPN),(205,QSs)],inl:=[] }
def oW (x:ZC×Int×Int):Option (Bool):=
 (bif (x.1.1==(1:Int)) then (bif (x.1.1==(1:Int)) then (bif (x.1.2.1==(0:Int)) then (bif (x.1.2.2.1==(0:Int)) then (some ((List.length x.1.2.2.2.1:Int)==(0:Int))) else (some false)) else (some false)) else (bif (x.1.1==(4:Int)) then (bif (x.1.1==(4:Int)) then ((ZU (x.1.2.1,x.2.2)).bind fun x1=>(bif x1 then (bif (x.1.2.2.1==(0:Int)) then (some ((List.length x.1.2.2.2.1:Int)==(0:Int))) else (some false)) else (some false))) else (bif (x.1.1==(6:Int)) then ((ZU (x.1.2.1,x.2.1)).bind fun x2=>(bif x2 then (bif (decide (x.1.2.2.1≥(1:Int))) then (bif (decide (x.1.2.2.1<=(16:Int))) then (some ((List.length x.1.2.2.2.1:Int)==(0:Int))) else (some false)) else (some false)) else (some false))) else (bif (x.1.1==(5:Int)) then (bif (x.1.2.1==(0:Int)) then (bif (x.1.2.2.1==(0:Int)) then ((aT (x.1.2.2.2.1,x.2.1)).bind fun x3=>(some x3)) else (some false)) else (some false)) else (some false)))) else (bif (x.1.1==(7:Int)) then ((ZU (x.1.2.1,x.2.2)).bind fun x4=>(bif x4 then (bif (x.1.2.2.1==(0:Int)) then (some ((List.length x.1.2.2.2.1:Int)==(0:Int))) else (some false)) else (some false))) else (bif (x.1.1==(6:Int)) then ((ZU (x.1.2.1,x.2.1)).bind fun x5=>(bif x5 then (bif (decide (x.1.2.2.1≥(1:Int))) then (bif (decide (x.1.2.2.1<=(16:Int))) then (some ((List.length x.1.2.2.2.1:Int)==(0:Int))) else (some false)) else (some false)) else (some false))) else (bif (x.1.1==(5:Int)) then (bif (x.1.2.1==(0:Int)) then (bif (x.1.2.2.1==(0:Int)) then ((aT (x.1.2.2.2.1,x.2.1)).bind fun x6=>(some x6)) else (some false)) else (some false)) else (some false)))))) else (bif (x.1.1==(2:Int)) then (bif (x.1.1==(2:Int)) then (bif (x.1.2.1==(0:Int)) then (bif (x.1.2.2.1==(0:Int)) then (some ((List.length x.1.2.2.2.1:Int)==(0:Int))) else (some false)) else (some false)) else (bif (x.1.1==(4:Int)) then (bif (x.1.1==(4:Int)) then ((ZU (x.1.2.1,x.2.2)).bind fun x7=>(bif x7 then (bif (x.1.2.2.1==(0:Int)) then (some ((List.length x.1.2.2.2.1:Int)==(0:Int))) else (some false)) else (some false))) else (bif (x.1.1==(6:Int)) then ((ZU (x.1.2.1,x.2.1)).bind fun x8=>(bif x8 then (bif (decide (x.1.2.2.1≥(1:Int))) then (bif (decide (x.1.2.2.1<=(16:Int))) then (some ((List.length x.1.2.2.2.1:Int)==(0:Int))) else (some false)) else (some false)) else (some false))) else (bif (x.1.1==(5:Int)) then (bif (x.1.2.1==(0:Int)) then (bif (x.1.2.2.1==(0:Int)) then ((aT (x.1.2.2.2.1,x.2.1)).bind fun x9=>(some x9)) else (some false)) else (some false)) else (some false)))) else (bif (x.1.1==(7:Int)) then ((ZU (x.1.2.1,x.2.2)).bind fun fH=>(bif fH then (bif (x.1.2.2.1==(0:Int)) then (some ((List.length x.1.2.2.2.1:Int)==(0:Int))) else (some false)) else (some false))) else (bif (x.1.1==(6:Int)) then ((ZU (x.1.2.1,x.2.1)).bind fun mX=>(bif mX then (bif (decide (x.1.2.2.1≥(1:Int))) then (bif (decide (x.1.2.2.1<=(16:Int))) then (some ((List.length x.1.2.2.2.1:Int)==(0:Int))) else (some false)) else (some false)) else (some false))) else (bif (x.1.1==(5:Int)) then (bif (x.1.2.1==(0:Int)) then (bif (x.1.2.2.1==(0:Int)) then ((aT (x.1.2.2.2.1,x.2.1)).bind fun mh=>(some mh)) else (some false)) else (some false)) else (some false)))))) else (bif (x.1.1==(3:Int)) then (bif (x.1.2.1==(0:Int)) then (bif (x.1.2.2.1==(0:Int)) then (some ((List.length x.1.2.2.2.1:Int)==(0:Int))) else (some false)) else (some false)) else (bif (x.1.1==(4:Int)) then (bif (x.1.1==(4:Int)) then ((ZU (x.1.2.1,x.2.2)).bind fun qV=>(bif qV then (bif (x.1.2.2.1==(0:Int)) then (some ((List.length x.1.2.2.2.1:Int)==(0:Int))) else (some false)) else (some false))) else (bif (x.1.1==(6:Int)) then ((ZU (x.1.2.1,x.2.1)).bind fun jU=>(bif jU then (bif (decide (x.1.2.2.1≥(1:Int))) then (bif (decide (x.1.2.2.1<=(16:Int))) then (some ((List.length x.1.2.2.2.1:Int)==(0:Int))) else (some false)) else (some false)) else (some false))) else (bif (x.1.1==(5:Int)) then (bif (x.1.2.1==(0:Int)) then (bif (x.1.2.2.1==(0:Int)) then ((aT (x.1.2.2.2.1,x.2.1)).bind fun jV=>(some jV)) else (some false)) else (some false)) else (some false)))) else (bif (x.1.1==(7:Int)) then ((ZU (x.1.2.1,x.2.2)).bind fun wK=>(bif wK then (bif (x.1.2.2.1==(0:Int)) then (some ((List.length x.1.2.2.2.1:Int)==(0:Int))) else (some false)) else (some false))) else (bif (x.1.1==(6:Int)) then ((ZU (x.1.2.1,x.2.1)).bind fun xu=>(bif xu then (bif (decide (x.1.2.2.1≥(1:Int))) then (bif (decide (x.1.2.2.1<=(16:Int))) then (some ((List.length x.1.2.2.2.1:Int)==(0:Int))) else (some false)) else (some false)) else (some false))) else (bif (x.1.1==(5:Int)) then (bif (x.1.2.1==(0:Int)) then (bif (x.1.2.2.1==(0:Int)) then ((aT (x.1.2.2.2.1,x.2.1)).bind fun x18=>(some x18)) else (some false)) else (some false)) else (some false))))))))
def QDQ (N:Nat) (x:ZC×Int×Int):Option (Bool):=oW x
theorem QZ7 (N:Nat) (x:ZC×Int×Int):rise (QS5) QXw 6 N Tryz.f190 [Z4,Z2,Z2] [.bool] [false] x=oW x:=by kernel_rfl
def tC (x:ZC×Int×Int):Option (Bool):=QDQ big x
def QSt:UA:=⟨[Z4,Z2,Z2],[.bool],[false],fun x=>tC x⟩
theorem QX9:GV Tryz.prog 190 QSt:=rz (E:=QS5) ⟨ZK,(XT QU9 (XT QX8 Xq)),fun _ _ _=>rfl,mixed,X8,YF,YE⟩ Tryz.func190 fun _ _ h=>(QZ7 big _).trans h
def QKz:LT:={ live:=[(3,[1,5,14,15,16]),(15,[1,5,6,8,14,15,16,57,58,59])],keep:=[] }
noncomputable def QJ6 (mk:(α:Type)->Nat->α->List α):Aj:={ tab:=tab,fs:=[],inl:=[],rep:=mk }
noncomputable def QF5 (v:Y26):St:={ s:=[(1,(.val ⟨Z6,v.1⟩)),(5,(.row 0)),(6,(.val ⟨Z2,v.2.1⟩)),(8,(.val ⟨Z2,v.2.2.1⟩)),(14,(.val ⟨sV,v.2.2.2.1⟩)),(15,(.val ⟨Z2,v.2.2.2.2.1⟩)),(16,(.val ⟨Z2,v.2.2.2.2.2.1⟩)),(57,(.val ⟨Z7,v.2.2.2.2.2.2.1⟩)),(58,(.val ⟨Z2,v.2.2.2.2.2.2.2.1⟩)),(59,(.val ⟨Z2,v.2.2.2.2.2.2.2.2.1⟩))],l:=[(0,.row Z2 v.2.2.2.2.2.2.2.2.2)],k:=[],b:=4096 }
noncomputable def QBP (v:Y55):St:={ s:=[(1,(.val ⟨Z6,v.1⟩)),(5,(.row 0)),(14,(.val ⟨sV,v.2.1⟩)),(15,(.val ⟨Z2,v.2.2.1⟩)),(16,(.val ⟨Z2,v.2.2.2.1⟩))],l:=[(0,.row Z2 v.2.2.2.2)],k:=[],b:=4096 }
def gL (mk:(α:Type)->Nat->α->List α) (ZG:Y55->Option (ZB)) (ZH:Y26->Option (ZB)) (v:Y26):Option (ZB):=
 (bif (decide (v.2.2.2.2.2.2.2.2.1 < v.2.2.2.2.2.2.2.1)) then ((Mh v.2.2.2.2.2.2.1 v.2.2.2.2.2.2.2.2.1).bind fun zO=>(bif (decide (0<=zO.2.1)&&decide (zO.2.1 < (List.length v.2.2.2.2.2.2.2.2.2:Int))) then ((nth v.2.2.2.2.2.2.2.2.2 (Int.toNat zO.2.1)).bind fun x21=>(let x22:Int:=(IntKind.i64.wrap (v.2.2.1+x21));(let x23:Int:=(IntKind.i64.wrap (v.2.2.2.2.2.2.2.2.1+(1:Int)));(ZH (v.1,v.2.1,x22,v.2.2.2.1,v.2.2.2.2.1,v.2.2.2.2.2.1,v.2.2.2.2.2.2.1,v.2.2.2.2.2.2.2.1,x23,v.2.2.2.2.2.2.2.2.2))))) else none)) else (let x24:Int:=(if (5001:Int) < v.2.2.1 then (5001:Int) else v.2.2.1);(bif (decide (0<=v.2.1)&&decide (v.2.1 < (List.length v.2.2.2.2.2.2.2.2.2:Int))) then (let x25:ZB:=(List.set v.2.2.2.2.2.2.2.2.2 (Int.toNat v.2.1) x24);(let x26:Int:=(IntKind.i64.wrap (v.2.2.2.2.2.1+(1:Int)));(ZG (v.1,v.2.2.2.1,v.2.2.2.2.1,x26,x25)))) else none)))
def pJ (mk:(α:Type)->Nat->α->List α) (N:Nat) (ZG:Y55->Option (ZB)) (ZH:Y26->Option (ZB)) (v:Y26):Option (ZB):=gL mk ZG ZH v
theorem QQZ (mk:(α:Type)->Nat->α->List α) (N:Nat) (s0:St->Option (ZB)) (s1:St->Option (ZB)) (v):(Yg (QJ6 mk) QKz 6 N Tryz.f207 [Z6] [true] [] 1 (YC s0 Wx)) s1 (QF5 v)=pJ mk N (fun v=>s0 (QBP v)) (fun v=>s1 (QF5 v)) v:=by kernel_rfl
def dD (mk:(α:Type)->Nat->α->List α) (Zv:Y26->Option (ZB)) (ZG:Y55->Option (ZB)) (v:Y55):Option (ZB):=
 (bif (decide (v.2.2.2.1 < v.2.2.1)) then ((Mh v.2.1 v.2.2.2.1).bind fun x2=>(bif (x2.1==(4:Int)) then ((Mh v.1 x2.2.1).bind fun x3=>(let x4:Int:=(IntKind.i64.wrap ((1:Int)+x3));(let x5:Int:=(if (5001:Int) < x4 then (5001:Int) else x4);(bif (decide (0<=v.2.2.2.1)&&decide (v.2.2.2.1 < (List.length v.2.2.2.2:Int))) then (let x6:ZB:=(List.set v.2.2.2.2 (Int.toNat v.2.2.2.1) x5);(let x7:Int:=(IntKind.i64.wrap (v.2.2.2.1+(1:Int)));(ZG (v.1,v.2.1,v.2.2.1,x7,x6)))) else none)))) else (bif (x2.1==(7:Int)) then ((Mh v.1 x2.2.1).bind fun x8=>(let x9:Int:=(IntKind.i64.wrap ((16:Int) * x8));(let fH:Int:=(IntKind.i64.wrap ((1:Int)+x9));(let mX:Int:=(if (5001:Int) < fH then (5001:Int) else fH);(bif (decide (0<=v.2.2.2.1)&&decide (v.2.2.2.1 < (List.length v.2.2.2.2:Int))) then (let mh:ZB:=(List.set v.2.2.2.2 (Int.toNat v.2.2.2.1) mX);(let qV:Int:=(IntKind.i64.wrap (v.2.2.2.1+(1:Int)));(ZG (v.1,v.2.1,v.2.2.1,qV,mh)))) else none))))) else (bif (x2.1==(6:Int)) then (bif (decide (0<=x2.2.1)&&decide (x2.2.1 < (List.length v.2.2.2.2:Int))) then ((nth v.2.2.2.2 (Int.toNat x2.2.1)).bind fun jU=>(let jV:Int:=(IntKind.i64.wrap (x2.2.2.1 * jU));(let wK:Int:=(IntKind.i64.wrap ((1:Int)+jV));(let xu:Int:=(if (5001:Int) < wK then (5001:Int) else wK);(bif (decide (0<=v.2.2.2.1)&&decide (v.2.2.2.1 < (List.length v.2.2.2.2:Int))) then (let x18:ZB:=(List.set v.2.2.2.2 (Int.toNat v.2.2.2.1) xu);(let zW:Int:=(IntKind.i64.wrap (v.2.2.2.1+(1:Int)));(ZG (v.1,v.2.1,v.2.2.1,zW,x18)))) else none))))) else none) else (bif (x2.1==(5:Int)) then (Zv (v.1,v.2.2.2.1,(1:Int),v.2.1,v.2.2.1,v.2.2.2.1,x2.2.2.2.1,(List.length x2.2.2.2.1:Int),(0:Int),v.2.2.2.2)) else (let x27:Int:=(if (5001:Int) < (1:Int) then (5001:Int) else (1:Int));(bif (decide (0<=v.2.2.2.1)&&decide (v.2.2.2.1 < (List.length v.2.2.2.2:Int))) then (let x28:ZB:=(List.set v.2.2.2.2 (Int.toNat v.2.2.2.1) x27);(let x29:Int:=(IntKind.i64.wrap (v.2.2.2.1+(1:Int)));(ZG (v.1,v.2.1,v.2.2.1,x29,x28)))) else none))))))) else (some v.2.2.2.2))
def kK (mk:(α:Type)->Nat->α->List α) (N:Nat) (ZG:Y55->Option (ZB)) (v:Y55):Option (ZB):=dD mk (FU (pJ mk N ZG) N) ZG v
theorem QQY (mk:(α:Type)->Nat->α->List α) (N:Nat) (s0:St->Option (ZB)) (v):(Yg (QJ6 mk) QKz 6 N Tryz.f207 [Z6] [true] [] 0 Wx) s0 (QBP v)=kK mk N (fun v=>s0 (QBP v)) v:=Eq.trans (b:=dD mk (fun v=>Ns (Yg (QJ6 mk) QKz 6 N Tryz.f207 [Z6] [true] [] 1 (YC s0 Wx)) N (QF5 v)) (fun v=>s0 (QBP v)) v) (by kernel_rfl) (by rw [funext (SN QF5 (QQZ mk N s0) N)];rfl)
def oh (mk:(α:Type)->Nat->α->List α) (ZJ:Y55->Option (ZB)) (x:Y9×ZB):Option (ZB):=
 (bif (decide (0<=(List.length x.1:Int))&&(decide ((List.length x.1:Int)<=(List.length x.1:Int))&&(decide ((List.length x.1:Int)<=68719476736)&&true))) then (let x1:ZB:=(mk Int (Int.toNat (List.length x.1:Int)) (0:Int));(ZJ (x.2,x.1,(List.length x.1:Int),(0:Int),x1))) else none)
def yR (mk:(α:Type)->Nat->α->List α) (N:Nat) (x:Y9×ZB):Option (ZB):=oh mk (FU (kK mk N) N) x
theorem QZ8 (mk:(α:Type)->Nat->α->List α) (N:Nat) (x:Y9×ZB):rise (QJ6 mk) QKz 6 N Tryz.f207 [sV,Z6] [Z6] [true] x=yR mk N x:=Eq.trans (b:=oh mk (fun v=>Ns (Yg (QJ6 mk) QKz 6 N Tryz.f207 [Z6] [true] [] 0 Wx) N (QBP v)) x) (by kernel_rfl) (by rw [funext (SN QBP (QQY mk N) N)];rfl)
def tH (x:Y9×ZB):Option (ZB):=yR (fun _=>List.replicate) big x
def QSu:UA:=⟨[sV,Z6],[Z6],[true],fun x=>tH x⟩
theorem QXA:GV Tryz.prog 207 QSu:=rz (E:=QJ6 (fun _=>List.replicate)) ⟨ZK,Xq,fun _ _ _=>rfl,mixed,X8,YF,YE⟩ Tryz.func207 fun _ _ h=>(QZ8 (fun _=>List.replicate) big _).trans h
def QPx:LT:={ live:=[(3,[0,3,7])],keep:=[] }
noncomputable def QM7 (mk:(α:Type)->Nat->α->List α):Aj:={ tab:=tab,fs:=[(207,QSu)],inl:=[],rep:=mk }
noncomputable def QF6 (v:Y73):St:={ s:=[(0,(.val ⟨sV,v.1⟩)),(3,(.row 0)),(7,(.val ⟨Z2,v.2.1⟩))],l:=[(0,.row Z2 v.2.2)],k:=[],b:=4096 }
def qo (mk:(α:Type)->Nat->α->List α) (ZG:Y73->Option (ZB)) (v:Y73):Option (ZB):=
 (bif (decide (v.2.1 < (4:Int))) then ((tH (v.1,v.2.2)).bind fun x2=>(let x3:Int:=(IntKind.i64.wrap (v.2.1+(1:Int)));(ZG (v.1,x3,x2)))) else (some v.2.2))
def lX (mk:(α:Type)->Nat->α->List α) (N:Nat) (ZG:Y73->Option (ZB)) (v:Y73):Option (ZB):=qo mk ZG v
theorem QQa (mk:(α:Type)->Nat->α->List α) (N:Nat) (s0:St->Option (ZB)) (v):(Yg (QM7 mk) QPx 6 N Tryz.f192 [Z6] [true] [] 0 Wx) s0 (QF6 v)=lX mk N (fun v=>s0 (QF6 v)) v:=by kernel_rfl
def qK (mk:(α:Type)->Nat->α->List α) (ZJ:Y73->Option (ZB)) (x:Y9):Option (ZB):=
 (bif (decide (0<=(List.length x:Int))&&(decide ((List.length x:Int)<=(List.length x:Int))&&(decide ((List.length x:Int)<=68719476736)&&true))) then (let x1:ZB:=(mk Int (Int.toNat (List.length x:Int)) (0:Int));(ZJ (x,(0:Int),x1))) else none)
def zf (mk:(α:Type)->Nat->α->List α) (N:Nat) (x:Y9):Option (ZB):=qK mk (FU (lX mk N) N) x
theorem QZ9 (mk:(α:Type)->Nat->α->List α) (N:Nat) (x:Y9):rise (QM7 mk) QPx 6 N Tryz.f192 [sV] [Z6] [true] x=zf mk N x:=Eq.trans (b:=qK mk (fun v=>Ns (Yg (QM7 mk) QPx 6 N Tryz.f192 [Z6] [true] [] 0 Wx) N (QF6 v)) x) (by kernel_rfl) (by rw [funext (SN QF6 (QQa mk N) N)];rfl)
def vK (x:Y9):Option (ZB):=zf (fun _=>List.replicate) big x
def QSv:UA:=⟨[sV],[Z6],[true],fun x=>vK x⟩
theorem QXB:GV Tryz.prog 192 QSv:=rz (E:=QM7 (fun _=>List.replicate)) ⟨ZK,(XT QXA Xq),fun _ _ _=>rfl,mixed,X8,YF,YE⟩ Tryz.func192 fun _ _ h=>(QZ9 (fun _=>List.replicate) big _).trans h
def QPy:LT:={ live:=[(2,[0,1,7,8])],keep:=[] }
noncomputable def QM8:Aj:={ tab:=tab,fs:=[],inl:=[] }
noncomputable def QF7 (v:Y61):St:={ s:=[(0,(.val ⟨Z6,v.1⟩)),(1,(.val ⟨Z2,v.2.1⟩)),(7,(.val ⟨Z2,v.2.2.1⟩)),(8,(.val ⟨Z2,v.2.2.2⟩))],l:=[],k:=[],b:=4096 }
def ZX (ZG:Y61->Option (Int)) (v:Y61):Option (Int):=
 (bif (decide (v.2.2.2 < v.2.2.1)) then ((Mh v.1 v.2.2.2).bind fun x1=>(bif (v.2.1==x1) then (some v.2.2.2) else (let x2:Int:=(IntKind.i64.wrap (v.2.2.2+(1:Int)));(ZG (v.1,v.2.1,v.2.2.1,x2))))) else (some (-1:Int)))
def bQ (N:Nat) (ZG:Y61->Option (Int)) (v:Y61):Option (Int):=ZX ZG v
theorem QQb (N:Nat) (s0:St->Option (Int)) (v):(Yg (QM8) QPy 6 N Tryz.f206 [Z2] [false] [] 0 Wx) s0 (QF7 v)=bQ N (fun v=>s0 (QF7 v)) v:=by kernel_rfl
def dO (ZJ:Y61->Option (Int)) (x:Y79):Option (Int):=
 (ZJ (x.1,x.2,(List.length x.1:Int),(0:Int)))
def oz (N:Nat) (x:Y79):Option (Int):=dO (FU (bQ N) N) x
theorem QZA (N:Nat) (x:Y79):rise (QM8) QPy 6 N Tryz.f206 [Z6,Z2] [Z2] [false] x=oz N x:=Eq.trans (b:=dO (fun v=>Ns (Yg (QM8) QPy 6 N Tryz.f206 [Z2] [false] [] 0 Wx) N (QF7 v)) x) (by kernel_rfl) (by rw [funext (SN QF7 (QQb N) N)];rfl)
def iq (x:Y79):Option (Int):=oz big x
def QSw:UA:=⟨[Z6,Z2],[Z2],[false],fun x=>iq x⟩
theorem QXC:GV Tryz.prog 206 QSw:=rz (E:=QM8) ⟨ZK,Xq,fun _ _ _=>rfl,mixed,X8,YF,YE⟩ Tryz.func206 fun _ _ h=>(QZA big _).trans h
def QXx:LT:={ live:=[],keep:=[] }
noncomputable def QS6:Aj:={ tab:=tab,fs:=[(206,QSw)],inl:=[] }
def bC (x:Y79):Option (Bool):=
 ((iq (x.1,x.2)).bind fun x1=>(some (decide (x1≥(0:Int)))))
def vV (N:Nat) (x:Y79):Option (Bool):=bC x
theorem QZB (N:Nat) (x:Y79):rise (QS6) QXx 6 N Tryz.f191 [Z6,Z2] [.bool] [false] x=bC x:=by kernel_rfl
def ay (x:Y79):Option (Bool):=vV big x
def QSx:UA:=⟨[Z6,Z2],[.bool],[false],fun x=>ay x⟩
theorem QXD:GV Tryz.prog 191 QSx:=rz (E:=QS6) ⟨ZK,(XT QXC Xq),fun _ _ _=>rfl,mixed,X8,YF,YE⟩ Tryz.func191 fun _ _ h=>(QZB big _).trans h
def QPz:LT:={ live:=[(4,[0,8,9,10])],keep:=[] }
noncomputable def QM9:Aj:={ tab:=tab,fs:=[(190,QSt),(191,QSx),(192,QSv)],inl:=[] }
noncomputable def QF8 (v:Y9×Y9×Int×Int):St:={ s:=[(0,(.val ⟨sV,v.1⟩)),(8,(.val ⟨sV,v.2.1⟩)),(9,(.val ⟨Z2,v.2.2.1⟩)),(10,(.val ⟨Z2,v.2.2.2⟩))],l:=[],k:=[],b:=4096 }
def dK (ZG:Y9×Y9×Int×Int->Option (Int)) (v:Y9×Y9×Int×Int):Option (Int):=
 (bif (decide (v.2.2.2 < v.2.2.1)) then ((Mh v.2.1 v.2.2.2).bind fun x1=>((tC (x1,v.2.2.2,(List.length v.1:Int))).bind fun x2=>(bif (!x2) then (some (8:Int)) else (let x3:Int:=(IntKind.i64.wrap (v.2.2.2+(1:Int)));(ZG (v.1,v.2.1,v.2.2.1,x3)))))) else ((vK v.1).bind fun x4=>((ay (x4,(5001:Int))).bind fun x5=>(bif x5 then (some (8:Int)) else (some (0:Int))))))
def nQ (N:Nat) (ZG:Y9×Y9×Int×Int->Option (Int)) (v:Y9×Y9×Int×Int):Option (Int):=dK ZG v
theorem QQc (N:Nat) (s0:St->Option (Int)) (v):(Yg (QM9) QPz 6 N Tryz.f170 [Z2] [false] [] 0 Wx) s0 (QF8 v)=nQ N (fun v=>s0 (QF8 v)) v:=by kernel_rfl
def rX (ZJ:Y9×Y9×Int×Int->Option (Int)) (x:Y9):Option (Int):=
 (bif (decide ((List.length x:Int) > (32:Int))) then (some (8:Int)) else (ZJ (x,x,(List.length x:Int),(0:Int))))
def QAk (N:Nat) (x:Y9):Option (Int):=rX (FU (nQ N) N) x
theorem QZC (N:Nat) (x:Y9):rise (QM9) QPz 6 N Tryz.f170 [sV] [Z2] [false] x=QAk N x:=Eq.trans (b:=rX (fun v=>Ns (Yg (QM9) QPz 6 N Tryz.f170 [Z2] [false] [] 0 Wx) N (QF8 v)) x) (by kernel_rfl) (by rw [funext (SN QF8 (QQc N) N)];rfl)
def wR (x:Y9):Option (Int):=QAk big x
def QSy:UA:=⟨[sV],[Z2],[false],fun x=>wR x⟩
theorem QXE:GV Tryz.prog 170 QSy:=rz (E:=QM9) ⟨ZK,(XT QX9 (XT QXD (XT QXB Xq))),fun _ _ _=>rfl,mixed,X8,YF,YE⟩ Tryz.func170 fun _ _ h=>(QZC big _).trans h
def QXy:LT:={ live:=[],keep:=[] }
noncomputable def QS7:Aj:={ tab:=tab,fs:=[],inl:=[] }
def l9 (x:wL):Option (Bool):=
 (bif (decide (x.1≥(0:Int))) then (some (decide (x.1 < x.2))) else (some false))
def QCA (N:Nat) (x:wL):Option (Bool):=l9 x
theorem QZD (N:Nat) (x:wL):rise (QS7) QXy 6 N Tryz.f171 [Z2,Z2] [.bool] [false] x=l9 x:=by kernel_rfl
def qg (x:wL):Option (Bool):=QCA big x
def QSz:UA:=⟨[Z2,Z2],[.bool],[false],fun x=>qg x⟩
theorem QXF:GV Tryz.prog 171 QSz:=rz (E:=QS7) ⟨ZK,Xq,fun _ _ _=>rfl,mixed,X8,YF,YE⟩ Tryz.func171 fun _ _ h=>(QZD big _).trans h
def QXz:LT:={ live:=[],keep:=[] }
noncomputable def QS8:Aj:={ tab:=tab,fs:=[],inl:=[] }
def kT (x:wL):Option (Int):=
 (let x1:Int:=(IntKind.i64.wrap (x.1+x.2));(let x2:Int:=(IntKind.i64.wrap (x1 - (1:Int)));(bif (x.2==0) then none else (let x3:Int:=(IntKind.i64.wrap (x2.tdiv x.2));(let x4:Int:=(IntKind.i64.wrap (x3 * x.2));(some x4))))))
def QBd (N:Nat) (x:wL):Option (Int):=kT x
theorem QZE (N:Nat) (x:wL):rise (QS8) QXz 6 N Tryz.f135 [Z2,Z2] [Z2] [false] x=kT x:=by kernel_rfl
def fK (x:wL):Option (Int):=QBd big x
def QPO:UA:=⟨[Z2,Z2],[Z2],[false],fun x=>fK x⟩
theorem QUA:GV Tryz.prog 135 QPO:=rz (E:=QS8) ⟨ZK,Xq,fun _ _ _=>rfl,mixed,X8,YF,YE⟩ Tryz.func135 fun _ _ h=>(QZE big _).trans h
def QQ0:LT:={ live:=[(4,[0,5,6,7,15,16,17])],keep:=[] }
noncomputable def QMA (mk:(α:Type)->Nat->α->List α):Aj:={ tab:=tab,fs:=[(135,QPO)],inl:=[],rep:=mk }
noncomputable def QF9 (v:Y33):St:={ s:=[(0,(.val ⟨Z20,v.1⟩)),(5,(.loc 0 [])),(6,(.row 1)),(7,(.loc 2 [])),(15,(.val ⟨Z7,v.2.1⟩)),(16,(.val ⟨Z2,v.2.2.1⟩)),(17,(.val ⟨Z2,v.2.2.2.1⟩))],l:=[(0,.var Z12 (.val ⟨Z12,v.2.2.2.2.1⟩)),(1,.row Z2 v.2.2.2.2.2.1),(2,.var Z12 (.val ⟨Z12,v.2.2.2.2.2.2⟩))],k:=[],b:=4096 }
def dL (mk:(α:Type)->Nat->α->List α) (ZG:Y33->Option (ZB×uH)) (v:Y33):Option (ZB×uH):=
 (bif (decide (v.2.2.2.1 < v.2.2.1)) then ((Mh v.2.1 v.2.2.2.1).bind fun x3=>((Mh v.1 x3.2.1).bind fun x4=>((fK (v.2.2.2.2.2.2.1,x4.2.1)).bind fun x5=>(bif (decide (0<=v.2.2.2.1)&&decide (v.2.2.2.1 < (List.length v.2.2.2.2.2.1:Int))) then (let x6:ZB:=(List.set v.2.2.2.2.2.1 (Int.toNat v.2.2.2.1) x5);(bif (decide (0<=v.2.2.2.1)&&decide (v.2.2.2.1 < (List.length x6:Int))) then ((nth x6 (Int.toNat v.2.2.2.1)).bind fun x7=>(let x8:Int:=(IntKind.i64.wrap (x7+x4.1));(let x9:Int:=(if x4.2.1 > (x8,v.2.2.2.2.2.2.2).2.1 then x4.2.1 else (x8,v.2.2.2.2.2.2.2).2.1);(let fH:uH:=((x8,v.2.2.2.2.2.2.2).1,(x9,(x8,v.2.2.2.2.2.2.2).2.2));(let mX:Int:=(IntKind.i64.wrap (v.2.2.2.1+(1:Int)));(ZG (v.1,v.2.1,v.2.2.1,mX,v.2.2.2.2.1,x6,fH))))))) else none)) else none)))) else ((fK (v.2.2.2.2.2.2.1,v.2.2.2.2.2.2.2.1)).bind fun mh=>(some (v.2.2.2.2.2.1,(mh,v.2.2.2.2.2.2.2)))))
def gZ (mk:(α:Type)->Nat->α->List α) (N:Nat) (ZG:Y33->Option (ZB×uH)) (v:Y33):Option (ZB×uH):=dL mk ZG v
theorem QQd (mk:(α:Type)->Nat->α->List α) (N:Nat) (s0:St->Option (ZB×uH)) (v):(Yg (QMA mk) QQ0 6 N Tryz.f208 [Z6,Z12] [true,false] [] 0 Wx) s0 (QF9 v)=gZ mk N (fun v=>s0 (QF9 v)) v:=by kernel_rfl
def kU (mk:(α:Type)->Nat->α->List α) (ZJ:Y33->Option (ZB×uH)) (x:ZF×Y6):Option (ZB×uH):=
 (bif (decide (0<=(List.length x.2:Int))&&(decide ((List.length x.2:Int)<=(List.length x.2:Int))&&(decide ((List.length x.2:Int)<=68719476736)&&true))) then (let x1:ZB:=(mk Int (Int.toNat (List.length x.2:Int)) (0:Int));(let x2:uH:=((0:Int),((1:Int),()));(ZJ (x.1,x.2,(List.length x.2:Int),(0:Int),((0:Int),((0:Int),())),x1,x2)))) else none)
def wH (mk:(α:Type)->Nat->α->List α) (N:Nat) (x:ZF×Y6):Option (ZB×uH):=kU mk (FU (gZ mk N) N) x
theorem QZF (mk:(α:Type)->Nat->α->List α) (N:Nat) (x:ZF×Y6):rise (QMA mk) QQ0 6 N Tryz.f208 [Z20,Z7] [Z6,Z12] [true,false] x=wH mk N x:=Eq.trans (b:=kU mk (fun v=>Ns (Yg (QMA mk) QQ0 6 N Tryz.f208 [Z6,Z12] [true,false] [] 0 Wx) N (QF9 v)) x) (by kernel_rfl) (by rw [funext (SN QF9 (QQd mk N) N)];rfl)
def fM (x:ZF×Y6):Option (ZB×uH):=wH (fun _=>List.replicate) big x
def QT0:UA:=⟨[Z20,Z7],[Z6,Z12],[true,false],fun x=>fM x⟩
theorem QXG:GV Tryz.prog 208 QT0:=rz (E:=QMA (fun _=>List.replicate)) ⟨ZK,(XT QUA Xq),fun _ _ _=>rfl,mixed,X8,YF,YE⟩ Tryz.func208 fun _ _ h=>(QZF (fun _=>List.replicate) big _).trans h
def QY0:LT:={ live:=[],keep:=[] }
noncomputable def QS9:Aj:={ tab:=tab,fs:=[(208,QT0)],inl:=[] }
def kR (x:ZC×ZF):Option (uH):=
 (bif (x.1.1==(2:Int)) then (bif (x.1.1==(2:Int)) then (let x1:uH:=((8:Int),((8:Int),()));(some x1)) else (bif (x.1.1==(3:Int)) then (let x2:uH:=((16:Int),((8:Int),()));(some x2)) else (bif (x.1.1==(7:Int)) then (let x3:uH:=((24:Int),((8:Int),()));(some x3)) else (bif (x.1.1==(6:Int)) then ((Mh x.2 x.1.2.1).bind fun x4=>(let x5:Int:=(IntKind.i64.wrap (x.1.2.2.1 * x4.1));(some (x5,(x4.2.1,()))))) else (bif (x.1.1==(5:Int)) then ((fM (x.2,x.1.2.2.2.1)).bind fun x6=>(some x6.2)) else (let x7:uH:=((1:Int),((1:Int),()));(some x7))))))) else (bif (x.1.1==(4:Int)) then (let x8:uH:=((8:Int),((8:Int),()));(some x8)) else (bif (x.1.1==(3:Int)) then (let x9:uH:=((16:Int),((8:Int),()));(some x9)) else (bif (x.1.1==(7:Int)) then (let fH:uH:=((24:Int),((8:Int),()));(some fH)) else (bif (x.1.1==(6:Int)) then ((Mh x.2 x.1.2.1).bind fun mX=>(let mh:Int:=(IntKind.i64.wrap (x.1.2.2.1 * mX.1));(some (mh,(mX.2.1,()))))) else (bif (x.1.1==(5:Int)) then ((fM (x.2,x.1.2.2.2.1)).bind fun qV=>(some qV.2)) else (let jU:uH:=((1:Int),((1:Int),()));(some jU))))))))
def QBb (N:Nat) (x:ZC×ZF):Option (uH):=kR x
theorem QZG (N:Nat) (x:ZC×ZF):rise (QS9) QY0 6 N Tryz.f193 [Z4,Z20] [Z12] [false] x=kR x:=by kernel_rfl
def o8 (x:ZC×ZF):Option (uH):=QBb big x
def QT1:UA:=⟨[Z4,Z20],[Z12],[false],fun x=>o8 x⟩
theorem QXH:GV Tryz.prog 193 QT1:=rz (E:=QS9) ⟨ZK,(XT QXG Xq),fun _ _ _=>rfl,mixed,X8,YF,YE⟩ Tryz.func193 fun _ _ h=>(QZG big _).trans h
def QQ1:LT:={ live:=[(3,[3,6,7,8])],keep:=[] }
noncomputable def QMB:Aj:={ tab:=tab,fs:=[(193,QT1)],inl:=[] }
noncomputable def QFA (v:Y9×Int×Int×ZF):St:={ s:=[(3,(.row 0)),(6,(.val ⟨sV,v.1⟩)),(7,(.val ⟨Z2,v.2.1⟩)),(8,(.val ⟨Z2,v.2.2.1⟩))],l:=[(0,.row Z12 v.2.2.2)],k:=[],b:=4096 }
def dx (ZG:Y9×Int×Int×ZF->Option (ZF)) (v:Y9×Int×Int×ZF):Option (ZF):=
 (bif (decide (v.2.2.1 < v.2.1)) then ((Mh v.1 v.2.2.1).bind fun x1=>((o8 (x1,v.2.2.2)).bind fun x2=>(let x3:ZF:=([x2]:ZF);(bif (Nat.ble 1 2&&Nat.ble (List.length v.2.2.2+List.length x3) lim) then (let x4:Int:=(IntKind.i64.wrap (v.2.2.1+(1:Int)));(ZG (v.1,v.2.1,x4,(List.append v.2.2.2 x3)))) else none)))) else (some v.2.2.2))
def jG (N:Nat) (ZG:Y9×Int×Int×ZF->Option (ZF)) (v:Y9×Int×Int×ZF):Option (ZF):=dx ZG v
theorem QQe (N:Nat) (s0:St->Option (ZF)) (v):(Yg (QMB) QQ1 6 N Tryz.f172 [Z20] [true] [] 0 Wx) s0 (QFA v)=jG N (fun v=>s0 (QFA v)) v:=by kernel_rfl
def l8 (ZJ:Y9×Int×Int×ZF->Option (ZF)) (x:Y9):Option (ZF):=
 (ZJ (x,(List.length x:Int),(0:Int),([]:List uH)))
def xY (N:Nat) (x:Y9):Option (ZF):=l8 (FU (jG N) N) x
theorem QZH (N:Nat) (x:Y9):rise (QMB) QQ1 6 N Tryz.f172 [sV] [Z20] [true] x=xY N x:=Eq.trans (b:=l8 (fun v=>Ns (Yg (QMB) QQ1 6 N Tryz.f172 [Z20] [true] [] 0 Wx) N (QFA v)) x) (by kernel_rfl) (by rw [funext (SN QFA (QQe N) N)];rfl)
def qd (x:Y9):Option (ZF):=xY big x
def QT2:UA:=⟨[sV],[Z20],[true],fun x=>qd x⟩
theorem QXI:GV Tryz.prog 172 QT2:=rz (E:=QMB) ⟨ZK,(XT QXH Xq),fun _ _ _=>rfl,mixed,X8,YF,YE⟩ Tryz.func172 fun _ _ h=>(QZH big _).trans h
def QY1:LT:={ live:=[],keep:=[] }
noncomputable def QSA:Aj:={ tab:=tab,fs:=[(170,QSy),(171,QSz),(172,QT2)],inl:=[] }
def kS (x:vo):Option (ZF×Int):=
 ((wR x.1).bind fun x1=>(bif (x1 != (0:Int)) then (some (([]:List uH),x1)) else ((qg (x.2,(List.length x.1:Int))).bind fun x2=>(bif (!x2) then (some (([]:List uH),(2:Int))) else ((qd x.1).bind fun x3=>(bif (decide (0<=x.2)&&decide (x.2 < (List.length x3:Int))) then ((nth x3 (Int.toNat x.2)).bind fun x4=>(bif (decide (x4.1 > (256:Int))) then (some (([]:List uH),(16:Int))) else (some (x3,(0:Int))))) else none))))))
def QBc (N:Nat) (x:vo):Option (ZF×Int):=kS x
theorem QZI (N:Nat) (x:vo):rise (QSA) QY1 6 N Tryz.f134 [sV,Z2] [Z20,Z2] [true,false] x=kS x:=by kernel_rfl
def o9 (x:vo):Option (ZF×Int):=QBc big x
def QT3:UA:=⟨[sV,Z2],[Z20,Z2],[true,false],fun x=>o9 x⟩
theorem QXJ:GV Tryz.prog 134 QT3:=rz (E:=QSA) ⟨ZK,(XT QXE (XT QXF (XT QXI Xq))),fun _ _ _=>rfl,mixed,X8,YF,YE⟩ Tryz.func134 fun _ _ h=>(QZI big _).trans h
def QY2:LT:={ live:=[],keep:=[] }
noncomputable def QSB:Aj:={ tab:=tab,fs:=[(134,QT3)],inl:=[] }
def rZ (x:vo):Option Y19:=
 ((o9 (x.1,x.2)).bind fun x1=>(bif (x1.2 != (0:Int)) then (some ((0:Int),(0:Int),x1.2)) else (bif (decide (0<=x.2)&&decide (x.2 < (List.length x1.1:Int))) then ((nth x1.1 (Int.toNat x.2)).bind fun x2=>(bif (decide (0<=x.2)&&decide (x.2 < (List.length x1.1:Int))) then ((nth x1.1 (Int.toNat x.2)).bind fun x3=>(some (x2.1,x3.2.1,(0:Int)))) else none)) else none)))
def QFh (N:Nat) (x:vo):Option Y19:=rZ x
theorem QZJ (N:Nat) (x:vo):rise (QSB) QY2 6 N Tryz.f85 [sV,Z2] [Z2,Z2,Z2] [false,false,false] x=rZ x:=by kernel_rfl
def rD (x:vo):Option Y19:=QFh big x
def QPP:UA:=⟨[sV,Z2],[Z2,Z2,Z2],[false,false,false],fun x=>rD x⟩
theorem QUB:GV Tryz.prog 85 QPP:=rz (E:=QSB) ⟨ZK,(XT QXJ Xq),fun _ _ _=>rfl,mixed,X8,YF,YE⟩ Tryz.func85 fun _ _ h=>(QZJ big _).trans h
def QQ2:LT:={ live:=[(2,[0,8,9])],keep:=[] }
noncomputable def QMC:Aj:={ tab:=tab,fs:=[(85,QPP)],inl:=[] }
noncomputable def QFB (v:Y69):St:={ s:=[(0,(.val ⟨sV,v.1⟩)),(8,(.val ⟨Z2,v.2.1⟩)),(9,(.val ⟨Z2,v.2.2⟩))],l:=[],k:=[],b:=4096 }
def ny (ZG:Y69->Option (Bool)) (v:Y69):Option (Bool):=
 (bif (decide (v.2.2 < v.2.1)) then ((rD (v.1,v.2.2)).bind fun x1=>(bif (x1.2.2 != (0:Int)) then (some false) else (let x2:Int:=(IntKind.i64.wrap (v.2.2+(1:Int)));(ZG (v.1,v.2.1,x2))))) else (some true))
def bN (N:Nat) (ZG:Y69->Option (Bool)) (v:Y69):Option (Bool):=ny ZG v
theorem QQf (N:Nat) (s0:St->Option (Bool)) (v):(Yg (QMC) QQ2 6 N Tryz.f148 [.bool] [false] [] 0 Wx) s0 (QFB v)=bN N (fun v=>s0 (QFB v)) v:=by kernel_rfl
def l5 (ZJ:Y69->Option (Bool)) (x:Y9):Option (Bool):=
 (ZJ (x,(List.length x:Int),(0:Int)))
def xW (N:Nat) (x:Y9):Option (Bool):=l5 (FU (bN N) N) x
theorem QZK (N:Nat) (x:Y9):rise (QMC) QQ2 6 N Tryz.f148 [sV] [.bool] [false] x=xW N x:=Eq.trans (b:=l5 (fun v=>Ns (Yg (QMC) QQ2 6 N Tryz.f148 [.bool] [false] [] 0 Wx) N (QFB v)) x) (by kernel_rfl) (by rw [funext (SN QFB (QQf N) N)];rfl)
def qc (x:Y9):Option (Bool):=xW big x
def QT4:UA:=⟨[sV],[.bool],[false],fun x=>qc x⟩
theorem QXK:GV Tryz.prog 148 QT4:=rz (E:=QMC) ⟨ZK,(XT QUB Xq),fun _ _ _=>rfl,mixed,X8,YF,YE⟩ Tryz.func148 fun _ _ h=>(QZK big _).trans h
def QQ3:LT:={ live:=[(4,[8,9,10])],keep:=[] }
noncomputable def QMD:Aj:={ tab:=tab,fs:=[],inl:=[] }
noncomputable def QFC (v:yD×Int×Int):St:={ s:=[(8,(.val ⟨(.slice .str),v.1⟩)),(9,(.val ⟨Z2,v.2.1⟩)),(10,(.val ⟨Z2,v.2.2⟩))],l:=[],k:=[],b:=4096 }
def nu (ZG:yD×Int×Int->Option (Bool)) (v:yD×Int×Int):Option (Bool):=
 (bif (decide (v.2.2 < v.2.1)) then ((Mh v.1 v.2.2).bind fun x1=>(bif (decide ((List.length x1:Int) > (64:Int))) then (some false) else (let x2:Int:=(IntKind.i64.wrap (v.2.2+(1:Int)));(ZG (v.1,v.2.1,x2))))) else (some true))
def bM (N:Nat) (ZG:yD×Int×Int->Option (Bool)) (v:yD×Int×Int):Option (Bool):=nu ZG v
theorem QQg (N:Nat) (s0:St->Option (Bool)) (v):(Yg (QMD) QQ3 6 N Tryz.f149 [.bool] [false] [] 0 Wx) s0 (QFC v)=bM N (fun v=>s0 (QFC v)) v:=by kernel_rfl
def lu (ZJ:yD×Int×Int->Option (Bool)) (x:yD):Option (Bool):=
 (bif (decide ((List.length x:Int) > (32:Int))) then (some false) else (ZJ (x,(List.length x:Int),(0:Int))))
def xV (N:Nat) (x:yD):Option (Bool):=lu (FU (bM N) N) x
theorem QZL (N:Nat) (x:yD):rise (QMD) QQ3 6 N Tryz.f149 [(.slice .str)] [.bool] [false] x=xV N x:=Eq.trans (b:=lu (fun v=>Ns (Yg (QMD) QQ3 6 N Tryz.f149 [.bool] [false] [] 0 Wx) N (QFC v)) x) (by kernel_rfl) (by rw [funext (SN QFC (QQg N) N)];rfl)
def qb (x:yD):Option (Bool):=xV big x
def QT5:UA:=⟨[(.slice .str)],[.bool],[false],fun x=>qb x⟩
theorem QXL:GV Tryz.prog 149 QT5:=rz (E:=QMD) ⟨ZK,Xq,fun _ _ _=>rfl,mixed,X8,YF,YE⟩ Tryz.func149 fun _ _ h=>(QZL big _).trans h
def QY4:LT:={ live:=[],keep:=[] }
noncomputable def QSC:Aj:={ tab:=tab,fs:=[],inl:=[] }
def oU (x:wL):Option (Bool):=
 (bif (decide (x.1≥(0:Int))) then (some (decide (x.1 < x.2))) else (some false))
def QDO (N:Nat) (x:wL):Option (Bool):=oU x
theorem QZM (N:Nat) (x:wL):rise (QSC) QY4 6 N Tryz.f195 [Z2,Z2] [.bool] [false] x=oU x:=by kernel_rfl
def nI (x:wL):Option (Bool):=QDO big x
def QPQ:UA:=⟨[Z2,Z2],[.bool],[false],fun x=>nI x⟩
theorem QUC:GV Tryz.prog 195 QPQ:=rz (E:=QSC) ⟨ZK,Xq,fun _ _ _=>rfl,mixed,X8,YF,YE⟩ Tryz.func195 fun _ _ h=>(QZM big _).trans h
def QY6:LT:={ live:=[],keep:=[] }
noncomputable def QSD:Aj:={ tab:=tab,fs:=[],inl:=[] }
def uo (x:(ZB×Y18)):Option (ZB):=
 (some x.1)
def QAh (N:Nat) (x:(ZB×Y18)):Option (ZB):=uo x
theorem QZN (N:Nat) (x:(ZB×Y18)):rise (QSD) QY6 6 N Tryz.f210 [Z19] [.str] [false] x=uo x:=by kernel_rfl
def nH (x:(ZB×Y18)):Option (ZB):=QAh big x
def QT6:UA:=⟨[Z19],[.str],[false],fun x=>nH x⟩
theorem QXM:GV Tryz.prog 210 QT6:=rz (E:=QSD) ⟨ZK,Xq,fun _ _ _=>rfl,mixed,X8,YF,YE⟩ Tryz.func210 fun _ _ h=>(QZN big _).trans h
def QL0:LT:={ live:=[(4,[0,1,10,11,12])],keep:=[(23,[])] }
noncomputable def QJ7:Aj:={ tab:=tab,fs:=[(195,QPQ),(198,QMO),(210,QT6)],inl:=[(209,Tryz.f209,QY5)] }
noncomputable def QND (v:Y6×Int×Int×Y16):St:={ s:=[(1,(.Dn 210 .unit)),(5,(.mp 0)),(10,(.val ⟨Z7,v.1⟩)),(11,(.val ⟨Z2,v.2.1⟩)),(12,(.val ⟨Z2,v.2.2.1⟩))],l:=[(0,.mp .str .bool v.2.2.2)],k:=[(4096,[])],b:=16875520 }
noncomputable def QBQ (v:Y45):St:={ s:=[(0,(.val ⟨Z7,v.1⟩)),(1,(.val ⟨Z2,v.2.1⟩)),(10,(.val ⟨Z7,v.2.2.1⟩)),(11,(.val ⟨Z2,v.2.2.2.1⟩)),(12,(.val ⟨Z2,v.2.2.2.2⟩))],l:=[],k:=[],b:=4096 }
def nk (ZG:Y45->Option (Bool)) (ZH:Y6×Int×Int×Y16->Option (Bool)) (v:Y6×Int×Int×Y16):Option (Bool):=
 (bif (decide (v.2.2.1 < v.2.1)) then ((Mh v.1 v.2.2.1).bind fun x4=>((nH x4).bind fun x5=>((nJ x5).bind fun x6=>(bif (!x6) then (some false) else (bif (@Om .str .bool x5 false v.2.2.2).1 then (some false) else (let x7:Y16:=(@LH .str .bool x5 true v.2.2.2);(let x8:Int:=(IntKind.i64.wrap (v.2.2.1+(1:Int)));(ZH (v.1,v.2.1,x8,x7))))))))) else (some true))
def bL (N:Nat) (ZG:Y45->Option (Bool)) (ZH:Y6×Int×Int×Y16->Option (Bool)) (v:Y6×Int×Int×Y16):Option (Bool):=nk ZG ZH v
theorem QYW (N:Nat) (s0:St->Option (Bool)) (s1:St->Option (Bool)) (v):(Yg (QJ7) QL0 6 N Tryz.f194 [.bool] [false] [.call 9 1 209] 0 Wx) s1 (QND v)=bL N (fun v=>s0 (QBQ v)) (fun v=>s1 (QND v)) v:=by kernel_rfl
def jK (Zv:Y6×Int×Int×Y16->Option (Bool)) (ZG:Y45->Option (Bool)) (v:Y45):Option (Bool):=
 (bif (decide (v.2.2.2.2 < v.2.2.2.1)) then ((Mh v.2.2.1 v.2.2.2.2).bind fun x1=>((nI (x1.2.1,v.2.1)).bind fun x2=>(bif (!x2) then (some false) else (let x3:Int:=(IntKind.i64.wrap (v.2.2.2.2+(1:Int)));(ZG (v.1,v.2.1,v.2.2.1,v.2.2.2.1,x3)))))) else (Zv (v.1,(List.length v.1:Int),(0:Int),([]:List Y21))))
def bK (N:Nat) (ZG:Y45->Option (Bool)) (v:Y45):Option (Bool):=jK (FU (bL N ZG) N) ZG v
theorem QQh (N:Nat) (s0:St->Option (Bool)) (v):(Yg (QJ7) QL0 6 N Tryz.f194 [.bool] [false] [] 0 Wx) s0 (QBQ v)=bK N (fun v=>s0 (QBQ v)) v:=Eq.trans (b:=jK (fun v=>Ns (Yg (QJ7) QL0 6 N Tryz.f194 [.bool] [false] [.call 9 1 209] 0 Wx) N (QND v)) (fun v=>s0 (QBQ v)) v) (by kernel_rfl) (by rw [funext (SN QND (QYW N s0) N)];rfl)
def lq (ZJ:Y45->Option (Bool)) (x:Y6×Int):Option (Bool):=
 (bif (decide ((List.length x.1:Int) > (16:Int))) then (some false) else (ZJ (x.1,x.2,x.1,(List.length x.1:Int),(0:Int))))
def xU (N:Nat) (x:Y6×Int):Option (Bool):=lq (FU (bK N) N) x
theorem QZO (N:Nat) (x:Y6×Int):rise (QJ7) QL0 6 N Tryz.f194 [Z7,Z2] [.bool] [false] x=xU N x:=Eq.trans (b:=lq (fun v=>Ns (Yg (QJ7) QL0 6 N Tryz.f194 [.bool] [false] [] 0 Wx) N (QBQ v)) x) (by kernel_rfl) (by rw [funext (SN QBQ (QQh N) N)];rfl)
def qZ (x:Y6×Int):Option (Bool):=xU big x
def QT7:UA:=⟨[Z7,Z2],[.bool],[false],fun x=>qZ x⟩
theorem QXN:GV Tryz.prog 194 QT7:=rz (E:=QJ7) ⟨ZK,(XT QUC (XT QPb (XT QXM Xq))),fun _ _ _=>rfl,mixed,(Xe (Xd Tryz.func209 rfl rfl (by kernel_rfl)) X8),YF,YE⟩ Tryz.func194 fun _ _ h=>(QZO big _).trans h
def QY7:LT:={ live:=[],keep:=[] }
noncomputable def QSE:Aj:={ tab:=tab,fs:=[],inl:=[] }
def pO (x:Int):Option (Bool):=
 (bif (decide (x≥(1:Int))) then (some (decide (x<=(34:Int)))) else (some false))
def wI (N:Nat) (x:Int):Option (Bool):=pO x
theorem QZP (N:Nat) (x:Int):rise (QSE) QY7 6 N Tryz.f139 [fI] [.bool] [false] x=pO x:=by kernel_rfl
def kD (x:Int):Option (Bool):=wI big x
def QT8:UA:=⟨[fI],[.bool],[false],fun x=>kD x⟩
theorem QXO:GV Tryz.prog 139 QT8:=rz (E:=QSE) ⟨ZK,Xq,fun _ _ _=>rfl,mixed,X8,YF,YE⟩ Tryz.func139 fun _ _ h=>(QZP big _).trans h
def QY8:LT:={ live:=[],keep:=[] }
noncomputable def QSF:Aj:={ tab:=tab,fs:=[],inl:=[] }
def zo (x:ZE):Option (ZB):=
 (let x1:ZB:=[x.2.1,x.2.2.1,x.2.2.2.1];(some x1))
def QDz (N:Nat) (x:ZE):Option (ZB):=zo x
theorem QZQ (N:Nat) (x:ZE):rise (QSF) QY8 6 N Tryz.f140 [Z3] [Z18] [false] x=zo x:=by kernel_rfl
def lF (x:ZE):Option (ZB):=QDz big x
def QMP:UA:=⟨[Z3],[Z18],[false],fun x=>lF x⟩
theorem QPc:GV Tryz.prog 140 QMP:=rz (E:=QSF) ⟨ZK,Xq,fun _ _ _=>rfl,mixed,X8,YF,YE⟩ Tryz.func140 fun _ _ h=>(QZQ big _).trans h
def QY9:LT:={ live:=[],keep:=[] }
noncomputable def QSG:Aj:={ tab:=tab,fs:=[],inl:=[] }
def xK (x:wL):Option (Bool):=
 (bif (decide (x.1≥(0:Int))) then (some (decide (x.1 < x.2))) else (some false))
def QAm (N:Nat) (x:wL):Option (Bool):=xK x
theorem QZR (N:Nat) (x:wL):rise (QSG) QY9 6 N Tryz.f174 [Z2,Z2] [.bool] [false] x=xK x:=by kernel_rfl
def ZN (x:wL):Option (Bool):=QAm big x
def QT9:UA:=⟨[Z2,Z2],[.bool],[false],fun x=>ZN x⟩
theorem QXP:GV Tryz.prog 174 QT9:=rz (E:=QSG) ⟨ZK,Xq,fun _ _ _=>rfl,mixed,X8,YF,YE⟩ Tryz.func174 fun _ _ h=>(QZR big _).trans h
def QYA:LT:={ live:=[],keep:=[] }
noncomputable def QSH:Aj:={ tab:=tab,fs:=[(174,QT9)],inl:=[] }
def QBe (x:wL):Option (Bool):=
 (bif (x.1==(5:Int)) then (some true) else (bif (x.1==(3:Int)) then (bif (x.1==(3:Int)) then (bif (x.2==(-1:Int)) then (some true) else ((ZN (x.2,(16:Int))).bind fun x1=>(some x1))) else (bif (x.1==(1:Int)) then (bif (x.1==(1:Int)) then ((ZN (x.2,(16:Int))).bind fun x2=>(some x2)) else (bif (x.1==(6:Int)) then ((ZN (x.2,(2:Int))).bind fun x3=>(some x3)) else (bif (x.1==(7:Int)) then ((ZN (x.2,(32:Int))).bind fun x4=>(some x4)) else (bif (x.1==(8:Int)) then ((ZN (x.2,(8:Int))).bind fun x5=>(some x5)) else (bif (x.1==(9:Int)) then ((ZN (x.2,(32:Int))).bind fun x6=>(some x6)) else (bif (x.1==(10:Int)) then ((ZN (x.2,(200:Int))).bind fun x7=>(some x7)) else (some (x.2==(0:Int))))))))) else (bif (x.1==(2:Int)) then ((ZN (x.2,(16:Int))).bind fun x8=>(some x8)) else (bif (x.1==(6:Int)) then ((ZN (x.2,(2:Int))).bind fun x9=>(some x9)) else (bif (x.1==(7:Int)) then ((ZN (x.2,(32:Int))).bind fun fH=>(some fH)) else (bif (x.1==(8:Int)) then ((ZN (x.2,(8:Int))).bind fun mX=>(some mX)) else (bif (x.1==(9:Int)) then ((ZN (x.2,(32:Int))).bind fun mh=>(some mh)) else (bif (x.1==(10:Int)) then ((ZN (x.2,(200:Int))).bind fun qV=>(some qV)) else (some (x.2==(0:Int))))))))))) else (bif (x.1==(4:Int)) then (bif (x.2==(-1:Int)) then (some true) else ((ZN (x.2,(16:Int))).bind fun jU=>(some jU))) else (bif (x.1==(1:Int)) then (bif (x.1==(1:Int)) then ((ZN (x.2,(16:Int))).bind fun jV=>(some jV)) else (bif (x.1==(6:Int)) then ((ZN (x.2,(2:Int))).bind fun wK=>(some wK)) else (bif (x.1==(7:Int)) then ((ZN (x.2,(32:Int))).bind fun xu=>(some xu)) else (bif (x.1==(8:Int)) then ((ZN (x.2,(8:Int))).bind fun x18=>(some x18)) else (bif (x.1==(9:Int)) then ((ZN (x.2,(32:Int))).bind fun zW=>(some zW)) else (bif (x.1==(10:Int)) then ((ZN (x.2,(200:Int))).bind fun zO=>(some zO)) else (some (x.2==(0:Int))))))))) else (bif (x.1==(2:Int)) then ((ZN (x.2,(16:Int))).bind fun x21=>(some x21)) else (bif (x.1==(6:Int)) then ((ZN (x.2,(2:Int))).bind fun x22=>(some x22)) else (bif (x.1==(7:Int)) then ((ZN (x.2,(32:Int))).bind fun x23=>(some x23)) else (bif (x.1==(8:Int)) then ((ZN (x.2,(8:Int))).bind fun x24=>(some x24)) else (bif (x.1==(9:Int)) then ((ZN (x.2,(32:Int))).bind fun x25=>(some x25)) else (bif (x.1==(10:Int)) then ((ZN (x.2,(200:Int))).bind fun x26=>(some x26)) else (some (x.2==(0:Int)))))))))))))
def QEV (N:Nat) (x:wL):Option (Bool):=QBe x
theorem QZS (N:Nat) (x:wL):rise (QSH) QYA 6 N Tryz.f141 [fI,Z2] [.bool] [false] x=QBe x:=by kernel_rfl
def y7 (x:wL):Option (Bool):=QEV big x
def QTA:UA:=⟨[fI,Z2],[.bool],[false],fun x=>y7 x⟩
theorem QXQ:GV Tryz.prog 141 QTA:=rz (E:=QSH) ⟨ZK,(XT QXP Xq),fun _ _ _=>rfl,mixed,X8,YF,YE⟩ Tryz.func141 fun _ _ h=>(QZS big _).trans h
def QQ4:LT:={ live:=[(5,[3,16,17])],keep:=[] }
noncomputable def QME:Aj:={ tab:=tab,fs:=[(139,QT8),(140,QMP),(141,QTA)],inl:=[] }
noncomputable def QFD (v:Y74):St:={ s:=[(3,(.loc 0 [])),(16,(.val ⟨(.arr 3 fI),v.1⟩)),(17,(.val ⟨Z2,v.2.1⟩))],l:=[(0,.var Z18 (.val ⟨Z18,v.2.2⟩))],k:=[],b:=4096 }
def xC (ZG:Y74->Option (Int)) (v:Y74):Option (Int):=
 (bif (decide (v.2.1 < (3:Int))) then ((Mh v.1 v.2.1).bind fun x4=>(bif (decide (0<=v.2.1)&&decide (v.2.1 < (3:Int))) then ((nth v.2.2 (Int.toNat v.2.1)).bind fun x5=>((y7 (x4,x5)).bind fun x6=>(bif (!x6) then (some (8:Int)) else (let x7:Int:=(IntKind.i64.wrap (v.2.1+(1:Int)));(ZG (v.1,x7,v.2.2)))))) else none)) else (some (0:Int)))
def rJ (N:Nat) (ZG:Y74->Option (Int)) (v:Y74):Option (Int):=xC ZG v
theorem QQi (N:Nat) (s0:St->Option (Int)) (v):(Yg (QME) QQ4 6 N Tryz.f98 [Z2] [false] [] 0 Wx) s0 (QFD v)=rJ N (fun v=>s0 (QFD v)) v:=by kernel_rfl
def xI (ZJ:Y74->Option (Int)) (x:ZE):Option (Int):=
 ((kD x.1).bind fun x1=>(bif (!x1) then (some (8:Int)) else ((lF x).bind fun x2=>((Mh Yh x.1).bind fun x3=>(ZJ (x3.2.1,(0:Int),x2))))))
def QDT (N:Nat) (x:ZE):Option (Int):=xI (FU (rJ N) N) x
theorem QZT (N:Nat) (x:ZE):rise (QME) QQ4 6 N Tryz.f98 [Z3] [Z2] [false] x=QDT N x:=Eq.trans (b:=xI (fun v=>Ns (Yg (QME) QQ4 6 N Tryz.f98 [Z2] [false] [] 0 Wx) N (QFD v)) x) (by kernel_rfl) (by rw [funext (SN QFD (QQi N) N)];rfl)
def pF (x:ZE):Option (Int):=QDT big x
def QKM:UA:=⟨[Z3],[Z2],[false],fun x=>pF x⟩
theorem QMQ:GV Tryz.prog 98 QKM:=rz (E:=QME) ⟨ZK,(XT QXO (XT QPc (XT QXQ Xq))),fun _ _ _=>rfl,mixed,X8,YF,YE⟩ Tryz.func98 fun _ _ h=>(QZT big _).trans h
def QQ5:LT:={ live:=[(4,[13,14,15])],keep:=[] }
noncomputable def QMF:Aj:={ tab:=tab,fs:=[(98,QKM)],inl:=[] }
noncomputable def QFE (v:Y72):St:={ s:=[(13,(.val ⟨mP,v.1⟩)),(14,(.val ⟨Z2,v.2.1⟩)),(15,(.val ⟨Z2,v.2.2⟩))],l:=[],k:=[],b:=4096 }
def qm (ZG:Y72->Option (Bool)) (v:Y72):Option (Bool):=
 (bif (decide (v.2.2 < v.2.1)) then ((Mh v.1 v.2.2).bind fun x1=>((pF x1).bind fun x2=>(bif (x2 != (0:Int)) then (some false) else (let x3:Int:=(IntKind.i64.wrap (v.2.2+(1:Int)));(ZG (v.1,v.2.1,x3)))))) else (some true))
def dS (N:Nat) (ZG:Y72->Option (Bool)) (v:Y72):Option (Bool):=qm ZG v
theorem QQj (N:Nat) (s0:St->Option (Bool)) (v):(Yg (QMF) QQ5 6 N Tryz.f196 [.bool] [false] [] 0 Wx) s0 (QFE v)=dS N (fun v=>s0 (QFE v)) v:=by kernel_rfl
def qI (ZJ:Y72->Option (Bool)) (x:Y8):Option (Bool):=
 (bif (decide ((List.length x:Int) < (1:Int))) then (some false) else (bif (decide ((List.length x:Int) > (200:Int))) then (some false) else (ZJ (x,(List.length x:Int),(0:Int)))))
def ze (N:Nat) (x:Y8):Option (Bool):=qI (FU (dS N) N) x
theorem QZU (N:Nat) (x:Y8):rise (QMF) QQ5 6 N Tryz.f196 [mP] [.bool] [false] x=ze N x:=Eq.trans (b:=qI (fun v=>Ns (Yg (QMF) QQ5 6 N Tryz.f196 [.bool] [false] [] 0 Wx) N (QFE v)) x) (by kernel_rfl) (by rw [funext (SN QFE (QQj N) N)];rfl)
def pV (x:Y8):Option (Bool):=ze big x
def QTB:UA:=⟨[mP],[.bool],[false],fun x=>pV x⟩
theorem QXR:GV Tryz.prog 196 QTB:=rz (E:=QMF) ⟨ZK,(XT QMQ Xq),fun _ _ _=>rfl,mixed,X8,YF,YE⟩ Tryz.func196 fun _ _ h=>(QZU big _).trans h
def QYC:LT:={ live:=[],keep:=[] }
noncomputable def QSI:Aj:={ tab:=tab,fs:=[],inl:=[] }
def mG (x:Int):Option (Bool):=
 (bif (decide (x≥(1:Int))) then (some (decide (x<=(200:Int)))) else (some false))
def QCD (N:Nat) (x:Int):Option (Bool):=mG x
theorem QZV (N:Nat) (x:Int):rise (QSI) QYC 6 N Tryz.f168 [Z2] [.bool] [false] x=mG x:=by kernel_rfl
def lW (x:Int):Option (Bool):=QCD big x
def QPR:UA:=⟨[Z2],[.bool],[false],fun x=>lW x⟩
theorem QUD:GV Tryz.prog 168 QPR:=rz (E:=QSI) ⟨ZK,Xq,fun _ _ _=>rfl,mixed,X8,YF,YE⟩ Tryz.func168 fun _ _ h=>(QZV big _).trans h
def QYD:LT:={ live:=[],keep:=[] }
noncomputable def QSJ:Aj:={ tab:=tab,fs:=[],inl:=[] }
def vB (x:uH×uH):Option (Bool):=
 (some (Ib Z16 (x.2.1,x.1.2) x.2))
def QAy (N:Nat) (x:uH×uH):Option (Bool):=vB x
theorem QZW (N:Nat) (x:uH×uH):rise (QSJ) QYD 6 N Tryz.f169 [Z16,Z16] [.bool] [false] x=vB x:=by kernel_rfl
def jF (x:uH×uH):Option (Bool):=QAy big x
def QPS:UA:=⟨[Z16,Z16],[.bool],[false],fun x=>jF x⟩
theorem QUE:GV Tryz.prog 169 QPS:=rz (E:=QSJ) ⟨ZK,Xq,fun _ _ _=>rfl,mixed,X8,YF,YE⟩ Tryz.func169 fun _ _ h=>(QZW big _).trans h
def QQ6:LT:={ live:=[(6,[0,32,33])],keep:=[] }
noncomputable def QMG:Aj:={ tab:=tab,fs:=[(168,QPR),(169,QPS)],inl:=[] }
noncomputable def QFF (v:Y71):St:={ s:=[(0,(.val ⟨Z5,v.1⟩)),(32,(.val ⟨Z2,v.2.1⟩)),(33,(.val ⟨Z2,v.2.2⟩))],l:=[],k:=[],b:=4096 }
def iM (ZG:Y71->Option (Int)) (v:Y71):Option (Int):=
 (bif (decide (v.2.2 < v.2.1)) then ((Mh v.1 v.2.2).bind fun x6=>(let x7:Int:=(IntKind.i64.wrap (v.2.2+(1:Int)));((Mh v.1 x7).bind fun x8=>(bif (decide (x6.1≥x8.1)) then (some (8:Int)) else ((Mh v.1 v.2.2).bind fun x9=>(let fH:Int:=(IntKind.i64.wrap (v.2.2+(1:Int)));((Mh v.1 fH).bind fun mX=>((jF (x9,mX)).bind fun mh=>(bif mh then (some (8:Int)) else (let qV:Int:=(IntKind.i64.wrap (v.2.2+(1:Int)));(ZG (v.1,v.2.1,qV)))))))))))) else (some (0:Int)))
def lY (N:Nat) (ZG:Y71->Option (Int)) (v:Y71):Option (Int):=iM ZG v
theorem QQk (N:Nat) (s0:St->Option (Int)) (v):(Yg (QMG) QQ6 6 N Tryz.f197 [Z2] [false] [] 0 Wx) s0 (QFF v)=lY N (fun v=>s0 (QFF v)) v:=by kernel_rfl
def qP (ZJ:Y71->Option (Int)) (x:ZF×Int):Option (Int):=
 ((lW x.2).bind fun x1=>(bif (!x1) then (some (2:Int)) else (bif ((List.length x.1:Int)==(0:Int)) then (some (8:Int)) else ((Mh x.1 (0:Int)).bind fun x2=>(bif (x2.1 != (0:Int)) then (some (8:Int)) else (let x3:Int:=(IntKind.i64.wrap ((List.length x.1:Int) - (1:Int)));((Mh x.1 x3).bind fun x4=>(bif (decide (x4.1≥x.2)) then (some (8:Int)) else (let x5:Int:=(IntKind.i64.wrap ((List.length x.1:Int) - (1:Int)));(ZJ (x.1,x5,(0:Int))))))))))))
def zn (N:Nat) (x:ZF×Int):Option (Int):=qP (FU (lY N) N) x
theorem QZX (N:Nat) (x:ZF×Int):rise (QMG) QQ6 6 N Tryz.f197 [Z5,Z2] [Z2] [false] x=zn N x:=Eq.trans (b:=qP (fun v=>Ns (Yg (QMG) QQ6 6 N Tryz.f197 [Z2] [false] [] 0 Wx) N (QFF v)) x) (by kernel_rfl) (by rw [funext (SN QFF (QQk N) N)];rfl)
def eF (x:ZF×Int):Option (Int):=zn big x
def QPT:UA:=⟨[Z5,Z2],[Z2],[false],fun x=>eF x⟩
theorem QUF:GV Tryz.prog 197 QPT:=rz (E:=QMG) ⟨ZK,(XT QUD (XT QUE Xq)),fun _ _ _=>rfl,mixed,X8,YF,YE⟩ Tryz.func197 fun _ _ h=>(QZX big _).trans h
def QYE:LT:={ live:=[],keep:=[] }
noncomputable def QSK:Aj:={ tab:=tab,fs:=[(194,QT7),(195,QPQ),(196,QTB),(197,QPT)],inl:=[] }
def qJ (x:Tg×Int):Option (Bool):=
 ((qZ (x.1.2.2.2.1,x.2)).bind fun x1=>(bif (!x1) then (some false) else (bif (decide (x.1.2.1 < (0:Int))) then (some false) else (bif (decide (x.1.2.1 > (List.length x.1.2.2.2.1:Int))) then (some false) else (bif (x.1.2.2.1 != (-1:Int)) then ((nI (x.1.2.2.1,x.2)).bind fun x2=>(bif (!x2) then (some false) else ((pV x.1.2.2.2.2.1).bind fun x3=>(bif x3 then ((eF (x.1.2.2.2.2.2.1,(List.length x.1.2.2.2.2.1:Int))).bind fun x4=>(bif (x4==(0:Int)) then ((eF (x.1.2.2.2.2.2.2.1,(List.length x.1.2.2.2.2.1:Int))).bind fun x5=>(some (x5==(0:Int)))) else (some false))) else (some false))))) else ((pV x.1.2.2.2.2.1).bind fun x6=>(bif x6 then ((eF (x.1.2.2.2.2.2.1,(List.length x.1.2.2.2.2.1:Int))).bind fun x7=>(bif (x7==(0:Int)) then ((eF (x.1.2.2.2.2.2.2.1,(List.length x.1.2.2.2.2.1:Int))).bind fun x8=>(some (x8==(0:Int)))) else (some false))) else (some false))))))))
def QDx (N:Nat) (x:Tg×Int):Option (Bool):=qJ x
theorem QZY (N:Nat) (x:Tg×Int):rise (QSK) QYE 6 N Tryz.f177 [Z0,Z2] [.bool] [false] x=qJ x:=by kernel_rfl
def vJ (x:Tg×Int):Option (Bool):=QDx big x
def QTC:UA:=⟨[Z0,Z2],[.bool],[false],fun x=>vJ x⟩
theorem QXS:GV Tryz.prog 177 QTC:=rz (E:=QSK) ⟨ZK,(XT QXN (XT QUC (XT QXR (XT QUF Xq)))),fun _ _ _=>rfl,mixed,X8,YF,YE⟩ Tryz.func177 fun _ _ h=>(QZY big _).trans h
def QYG:LT:={ live:=[],keep:=[] }
noncomputable def QSL:Aj:={ tab:=tab,fs:=[],inl:=[] }
def um (x:Tg):Option (ZB):=
 (some x.1)
def QAg (N:Nat) (x:Tg):Option (ZB):=um x
theorem QZZ (N:Nat) (x:Tg):rise (QSL) QYG 6 N Tryz.f179 [Z0] [.str] [false] x=um x:=by kernel_rfl
def nG (x:Tg):Option (ZB):=QAg big x
def QTD:UA:=⟨[Z0],[.str],[false],fun x=>nG x⟩
theorem QXT:GV Tryz.prog 179 QTD:=rz (E:=QSL) ⟨ZK,Xq,fun _ _ _=>rfl,mixed,X8,YF,YE⟩ Tryz.func179 fun _ _ h=>(QZZ big _).trans h
def QL1:LT:={ live:=[(4,[0,1,15,16,17])],keep:=[(27,[])] }
noncomputable def QJ8:Aj:={ tab:=tab,fs:=[(177,QTC),(179,QTD),(198,QMO)],inl:=[(178,Tryz.f178,QYF)] }
noncomputable def QNE (v:Y17×Int×Int×Y16):St:={ s:=[(1,(.Dn 179 .unit)),(5,(.mp 0)),(10,(.val ⟨(.slice Z0),v.1⟩)),(11,(.val ⟨Z2,v.2.1⟩)),(12,(.val ⟨Z2,v.2.2.1⟩))],l:=[(0,.mp .str .bool v.2.2.2)],k:=[(4096,[])],b:=16891904 }
noncomputable def QBR (v:Y39):St:={ s:=[(0,(.val ⟨(.slice Z0),v.1⟩)),(1,(.val ⟨Z2,v.2.1⟩)),(15,(.val ⟨(.slice Z0),v.2.2.1⟩)),(16,(.val ⟨Z2,v.2.2.2.1⟩)),(17,(.val ⟨Z2,v.2.2.2.2⟩))],l:=[],k:=[],b:=4096 }
def ni (ZG:Y39->Option (Bool)) (ZH:Y17×Int×Int×Y16->Option (Bool)) (v:Y17×Int×Int×Y16):Option (Bool):=
 (bif (decide (v.2.2.1 < v.2.1)) then ((Mh v.1 v.2.2.1).bind fun x4=>((nG x4).bind fun x5=>((nJ x5).bind fun x6=>(bif (!x6) then (some false) else (bif (@Om .str .bool x5 false v.2.2.2).1 then (some false) else (let x7:Y16:=(@LH .str .bool x5 true v.2.2.2);(let x8:Int:=(IntKind.i64.wrap (v.2.2.1+(1:Int)));(ZH (v.1,v.2.1,x8,x7))))))))) else (some true))
def bJ (N:Nat) (ZG:Y39->Option (Bool)) (ZH:Y17×Int×Int×Y16->Option (Bool)) (v:Y17×Int×Int×Y16):Option (Bool):=ni ZG ZH v
theorem QYX (N:Nat) (s0:St->Option (Bool)) (s1:St->Option (Bool)) (v):(Yg (QJ8) QL1 6 N Tryz.f150 [.bool] [false] [.call 9 1 178] 0 Wx) s1 (QNE v)=bJ N (fun v=>s0 (QBR v)) (fun v=>s1 (QNE v)) v:=by kernel_rfl
def jJ (Zv:Y17×Int×Int×Y16->Option (Bool)) (ZG:Y39->Option (Bool)) (v:Y39):Option (Bool):=
 (bif (decide (v.2.2.2.2 < v.2.2.2.1)) then ((Mh v.2.2.1 v.2.2.2.2).bind fun x1=>((vJ (x1,v.2.1)).bind fun x2=>(bif (!x2) then (some false) else (let x3:Int:=(IntKind.i64.wrap (v.2.2.2.2+(1:Int)));(ZG (v.1,v.2.1,v.2.2.1,v.2.2.2.1,x3)))))) else (Zv (v.1,(List.length v.1:Int),(0:Int),([]:List Y21))))
def bI (N:Nat) (ZG:Y39->Option (Bool)) (v:Y39):Option (Bool):=jJ (FU (bJ N ZG) N) ZG v
theorem QQl (N:Nat) (s0:St->Option (Bool)) (v):(Yg (QJ8) QL1 6 N Tryz.f150 [.bool] [false] [] 0 Wx) s0 (QBR v)=bI N (fun v=>s0 (QBR v)) v:=Eq.trans (b:=jJ (fun v=>Ns (Yg (QJ8) QL1 6 N Tryz.f150 [.bool] [false] [.call 9 1 178] 0 Wx) N (QNE v)) (fun v=>s0 (QBR v)) v) (by kernel_rfl) (by rw [funext (SN QNE (QYX N s0) N)];rfl)
def lg (ZJ:Y39->Option (Bool)) (x:Y17×Int):Option (Bool):=
 (bif (decide ((List.length x.1:Int) < (1:Int))) then (some false) else (bif (decide ((List.length x.1:Int) > (32:Int))) then (some false) else (ZJ (x.1,x.2,x.1,(List.length x.1:Int),(0:Int)))))
def xS (N:Nat) (x:Y17×Int):Option (Bool):=lg (FU (bI N) N) x
theorem QZa (N:Nat) (x:Y17×Int):rise (QJ8) QL1 6 N Tryz.f150 [(.slice Z0),Z2] [.bool] [false] x=xS N x:=Eq.trans (b:=lg (fun v=>Ns (Yg (QJ8) QL1 6 N Tryz.f150 [.bool] [false] [] 0 Wx) N (QBR v)) x) (by kernel_rfl) (by rw [funext (SN QBR (QQl N) N)];rfl)
def qY (x:Y17×Int):Option (Bool):=xS big x
def QTE:UA:=⟨[(.slice Z0),Z2],[.bool],[false],fun x=>qY x⟩
theorem QXU:GV Tryz.prog 150 QTE:=rz (E:=QJ8) ⟨ZK,(XT QXS (XT QXT (XT QPb Xq))),fun _ _ _=>rfl,mixed,(Xe (Xd Tryz.func178 rfl rfl (by kernel_rfl)) X8),YF,YE⟩ Tryz.func150 fun _ _ h=>(QZa big _).trans h
def QYH:LT:={ live:=[],keep:=[] }
noncomputable def QSM:Aj:={ tab:=tab,fs:=[(148,QT4),(149,QT5),(150,QTE)],inl:=[] }
def oV (x:ZA):Option (Bool):=
 ((qc x.1).bind fun x1=>(bif x1 then ((qb x.2.1).bind fun x2=>(bif x2 then ((qY (x.2.2.1,(List.length x.1:Int))).bind fun x3=>(some x3)) else (some false))) else (some false)))
def QDP (N:Nat) (x:ZA):Option (Bool):=oV x
theorem QZb (N:Nat) (x:ZA):rise (QSM) QYH 6 N Tryz.f118 [Z1] [.bool] [false] x=oV x:=by kernel_rfl
def su (x:ZA):Option (Bool):=QDP big x
def QTF:UA:=⟨[Z1],[.bool],[false],fun x=>su x⟩
theorem QXV:GV Tryz.prog 118 QTF:=rz (E:=QSM) ⟨ZK,(XT QXK (XT QXL (XT QXU Xq))),fun _ _ _=>rfl,mixed,X8,YF,YE⟩ Tryz.func118 fun _ _ h=>(QZb big _).trans h
def QL2:LT:={ live:=[(3,[0,3,9,10,11]),(9,[6,22,23,24])],keep:=[] }
noncomputable def QJ9 (mk:(α:Type)->Nat->α->List α):Aj:={ tab:=tab,fs:=[],inl:=[],rep:=mk }
noncomputable def QFG (v:Y62):St:={ s:=[(6,(.row 0)),(22,(.val ⟨(.slice Z9),v.1⟩)),(23,(.val ⟨Z2,v.2.1⟩)),(24,(.val ⟨Z2,v.2.2.1⟩))],l:=[(0,.row fI v.2.2.2)],k:=[],b:=4096 }
noncomputable def QBS (v:Y40):St:={ s:=[(0,(.val ⟨(.slice Z9),v.1⟩)),(3,(.val ⟨Z2,v.2.1⟩)),(9,(.val ⟨(.slice Z9),v.2.2.1⟩)),(10,(.val ⟨Z2,v.2.2.2.1⟩)),(11,(.val ⟨Z2,v.2.2.2.2⟩))],l:=[],k:=[],b:=4096 }
def tY (mk:(α:Type)->Nat->α->List α) (ZG:Y40->Option (ZB)) (ZH:Y62->Option (ZB)) (v:Y62):Option (ZB):=
 (bif (decide (v.2.2.1 < v.2.1)) then ((Mh v.1 v.2.2.1).bind fun x5=>(bif (Nat.ble 1 1&&Nat.ble (List.length v.2.2.2+List.length x5) lim) then (let x6:Int:=(IntKind.i64.wrap (v.2.2.1+(1:Int)));(ZH (v.1,v.2.1,x6,(List.append v.2.2.2 x5)))) else none)) else (some v.2.2.2))
def je (mk:(α:Type)->Nat->α->List α) (N:Nat) (ZG:Y40->Option (ZB)) (ZH:Y62->Option (ZB)) (v:Y62):Option (ZB):=tY mk ZG ZH v
theorem QQn (mk:(α:Type)->Nat->α->List α) (N:Nat) (s0:St->Option (ZB)) (s1:St->Option (ZB)) (v):(Yg (QJ9 mk) QL2 6 N Tryz.f200 [Z9] [true] [] 1 Wx) s1 (QFG v)=je mk N (fun v=>s0 (QBS v)) (fun v=>s1 (QFG v)) v:=by kernel_rfl
def oJ (mk:(α:Type)->Nat->α->List α) (Zv:Y62->Option (ZB)) (ZG:Y40->Option (ZB)) (v:Y40):Option (ZB):=
 (bif (decide (v.2.2.2.2 < v.2.2.2.1)) then ((Mh v.2.2.1 v.2.2.2.2).bind fun x1=>(let x2:Int:=(IntKind.i64.wrap (v.2.1+(List.length x1:Int)));(let x3:Int:=(IntKind.i64.wrap (v.2.2.2.2+(1:Int)));(ZG (v.1,x2,v.2.2.1,v.2.2.2.1,x3))))) else (bif (decide (0<=(0:Int))&&(decide ((0:Int)<=v.2.1)&&(decide (v.2.1<=68719476736)&&true))) then (let x4:ZB:=(mk Int (Int.toNat (0:Int)) (0:Int));(Zv (v.1,(List.length v.1:Int),(0:Int),x4))) else none))
def gH (mk:(α:Type)->Nat->α->List α) (N:Nat) (ZG:Y40->Option (ZB)) (v:Y40):Option (ZB):=oJ mk (FU (je mk N ZG) N) ZG v
theorem QQm (mk:(α:Type)->Nat->α->List α) (N:Nat) (s0:St->Option (ZB)) (v):(Yg (QJ9 mk) QL2 6 N Tryz.f200 [Z9] [true] [] 0 Wx) s0 (QBS v)=gH mk N (fun v=>s0 (QBS v)) v:=Eq.trans (b:=oJ mk (fun v=>Ns (Yg (QJ9 mk) QL2 6 N Tryz.f200 [Z9] [true] [] 1 Wx) N (QFG v)) (fun v=>s0 (QBS v)) v) (by kernel_rfl) (by rw [funext (SN QFG (QQn mk N s0) N)];rfl)
def QB7 (mk:(α:Type)->Nat->α->List α) (ZJ:Y40->Option (ZB)) (x:yD):Option (ZB):=
 (ZJ (x,(0:Int),x,(List.length x:Int),(0:Int)))
def QB0 (mk:(α:Type)->Nat->α->List α) (N:Nat) (x:yD):Option (ZB):=QB7 mk (FU (gH mk N) N) x
theorem QZc (mk:(α:Type)->Nat->α->List α) (N:Nat) (x:yD):rise (QJ9 mk) QL2 6 N Tryz.f200 [(.slice Z9)] [Z9] [true] x=QB0 mk N x:=Eq.trans (b:=QB7 mk (fun v=>Ns (Yg (QJ9 mk) QL2 6 N Tryz.f200 [Z9] [true] [] 0 Wx) N (QBS v)) x) (by kernel_rfl) (by rw [funext (SN QBS (QQm mk N) N)];rfl)
def kE (x:yD):Option (ZB):=QB0 (fun _=>List.replicate) big x
def QPU:UA:=⟨[(.slice Z9)],[Z9],[true],fun x=>kE x⟩
theorem QUG:GV Tryz.prog 200 QPU:=rz (E:=QJ9 (fun _=>List.replicate)) ⟨ZK,Xq,fun _ _ _=>rfl,mixed,X8,YF,YE⟩ Tryz.func200 fun _ _ h=>(QZc (fun _=>List.replicate) big _).trans h
def QQ7:LT:={ live:=[(3,[0,3,4])],keep:=[] }
noncomputable def QMH:Aj:={ tab:=tab,fs:=[(200,QPU)],inl:=[] }
noncomputable def QFH (v:Int×Int×ZB):St:={ s:=[(0,(.val ⟨Z15,v.1⟩)),(3,(.loc 0 [])),(4,(.val ⟨Z2,v.2.1⟩))],l:=[(0,.var (.arr 10 fI) (.val ⟨(.arr 10 fI),v.2.2⟩))],k:=[],b:=4096 }
def QAR (ZG:Int×Int×ZB->Option (ZB)) (v:Int×Int×ZB):Option (ZB):=
 (bif (decide (v.1≥(128:Int))) then (let x1:Int:=(bits .or .u8 (IntKind.u8.wrap v.1) (128:Int));(bif (decide (0<=v.2.1)&&decide (v.2.1 < (10:Int))) then (let x2:ZB:=(List.set v.2.2 (Int.toNat v.2.1) x1);(let x3:Int:=(IntKind.i64.wrap (v.2.1+(1:Int)));(ZG ((v.1.fdiv (2 ^ 7)),x3,x2)))) else none)) else (bif (decide (0<=v.2.1)&&decide (v.2.1 < (10:Int))) then (let x4:ZB:=(List.set v.2.2 (Int.toNat v.2.1) (IntKind.u8.wrap v.1));(let x5:Int:=(IntKind.i64.wrap (v.2.1+(1:Int)));(bif (decide (0<=x5)&&decide (x5<=(List.length x4:Int))) then (let x6:ZB:=(List.take (Int.toNat x5) x4);(let x7:yD:=([x6]:yD);((kE x7).bind fun x8=>(some x8)))) else none))) else none))
def rO (N:Nat) (ZG:Int×Int×ZB->Option (ZB)) (v:Int×Int×ZB):Option (ZB):=QAR ZG v
theorem QQo (N:Nat) (s0:St->Option (ZB)) (v):(Yg (QMH) QQ7 6 N Tryz.f199 [Z9] [true] [] 0 Wx) s0 (QFH v)=rO N (fun v=>s0 (QFH v)) v:=by kernel_rfl
def QDZ (ZJ:Int×Int×ZB->Option (ZB)) (x:Int):Option (ZB):=
 (ZJ (x,(0:Int),(List.replicate 10 (0:Int))))
def QDW (N:Nat) (x:Int):Option (ZB):=QDZ (FU (rO N) N) x
theorem QZd (N:Nat) (x:Int):rise (QMH) QQ7 6 N Tryz.f199 [Z15] [Z9] [true] x=QDW N x:=Eq.trans (b:=QDZ (fun v=>Ns (Yg (QMH) QQ7 6 N Tryz.f199 [Z9] [true] [] 0 Wx) N (QFH v)) x) (by kernel_rfl) (by rw [funext (SN QFH (QQo N) N)];rfl)
def dH (x:Int):Option (ZB):=QDW big x
def QJE:UA:=⟨[Z15],[Z9],[true],fun x=>dH x⟩
theorem QKW:GV Tryz.prog 199 QJE:=rz (E:=QMH) ⟨ZK,(XT QUG Xq),fun _ _ _=>rfl,mixed,X8,YF,YE⟩ Tryz.func199 fun _ _ h=>(QZd big _).trans h
def QUz:LT:={ live:=[],keep:=[] }
noncomputable def QSN:Aj:={ tab:=tab,fs:=[(199,QJE)],inl:=[] }
def fG (x:ZB) (y:Y18):Option (ZB):=
 ((dH (IntKind.u64.wrap y.1)).bind fun x1=>(bif (Nat.ble 1 1&&Nat.ble (List.length x+List.length x1) lim) then (some (List.append x x1)) else none))
def zU (N:Nat) (x:ZB) (y:Y18):Option (ZB):=fG x y
theorem QZe (N:Nat) (x:ZB) (y:Y18):VD (QSN) QUz 6 N Tryz.f180 fI [.hole Z2] x y=fG x y:=by kernel_rfl
def ZM (x:ZB) (y:Y18):Option (ZB):=zU big x y
@[reducible] def QJH:K7:=⟨fI,[.hole Z2],fun x y=>ZM x y⟩
theorem QMR:LP Tryz.prog 180 QJH:=YD (c:=QJH) (E:=QSN) ⟨ZK,(XT QKW Xq),fun _ _ _=>rfl,mixed,X8,YF,YE⟩ Tryz.func180 rfl (by decide) (by kernel_rfl) (by kernel_rfl) (fun x y z h=>⟨QUz,6,big,(QZe big x y).trans h⟩)
def QYJ:LT:={ live:=[],keep:=[] }
noncomputable def QSO:Aj:={ tab:=tab,fs:=[(199,QJE),(200,QPU)],inl:=[] }
def QAA (x:ZB):Option lD:=
 (bif (decide ((List.length x:Int) > (200000:Int))) then (some (([]:List Int),(4:Int))) else (let x1:Int:=(IntKind.u64.wrap (List.length x:Int));((dH x1).bind fun x2=>(let x3:yD:=([x2,x]:yD);((kE x3).bind fun x4=>(some (x4,(0:Int))))))))
def QDV (N:Nat) (x:ZB):Option lD:=QAA x
theorem QZf (N:Nat) (x:ZB):rise (QSO) QYJ 6 N Tryz.f183 [.str] [Z9,Z2] [true,false] x=QAA x:=by kernel_rfl
def xA (x:ZB):Option lD:=QDV big x
def QTG:UA:=⟨[.str],[Z9,Z2],[true,false],fun x=>xA x⟩
theorem QXW:GV Tryz.prog 183 QTG:=rz (E:=QSO) ⟨ZK,(XT QKW (XT QUG Xq)),fun _ _ _=>rfl,mixed,X8,YF,YE⟩ Tryz.func183 fun _ _ h=>(QZf big _).trans h
def QV1:LT:={ live:=[],keep:=[] }
noncomputable def QSP:Aj:={ tab:=tab,fs:=[(183,QTG)],inl:=[] }
def jP (x:ZB) (y:(ZB×Unit)):Option (ZB):=
 ((xA y.1).bind fun x1=>(bif (Nat.ble 1 1&&Nat.ble (List.length x+List.length x1.1) lim) then (some (List.append x x1.1)) else none))
def QAf (N:Nat) (x:ZB) (y:(ZB×Unit)):Option (ZB):=jP x y
theorem QZg (N:Nat) (x:ZB) (y:(ZB×Unit)):VD (QSP) QV1 6 N Tryz.f154 fI [.hole .str] x y=jP x y:=by kernel_rfl
def dX (x:ZB) (y:(ZB×Unit)):Option (ZB):=QAf big x y
@[reducible] def QKZ:K7:=⟨fI,[.hole .str],fun x y=>dX x y⟩
theorem QPd:LP Tryz.prog 154 QKZ:=YD (c:=QKZ) (E:=QSP) ⟨ZK,(XT QXW Xq),fun _ _ _=>rfl,mixed,X8,YF,YE⟩ Tryz.func154 rfl (by decide) (by kernel_rfl) (by kernel_rfl) (fun x y z h=>⟨QV1,6,big,(QZg big x y).trans h⟩)
def QV2:LT:={ live:=[],keep:=[] }
noncomputable def QSQ:Aj:={ tab:=tab,fs:=[],inl:=[],ow:=[(154,QKZ),(180,QJH)] }
def iE (x:ZB) (y:((ZB×Y18)×Unit)):Option (ZB):=
 ((dX x (y.1.1,())).bind fun x1=>((ZM x1 (y.1.2.1,())).bind fun x2=>(some x2)))
def QA8 (N:Nat) (x:ZB) (y:((ZB×Y18)×Unit)):Option (ZB):=iE x y
theorem QZh (N:Nat) (x:ZB) (y:((ZB×Y18)×Unit)):VD (QSQ) QV2 6 N Tryz.f182 fI [.hole Z19] x y=iE x y:=by kernel_rfl
def gY (x:ZB) (y:((ZB×Y18)×Unit)):Option (ZB):=QA8 big x y
@[reducible] def QMU:K7:=⟨fI,[.hole Z19],fun x y=>gY x y⟩
theorem QUH:LP Tryz.prog 182 QMU:=YD (c:=QMU) (E:=QSQ) ⟨ZK,Xq,fun _ _ _=>rfl,mixed,X8,YF,(Xh QPd (Xh QMR YE))⟩ Tryz.func182 rfl (by decide) (by kernel_rfl) (by kernel_rfl) (fun x y z h=>⟨QV2,6,big,(QZh big x y).trans h⟩)
def QMV:LT:={ live:=[],keep:=[(34,[])] }
noncomputable def QMI:Aj:={ tab:=tab,fs:=[],inl:=[(181,Tryz.f181,QV0)],ow:=[(180,QJH),(182,QMU)] }
noncomputable def QFI (v:Y63):St:={ s:=[(0,(.row 0)),(2,(.Dn 182 .unit)),(13,(.val ⟨Z7,v.1⟩)),(14,(.val ⟨Z2,v.2.1⟩)),(15,(.val ⟨Z2,v.2.2.1⟩))],l:=[(0,.row fI v.2.2.2)],k:=[(4096,[])],b:=16920576 }
def ko (ZG:Y63->Option (ZB)) (v:Y63):Option (ZB):=
 (bif (decide (v.2.2.1 < v.2.1)) then ((Mh v.1 v.2.2.1).bind fun x6=>((gY v.2.2.2 (x6,())).bind fun x7=>(let x8:Int:=(IntKind.i64.wrap (v.2.2.1+(1:Int)));(ZG (v.1,v.2.1,x8,x7))))) else (some v.2.2.2))
def Zq (N:Nat) (ZG:Y63->Option (ZB)) (v:Y63):Option (ZB):=ko ZG v
theorem QQp (N:Nat) (s0:St->Option (ZB)) (v):(YK (QMI) QMV 6 N Tryz.f152 fI [.call 10 3 181] 0 Wx) s0 (QFI v)=Zq N (fun v=>s0 (QFI v)) v:=by kernel_rfl
def jQ (ZJ:Y63->Option (ZB)) (x:ZB) (y:(ZC×Unit)):Option (ZB):=
 (bif (Nat.ble 1 1&&Nat.ble (List.length x+List.length ([y.1.1]:ZB)) lim) then (let x1:ZB:=(List.append x ([y.1.1]:ZB));(bif (y.1.1==(4:Int)) then (bif (y.1.1==(4:Int)) then ((ZM x1 (y.1.2.1,())).bind fun x2=>(some x2)) else (bif (y.1.1==(6:Int)) then ((ZM x1 (y.1.2.1,())).bind fun x3=>((ZM x3 (y.1.2.2.1,())).bind fun x4=>(some x4))) else (bif (y.1.1==(5:Int)) then ((ZM x1 ((List.length y.1.2.2.2.1:Int),())).bind fun x5=>(ZJ (y.1.2.2.2.1,(List.length y.1.2.2.2.1:Int),(0:Int),x5))) else (some x1)))) else (bif (y.1.1==(7:Int)) then ((ZM x1 (y.1.2.1,())).bind fun x9=>(some x9)) else (bif (y.1.1==(6:Int)) then ((ZM x1 (y.1.2.1,())).bind fun fH=>((ZM fH (y.1.2.2.1,())).bind fun mX=>(some mX))) else (bif (y.1.1==(5:Int)) then ((ZM x1 ((List.length y.1.2.2.2.1:Int),())).bind fun mh=>(ZJ (y.1.2.2.2.1,(List.length y.1.2.2.2.1:Int),(0:Int),mh))) else (some x1)))))) else none)
def uY (N:Nat) (x:ZB) (y:(ZC×Unit)):Option (ZB):=jQ (FU (Zq N) N) x y
theorem QZi (N:Nat) (x:ZB) (y:(ZC×Unit)):VD (QMI) QMV 6 N Tryz.f152 fI [.hole Z4] x y=uY N x y:=Eq.trans (b:=jQ (fun v=>Ns (YK (QMI) QMV 6 N Tryz.f152 fI [.call 10 3 181] 0 Wx) N (QFI v)) x y) (by kernel_rfl) (by rw [funext (SN QFI (QQp N) N)];rfl)
def nE (x:ZB) (y:(ZC×Unit)):Option (ZB):=uY big x y
@[reducible] def QPe:K7:=⟨fI,[.hole Z4],fun x y=>nE x y⟩
theorem QXX:LP Tryz.prog 152 QPe:=YD (c:=QPe) (E:=QMI) ⟨ZK,Xq,fun _ _ _=>rfl,mixed,(Xe (Xd Tryz.func181 rfl rfl (by kernel_rfl)) X8),YF,(Xh QMR (Xh QUH YE))⟩ Tryz.func152 rfl (by decide) (by kernel_rfl) (by kernel_rfl) (fun x y z h=>⟨QMV,6,big,(QZi big x y).trans h⟩)
def QYM:LT:={ live:=[],keep:=[] }
noncomputable def QSR:Aj:={ tab:=tab,fs:=[(199,QJE)],inl:=[] }
def xL (x:Int):Option (ZB):=
 (bif (decide (x < (0:Int))) then (let x1:Int:=(bits .xor .i64 (if IntKind.signed .i64 then -1 else IntKind.max .i64) x);(let x2:Int:=(IntKind.u64.wrap ((IntKind.u64.wrap x1) * 2 ^ 1));(let x3:Int:=(bits .or .u64 x2 (1:Int));((dH x3).bind fun x4=>(some x4))))) else (let x5:Int:=(IntKind.u64.wrap ((IntKind.u64.wrap x) * 2 ^ 1));((dH x5).bind fun x6=>(some x6))))
def QAz (N:Nat) (x:Int):Option (ZB):=xL x
theorem QZj (N:Nat) (x:Int):rise (QSR) QYM 6 N Tryz.f184 [Z2] [Z9] [true] x=xL x:=by kernel_rfl
def nM (x:Int):Option (ZB):=QAz big x
def QPV:UA:=⟨[Z2],[Z9],[true],fun x=>nM x⟩
theorem QUI:GV Tryz.prog 184 QPV:=rz (E:=QSR) ⟨ZK,(XT QKW Xq),fun _ _ _=>rfl,mixed,X8,YF,YE⟩ Tryz.func184 fun _ _ h=>(QZj big _).trans h
def QYO:LT:={ live:=[],keep:=[] }
noncomputable def QSS:Aj:={ tab:=tab,fs:=[],inl:=[] }
def vX (x:Int):Option (Bool):=
 (bif (x==(5:Int)) then (some true) else (bif (x==(3:Int)) then (some true) else (some (x==(4:Int)))))
def zh (N:Nat) (x:Int):Option (Bool):=vX x
theorem QZk (N:Nat) (x:Int):rise (QSS) QYO 6 N Tryz.f214 [fI] [.bool] [false] x=vX x:=by kernel_rfl
def pW (x:Int):Option (Bool):=zh big x
def QTH:UA:=⟨[fI],[.bool],[false],fun x=>pW x⟩
theorem QXY:GV Tryz.prog 214 QTH:=rz (E:=QSS) ⟨ZK,Xq,fun _ _ _=>rfl,mixed,X8,YF,YE⟩ Tryz.func214 fun _ _ h=>(QZk big _).trans h
def QQ8:LT:={ live:=[],keep:=[(16,[5])] }
noncomputable def QMJ:Aj:={ tab:=tab,fs:=[(98,QKM),(140,QMP),(184,QPV),(199,QJE),(214,QTH)],inl:=[(99,Tryz.f99,QV4),(213,Tryz.f213,QYP)] }
noncomputable def QFJ (v:Y68):St:={ s:=[(1,(.Dn 213 (.pair (.loc 0 []) .unit))),(4,(.loc 2 [])),(13,(.val ⟨(.arr 3 fI),v.1⟩)),(14,(.val ⟨Z2,v.2.1⟩))],l:=[(0,.var Z9 (.row 1)),(1,.row fI v.2.2.1),(2,.var Z18 (.val ⟨Z18,v.2.2.2⟩))],k:=[(4096,[(5,(.loc 0 []))])],b:=16846848 }
def vQ (ZG:Y68->Option lD) (v:Y68):Option lD:=
 (bif (decide (v.2.1 < (3:Int))) then ((Mh v.1 v.2.1).bind fun x4=>(bif (x4 != (0:Int)) then (bif (decide (0<=v.2.1)&&decide (v.2.1 < (3:Int))) then ((nth v.2.2.2 (Int.toNat v.2.1)).bind fun x5=>((pW x4).bind fun x6=>(bif x6 then ((nM x5).bind fun x7=>(bif (Nat.ble 1 1&&Nat.ble (List.length v.2.2.1+List.length x7) lim) then (let x8:Int:=(IntKind.i64.wrap (v.2.1+(1:Int)));(ZG (v.1,x8,(List.append v.2.2.1 x7),v.2.2.2))) else none)) else ((dH (IntKind.u64.wrap x5)).bind fun x9=>(bif (Nat.ble 1 1&&Nat.ble (List.length v.2.2.1+List.length x9) lim) then (let fH:Int:=(IntKind.i64.wrap (v.2.1+(1:Int)));(ZG (v.1,fH,(List.append v.2.2.1 x9),v.2.2.2))) else none))))) else none) else (let mX:Int:=(IntKind.i64.wrap (v.2.1+(1:Int)));(ZG (v.1,mX,v.2.2.1,v.2.2.2))))) else (some (v.2.2.1,(0:Int))))
def p8 (N:Nat) (ZG:Y68->Option lD) (v:Y68):Option lD:=vQ ZG v
theorem QQq (N:Nat) (s0:St->Option lD) (v):(Yg (QMJ) QQ8 6 N Tryz.f201 [Z9,Z2] [true,false] [.call 5 2 99] 0 Wx) s0 (QFJ v)=p8 N (fun v=>s0 (QFJ v)) v:=by kernel_rfl
def uq (ZJ:Y68->Option lD) (x:ZE):Option lD:=
 ((pF x).bind fun x1=>(bif (x1 != (0:Int)) then (some (([]:List Int),x1)) else ((lF x).bind fun x2=>((Mh Yh x.1).bind fun x3=>(ZJ (x3.2.1,(0:Int),([x.1]:ZB),x2))))))
def QBw (N:Nat) (x:ZE):Option lD:=uq (FU (p8 N) N) x
theorem QZl (N:Nat) (x:ZE):rise (QMJ) QQ8 6 N Tryz.f201 [Z3] [Z9,Z2] [true,false] x=QBw N x:=Eq.trans (b:=uq (fun v=>Ns (Yg (QMJ) QQ8 6 N Tryz.f201 [Z9,Z2] [true,false] [.call 5 2 99] 0 Wx) N (QFJ v)) x) (by kernel_rfl) (by rw [funext (SN QFJ (QQq N) N)];rfl)
def yH (x:ZE):Option lD:=QBw big x
def QTI:UA:=⟨[Z3],[Z9,Z2],[true,false],fun x=>yH x⟩
theorem QXZ:GV Tryz.prog 201 QTI:=rz (E:=QMJ) ⟨ZK,(XT QMQ (XT QPc (XT QUI (XT QKW (XT QXY Xq))))),fun _ _ _=>rfl,mixed,(Xe (Xd Tryz.func99 rfl rfl (by kernel_rfl)) (Xe (Xd Tryz.func213 rfl rfl (by kernel_rfl)) X8)),YF,YE⟩ Tryz.func201 fun _ _ h=>(QZl big _).trans h
def QV5:LT:={ live:=[],keep:=[] }
noncomputable def QST:Aj:={ tab:=tab,fs:=[(201,QTI)],inl:=[] }
def iG (x:ZB) (y:(ZE×Unit)):Option (ZB):=
 ((yH y.1).bind fun x1=>(bif (Nat.ble 1 1&&Nat.ble (List.length x+List.length x1.1) lim) then (some (List.append x x1.1)) else none))
def QA9 (N:Nat) (x:ZB) (y:(ZE×Unit)):Option (ZB):=iG x y
theorem QZm (N:Nat) (x:ZB) (y:(ZE×Unit)):VD (QST) QV5 6 N Tryz.f186 fI [.hole Z3] x y=iG x y:=by kernel_rfl
def mJ (x:ZB) (y:(ZE×Unit)):Option (ZB):=QA9 big x y
@[reducible] def QPf:K7:=⟨fI,[.hole Z3],fun x y=>mJ x y⟩
theorem QXa:LP Tryz.prog 186 QPf:=YD (c:=QPf) (E:=QST) ⟨ZK,(XT QXZ Xq),fun _ _ _=>rfl,mixed,X8,YF,YE⟩ Tryz.func186 rfl (by decide) (by kernel_rfl) (by kernel_rfl) (fun x y z h=>⟨QV5,6,big,(QZm big x y).trans h⟩)
def QQ9:LT:={ live:=[(7,[7,8,21,22,23])],keep:=[] }
noncomputable def QMK:Aj:={ tab:=tab,fs:=[(197,QPT),(199,QJE)],inl:=[] }
noncomputable def QFK (v:Y46):St:={ s:=[(7,(.row 0)),(8,(.val ⟨Z2,v.1⟩)),(21,(.val ⟨Z5,v.2.1⟩)),(22,(.val ⟨Z2,v.2.2.1⟩)),(23,(.val ⟨Z2,v.2.2.2.1⟩))],l:=[(0,.row fI v.2.2.2.2)],k:=[],b:=4096 }
def gP (ZG:Y46->Option lD) (v:Y46):Option lD:=
 (bif (decide (v.2.2.2.1 < v.2.2.1)) then ((Mh v.2.1 v.2.2.2.1).bind fun x4=>(let x5:Int:=(IntKind.i64.wrap (x4.1 - v.1));((dH (IntKind.u64.wrap x5)).bind fun x6=>(bif (Nat.ble 1 1&&Nat.ble (List.length v.2.2.2.2+List.length x6) lim) then (let x7:ZB:=(List.append v.2.2.2.2 x6);((dH x4.2.1).bind fun x8=>(bif (Nat.ble 1 1&&Nat.ble (List.length x7+List.length x8) lim) then (let x9:Int:=(IntKind.i64.wrap (v.2.2.2.1+(1:Int)));(ZG (x4.1,v.2.1,v.2.2.1,x9,(List.append x7 x8)))) else none))) else none)))) else (some (v.2.2.2.2,(0:Int))))
def kL (N:Nat) (ZG:Y46->Option lD) (v:Y46):Option lD:=gP ZG v
theorem QQr (N:Nat) (s0:St->Option lD) (v):(Yg (QMK) QQ9 6 N Tryz.f202 [Z9,Z2] [true,false] [] 0 Wx) s0 (QFK v)=kL N (fun v=>s0 (QFK v)) v:=by kernel_rfl
def om (ZJ:Y46->Option lD) (x:ZF×Int):Option lD:=
 ((eF (x.1,x.2)).bind fun x1=>(bif (x1 != (0:Int)) then (some (([]:List Int),x1)) else (let x2:Int:=(IntKind.u64.wrap (List.length x.1:Int));((dH x2).bind fun x3=>(ZJ ((0:Int),x.1,(List.length x.1:Int),(0:Int),x3))))))
def yT (N:Nat) (x:ZF×Int):Option lD:=om (FU (kL N) N) x
theorem QZn (N:Nat) (x:ZF×Int):rise (QMK) QQ9 6 N Tryz.f202 [Z5,Z2] [Z9,Z2] [true,false] x=yT N x:=Eq.trans (b:=om (fun v=>Ns (Yg (QMK) QQ9 6 N Tryz.f202 [Z9,Z2] [true,false] [] 0 Wx) N (QFK v)) x) (by kernel_rfl) (by rw [funext (SN QFK (QQr N) N)];rfl)
def tJ (x:ZF×Int):Option lD:=yT big x
def QTJ:UA:=⟨[Z5,Z2],[Z9,Z2],[true,false],fun x=>tJ x⟩
theorem QXb:GV Tryz.prog 202 QTJ:=rz (E:=QMK) ⟨ZK,(XT QUF (XT QKW Xq)),fun _ _ _=>rfl,mixed,X8,YF,YE⟩ Tryz.func202 fun _ _ h=>(QZn big _).trans h
def QV6:LT:={ live:=[],keep:=[] }
noncomputable def QSU:Aj:={ tab:=tab,fs:=[(202,QTJ)],inl:=[] }
def jO (x:ZB) (y:(ZF×Y18)):Option (ZB):=
 ((tJ (y.1,y.2.1)).bind fun x1=>(bif (Nat.ble 1 1&&Nat.ble (List.length x+List.length x1.1) lim) then (some (List.append x x1.1)) else none))
def QAe (N:Nat) (x:ZB) (y:(ZF×Y18)):Option (ZB):=jO x y
theorem QZo (N:Nat) (x:ZB) (y:(ZF×Y18)):VD (QSU) QV6 6 N Tryz.f187 fI [.hole Z5,.hole Z2] x y=jO x y:=by kernel_rfl
def jE (x:ZB) (y:(ZF×Y18)):Option (ZB):=QAe big x y
@[reducible] def QPg:K7:=⟨fI,[.hole Z5,.hole Z2],fun x y=>jE x y⟩
theorem QXc:LP Tryz.prog 187 QPg:=YD (c:=QPg) (E:=QSU) ⟨ZK,(XT QXb Xq),fun _ _ _=>rfl,mixed,X8,YF,YE⟩ Tryz.func187 rfl (by decide) (by kernel_rfl) (by kernel_rfl) (fun x y z h=>⟨QV6,6,big,(QZo big x y).trans h⟩)
def QJK:LT:={ live:=[],keep:=[(21,[3]),(25,[3])] }
noncomputable def QJA:Aj:={ tab:=tab,fs:=[(184,QPV)],inl:=[(181,Tryz.f181,QV0),(185,Tryz.f185,QYN)],ow:=[(154,QKZ),(180,QJH),(182,QMU),(186,QPf),(187,QPg)] }
noncomputable def QFL (v:Y56):St:={ s:=[(0,(.row 0)),(2,(.Dn 186 .unit)),(13,(.val ⟨mP,v.1⟩)),(14,(.val ⟨Z2,v.2.1⟩)),(15,(.val ⟨Z2,v.2.2.1⟩))],l:=[(0,.row fI v.2.2.2.1),(1,.var Z0 (.val ⟨Z0,v.2.2.2.2⟩))],k:=[(4096,[(3,(.loc 1 []))])],b:=16883712 }
noncomputable def QBT (v:Y57):St:={ s:=[(0,(.row 0)),(2,(.Dn 182 .unit)),(13,(.val ⟨Z7,v.1⟩)),(14,(.val ⟨Z2,v.2.1⟩)),(15,(.val ⟨Z2,v.2.2.1⟩))],l:=[(0,.row fI v.2.2.2.1),(1,.var Z0 (.val ⟨Z0,v.2.2.2.2⟩))],k:=[(4096,[(3,(.loc 1 []))])],b:=16867328 }
def kg (ZG:Y57->Option (ZB)) (ZH:Y56->Option (ZB)) (v:Y56):Option (ZB):=
 (bif (decide (v.2.2.1 < v.2.1)) then ((Mh v.1 v.2.2.1).bind fun x9=>((mJ v.2.2.2.1 (x9,())).bind fun fH=>(let mX:Int:=(IntKind.i64.wrap (v.2.2.1+(1:Int)));(ZH (v.1,v.2.1,mX,fH,v.2.2.2.2))))) else ((jE v.2.2.2.1 (v.2.2.2.2.2.2.2.2.2.1,((List.length v.2.2.2.2.2.2.2.2.1:Int),()))).bind fun mh=>((jE mh (v.2.2.2.2.2.2.2.2.2.2.1,((List.length v.2.2.2.2.2.2.2.2.1:Int),()))).bind fun qV=>(some qV))))
def aQ (N:Nat) (ZG:Y57->Option (ZB)) (ZH:Y56->Option (ZB)) (v:Y56):Option (ZB):=kg ZG ZH v
theorem QQt (N:Nat) (s0:St->Option (ZB)) (s1:St->Option (ZB)) (v):(YK (QJA) QJK 6 N Tryz.f156 fI [.call 5 3 185] 0 Wx) s1 (QFL v)=aQ N (fun v=>s0 (QBT v)) (fun v=>s1 (QFL v)) v:=by kernel_rfl
def eZ (Zv:Y56->Option (ZB)) (ZG:Y57->Option (ZB)) (v:Y57):Option (ZB):=
 (bif (decide (v.2.2.1 < v.2.1)) then ((Mh v.1 v.2.2.1).bind fun x5=>((gY v.2.2.2.1 (x5,())).bind fun x6=>(let x7:Int:=(IntKind.i64.wrap (v.2.2.1+(1:Int)));(ZG (v.1,v.2.1,x7,x6,v.2.2.2.2))))) else ((ZM v.2.2.2.1 ((List.length v.2.2.2.2.2.2.2.2.1:Int),())).bind fun x8=>(Zv (v.2.2.2.2.2.2.2.2.1,(List.length v.2.2.2.2.2.2.2.2.1:Int),(0:Int),x8,v.2.2.2.2))))
def aP (N:Nat) (ZG:Y57->Option (ZB)) (v:Y57):Option (ZB):=eZ (FU (aQ N ZG) N) ZG v
theorem QQs (N:Nat) (s0:St->Option (ZB)) (v):(YK (QJA) QJK 6 N Tryz.f156 fI [.call 4 3 181] 0 Wx) s0 (QBT v)=aP N (fun v=>s0 (QBT v)) v:=Eq.trans (b:=eZ (fun v=>Ns (YK (QJA) QJK 6 N Tryz.f156 fI [.call 5 3 185] 0 Wx) N (QFL v)) (fun v=>s0 (QBT v)) v) (by kernel_rfl) (by rw [funext (SN QFL (QQt N s0) N)];rfl)
def jN (ZJ:Y57->Option (ZB)) (x:ZB) (y:(Tg×Unit)):Option (ZB):=
 ((dX x (y.1.1,())).bind fun x1=>((ZM x1 (y.1.2.1,())).bind fun x2=>((nM y.1.2.2.1).bind fun x3=>(bif (Nat.ble 1 1&&Nat.ble (List.length x2+List.length x3) lim) then ((ZM (List.append x2 x3) ((List.length y.1.2.2.2.1:Int),())).bind fun x4=>(ZJ (y.1.2.2.2.1,(List.length y.1.2.2.2.1:Int),(0:Int),x4,y.1))) else none))))
def uX (N:Nat) (x:ZB) (y:(Tg×Unit)):Option (ZB):=jN (FU (aP N) N) x y
theorem QZp (N:Nat) (x:ZB) (y:(Tg×Unit)):VD (QJA) QJK 6 N Tryz.f156 fI [.hole Z0] x y=uX N x y:=Eq.trans (b:=jN (fun v=>Ns (YK (QJA) QJK 6 N Tryz.f156 fI [.call 4 3 181] 0 Wx) N (QBT v)) x y) (by kernel_rfl) (by rw [funext (SN QBT (QQs N) N)];rfl)
def nD (x:ZB) (y:(Tg×Unit)):Option (ZB):=uX big x y
@[reducible] def QPh:K7:=⟨fI,[.hole Z0],fun x y=>nD x y⟩
theorem QXd:LP Tryz.prog 156 QPh:=YD (c:=QPh) (E:=QJA) ⟨ZK,(XT QUI Xq),fun _ _ _=>rfl,mixed,(Xe (Xd Tryz.func181 rfl rfl (by kernel_rfl)) (Xe (Xd Tryz.func185 rfl rfl (by kernel_rfl)) X8)),YF,(Xh QPd (Xh QMR (Xh QUH (Xh QXa (Xh QXc YE)))))⟩ Tryz.func156 rfl (by decide) (by kernel_rfl) (by kernel_rfl) (fun x y z h=>⟨QJK,6,big,(QZp big x y).trans h⟩)
def QG3:LT:={ live:=[],keep:=[(8,[3]),(12,[3]),(16,[])] }
noncomputable def QFv:Aj:={ tab:=tab,fs:=[],inl:=[(151,Tryz.f151,QYI),(153,Tryz.f153,QYK),(155,Tryz.f155,QYL)],ow:=[(152,QPe),(154,QKZ),(156,QPh),(180,QJH)] }
noncomputable def QFM (v:Y17×Int×Int×ZB):St:={ s:=[(0,(.row 0)),(2,(.Dn 156 .unit)),(13,(.val ⟨(.slice Z0),v.1⟩)),(14,(.val ⟨Z2,v.2.1⟩)),(15,(.val ⟨Z2,v.2.2.1⟩))],l:=[(0,.row fI v.2.2.2)],k:=[(4096,[])],b:=16846848 }
noncomputable def QBU (v:Y47):St:={ s:=[(0,(.row 0)),(2,(.Dn 154 .unit)),(13,(.val ⟨(.slice .str),v.1⟩)),(14,(.val ⟨Z2,v.2.1⟩)),(15,(.val ⟨Z2,v.2.2.1⟩))],l:=[(0,.row fI v.2.2.2.1),(1,.var Z1 (.val ⟨Z1,v.2.2.2.2⟩))],k:=[(4096,[(3,(.loc 1 []))])],b:=16830464 }
noncomputable def yN (v:Y58):St:={ s:=[(0,(.row 0)),(2,(.Dn 152 .unit)),(13,(.val ⟨sV,v.1⟩)),(14,(.val ⟨Z2,v.2.1⟩)),(15,(.val ⟨Z2,v.2.2.1⟩))],l:=[(0,.row fI v.2.2.2.1),(1,.var Z1 (.val ⟨Z1,v.2.2.2.2⟩))],k:=[(4096,[(3,(.loc 1 []))])],b:=16814080 }
def jk (ZG:Y58->Option (ZB)) (ZH:Y47->Option (ZB)) (Zo:Y17×Int×Int×ZB->Option (ZB)) (v:Y17×Int×Int×ZB):Option (ZB):=
 (bif (decide (v.2.2.1 < v.2.1)) then ((Mh v.1 v.2.2.1).bind fun fH=>((nD v.2.2.2 (fH,())).bind fun mX=>(let mh:Int:=(IntKind.i64.wrap (v.2.2.1+(1:Int)));(Zo (v.1,v.2.1,mh,mX))))) else (some v.2.2.2))
def aI (N:Nat) (ZG:Y58->Option (ZB)) (ZH:Y47->Option (ZB)) (Zo:Y17×Int×Int×ZB->Option (ZB)) (v:Y17×Int×Int×ZB):Option (ZB):=jk ZG ZH Zo v
theorem QQw (N:Nat) (s0:St->Option (ZB)) (s1:St->Option (ZB)) (s2:St->Option (ZB)) (v):(YK (QFv) QG3 6 N Tryz.f119 fI [.call 3 3 155] 0 Wx) s2 (QFM v)=aI N (fun v=>s0 (yN v)) (fun v=>s1 (QBU v)) (fun v=>s2 (QFM v)) v:=by kernel_rfl
def dh (yO:Y17×Int×Int×ZB->Option (ZB)) (ZG:Y58->Option (ZB)) (ZH:Y47->Option (ZB)) (v:Y47):Option (ZB):=
 (bif (decide (v.2.2.1 < v.2.1)) then ((Mh v.1 v.2.2.1).bind fun x6=>((dX v.2.2.2.1 (x6,())).bind fun x7=>(let x8:Int:=(IntKind.i64.wrap (v.2.2.1+(1:Int)));(ZH (v.1,v.2.1,x8,x7,v.2.2.2.2))))) else ((ZM v.2.2.2.1 ((List.length v.2.2.2.2.2.2.1:Int),())).bind fun x9=>(yO (v.2.2.2.2.2.2.1,(List.length v.2.2.2.2.2.2.1:Int),(0:Int),x9))))
def aH (N:Nat) (ZG:Y58->Option (ZB)) (ZH:Y47->Option (ZB)) (v:Y47):Option (ZB):=dh (FU (aI N ZG ZH) N) ZG ZH v
theorem QQv (N:Nat) (s0:St->Option (ZB)) (s1:St->Option (ZB)) (v):(YK (QFv) QG3 6 N Tryz.f119 fI [.call 2 3 153] 0 Wx) s1 (QBU v)=aH N (fun v=>s0 (yN v)) (fun v=>s1 (QBU v)) v:=Eq.trans (b:=dh (fun v=>Ns (YK (QFv) QG3 6 N Tryz.f119 fI [.call 3 3 155] 0 Wx) N (QFM v)) (fun v=>s0 (yN v)) (fun v=>s1 (QBU v)) v) (by kernel_rfl) (by rw [funext (SN QFM (QQw N s0 s1) N)];rfl)
def dZ (Zv:Y47->Option (ZB)) (ZG:Y58->Option (ZB)) (v:Y58):Option (ZB):=
 (bif (decide (v.2.2.1 < v.2.1)) then ((Mh v.1 v.2.2.1).bind fun x2=>((nE v.2.2.2.1 (x2,())).bind fun x3=>(let x4:Int:=(IntKind.i64.wrap (v.2.2.1+(1:Int)));(ZG (v.1,v.2.1,x4,x3,v.2.2.2.2))))) else ((ZM v.2.2.2.1 ((List.length v.2.2.2.2.2.1:Int),())).bind fun x5=>(Zv (v.2.2.2.2.2.1,(List.length v.2.2.2.2.2.1:Int),(0:Int),x5,v.2.2.2.2))))
def aG (N:Nat) (ZG:Y58->Option (ZB)) (v:Y58):Option (ZB):=dZ (FU (aH N ZG) N) ZG v
theorem QQu (N:Nat) (s0:St->Option (ZB)) (v):(YK (QFv) QG3 6 N Tryz.f119 fI [.call 1 3 151] 0 Wx) s0 (yN v)=aG N (fun v=>s0 (yN v)) v:=Eq.trans (b:=dZ (fun v=>Ns (YK (QFv) QG3 6 N Tryz.f119 fI [.call 2 3 153] 0 Wx) N (QBU v)) (fun v=>s0 (yN v)) v) (by kernel_rfl) (by rw [funext (SN QBU (QQv N s0) N)];rfl)
def iF (ZJ:Y58->Option (ZB)) (x:ZB) (y:(ZA×Unit)):Option (ZB):=
 ((ZM x ((List.length y.1.1:Int),())).bind fun x1=>(ZJ (y.1.1,(List.length y.1.1:Int),(0:Int),x1,y.1)))
def uE (N:Nat) (x:ZB) (y:(ZA×Unit)):Option (ZB):=iF (FU (aG N) N) x y
theorem QZq (N:Nat) (x:ZB) (y:(ZA×Unit)):VD (QFv) QG3 6 N Tryz.f119 fI [.hole Z1] x y=uE N x y:=Eq.trans (b:=iF (fun v=>Ns (YK (QFv) QG3 6 N Tryz.f119 fI [.call 1 3 151] 0 Wx) N (yN v)) x y) (by kernel_rfl) (by rw [funext (SN yN (QQu N) N)];rfl)
def mI (x:ZB) (y:(ZA×Unit)):Option (ZB):=uE big x y
@[reducible] def QPi:K7:=⟨fI,[.hole Z1],fun x y=>mI x y⟩
theorem QXe:LP Tryz.prog 119 QPi:=YD (c:=QPi) (E:=QFv) ⟨ZK,Xq,fun _ _ _=>rfl,mixed,(Xe (Xd Tryz.func151 rfl rfl (by kernel_rfl)) (Xe (Xd Tryz.func153 rfl rfl (by kernel_rfl)) (Xe (Xd Tryz.func155 rfl rfl (by kernel_rfl)) X8))),YF,(Xh QXX (Xh QPd (Xh QXd (Xh QMR YE))))⟩ Tryz.func119 rfl (by decide) (by kernel_rfl) (by kernel_rfl) (fun x y z h=>⟨QG3,6,big,(QZq big x y).trans h⟩)
def QYQ:LT:={ live:=[],keep:=[] }
noncomputable def QSV:Aj:={ tab:=tab,fs:=[(118,QTF)],inl:=[],ow:=[(119,QPi)] }
def qH (x:ZA):Option lD:=
 ((su x).bind fun x1=>(bif (!x1) then (some (([]:List Int),(8:Int))) else ((mI ([]:List Int) (x,())).bind fun x2=>(bif (decide ((List.length x2:Int) > (20000:Int))) then (some (([]:List Int),(4:Int))) else (some (x2,(0:Int)))))))
def QDw (N:Nat) (x:ZA):Option lD:=qH x
theorem QZr (N:Nat) (x:ZA):rise (QSV) QYQ 6 N Tryz.f77 [Z1] [Z9,Z2] [true,false] x=qH x:=by kernel_rfl
def vI (x:ZA):Option lD:=QDw big x
def QTK:UA:=⟨[Z1],[Z9,Z2],[true,false],fun x=>vI x⟩
theorem QXf:GV Tryz.prog 77 QTK:=rz (E:=QSV) ⟨ZK,(XT QXV Xq),fun _ _ _=>rfl,mixed,X8,YF,(Xh QXe YE)⟩ Tryz.func77 fun _ _ h=>(QZr big _).trans h
def QYR:LT:={ live:=[],keep:=[] }
noncomputable def QSW:Aj:={ tab:=tab,fs:=[(77,QTK)],inl:=[] }
def rW (x:ZA):Option (Int):=
 ((vI x).bind fun x1=>(some x1.2))
def QFc (N:Nat) (x:ZA):Option (Int):=rW x
theorem QZs (N:Nat) (x:ZA):rise (QSW) QYR 6 N Tryz.f42 [Z1] [Z2] [false] x=rW x:=by kernel_rfl
def rC (x:ZA):Option (Int):=QFc big x
def QPW:UA:=⟨[Z1],[Z2],[false],fun x=>rC x⟩
theorem QUJ:GV Tryz.prog 42 QPW:=rz (E:=QSW) ⟨ZK,(XT QXf Xq),fun _ _ _=>rfl,mixed,X8,YF,YE⟩ Tryz.func42 fun _ _ h=>(QZs big _).trans h
def QYS:LT:={ live:=[],keep:=[] }
noncomputable def QSX:Aj:={ tab:=tab,fs:=[(135,QPO)],inl:=[] }
def qL (x:Int):Option (Int×Int):=
 (bif (decide (x < (0:Int))) then (some ((0:Int),(2:Int))) else (bif (decide (x > (1073741824:Int))) then (some ((0:Int),(2:Int))) else ((fK (x,(8:Int))).bind fun x1=>(some (x1,(0:Int))))))
def QDy (N:Nat) (x:Int):Option (Int×Int):=qL x
theorem QZt (N:Nat) (x:Int):rise (QSX) QYS 6 N Tryz.f86 [Z2] [Z2,Z2] [false,false] x=qL x:=by kernel_rfl
def vL (x:Int):Option (Int×Int):=QDy big x
def QTL:UA:=⟨[Z2],[Z2,Z2],[false,false],fun x=>vL x⟩
theorem QXg:GV Tryz.prog 86 QTL:=rz (E:=QSX) ⟨ZK,(XT QUA Xq),fun _ _ _=>rfl,mixed,X8,YF,YE⟩ Tryz.func86 fun _ _ h=>(QZt big _).trans h
def QQA:LT:={ live:=[(3,[0,3,12,13])],keep:=[] }
noncomputable def QML (mk:(α:Type)->Nat->α->List α):Aj:={ tab:=tab,fs:=[(85,QPP),(86,QTL)],inl:=[],rep:=mk }
noncomputable def QFN (v:Y9×Int×Int×ZB):St:={ s:=[(0,(.val ⟨sV,v.1⟩)),(3,(.row 0)),(12,(.val ⟨Z2,v.2.1⟩)),(13,(.val ⟨Z2,v.2.2.1⟩))],l:=[(0,.row Z2 v.2.2.2)],k:=[],b:=4096 }
def iy (mk:(α:Type)->Nat->α->List α) (ZG:Y9×Int×Int×ZB->Option (ZB)) (v:Y9×Int×Int×ZB):Option (ZB):=
 (bif (decide (v.2.2.1 < v.2.1)) then ((rD (v.1,v.2.2.1)).bind fun x2=>((vL x2.1).bind fun x3=>(bif (decide (0<=v.2.2.1)&&decide (v.2.2.1 < (List.length v.2.2.2:Int))) then (let x4:ZB:=(List.set v.2.2.2 (Int.toNat v.2.2.1) x3.1);(let x5:Int:=(IntKind.i64.wrap (v.2.2.1+(1:Int)));(ZG (v.1,v.2.1,x5,x4)))) else none))) else (some v.2.2.2))
def Zx (mk:(α:Type)->Nat->α->List α) (N:Nat) (ZG:Y9×Int×Int×ZB->Option (ZB)) (v:Y9×Int×Int×ZB):Option (ZB):=iy mk ZG v
theorem QQx (mk:(α:Type)->Nat->α->List α) (N:Nat) (s0:St->Option (ZB)) (v):(Yg (QML mk) QQA 6 N Tryz.f45 [Z6] [false] [] 0 Wx) s0 (QFN v)=Zx mk N (fun v=>s0 (QFN v)) v:=by kernel_rfl
def fA (mk:(α:Type)->Nat->α->List α) (ZJ:Y9×Int×Int×ZB->Option (ZB)) (x:Y9):Option (ZB):=
 (bif (decide (0<=(List.length x:Int))&&(decide ((List.length x:Int)<=(List.length x:Int))&&(decide ((List.length x:Int)<=68719476736)&&true))) then (let x1:ZB:=(mk Int (Int.toNat (List.length x:Int)) (0:Int));(ZJ (x,(List.length x:Int),(0:Int),x1))) else none)
def q8 (mk:(α:Type)->Nat->α->List α) (N:Nat) (x:Y9):Option (ZB):=fA mk (FU (Zx mk N) N) x
theorem QZu (mk:(α:Type)->Nat->α->List α) (N:Nat) (x:Y9):rise (QML mk) QQA 6 N Tryz.f45 [sV] [Z6] [false] x=q8 mk N x:=Eq.trans (b:=fA mk (fun v=>Ns (Yg (QML mk) QQA 6 N Tryz.f45 [Z6] [false] [] 0 Wx) N (QFN v)) x) (by kernel_rfl) (by rw [funext (SN QFN (QQx mk N) N)];rfl)
def eU (x:Y9):Option (ZB):=q8 (fun _=>List.replicate) big x
def QPX:UA:=⟨[sV],[Z6],[false],fun x=>eU x⟩
theorem QUK:GV Tryz.prog 45 QPX:=rz (E:=QML (fun _=>List.replicate)) ⟨ZK,(XT QUB (XT QXg Xq)),fun _ _ _=>rfl,mixed,X8,YF,YE⟩ Tryz.func45 fun _ _ h=>(QZu (fun _=>List.replicate) big _).trans h
def QYT:LT:={ live:=[],keep:=[] }
noncomputable def QSY:Aj:={ tab:=tab,fs:=[],inl:=[] }
def vW (x:wL):Option (Bool):=
 (bif (decide (x.1≥(0:Int))) then (some (decide (x.1 < x.2))) else (some false))
def za (N:Nat) (x:wL):Option (Bool):=vW x
theorem QZv (N:Nat) (x:wL):rise (QSY) QYT 6 N Tryz.f157 [Z2,Z2] [.bool] [false] x=vW x:=by kernel_rfl
def iO (x:wL):Option (Bool):=za big x
def QPY:UA:=⟨[Z2,Z2],[.bool],[false],fun x=>iO x⟩
theorem QUL:GV Tryz.prog 157 QPY:=rz (E:=QSY) ⟨ZK,Xq,fun _ _ _=>rfl,mixed,X8,YF,YE⟩ Tryz.func157 fun _ _ h=>(QZv big _).trans h
def QYU:LT:={ live:=[],keep:=[] }
noncomputable def QSZ:Aj:={ tab:=tab,fs:=[(157,QPY)],inl:=[] }
def qy (x:ZE×Int):Option (Bool):=
 (bif (x.1.1==(22:Int)) then ((iO (x.1.2.1,x.2)).bind fun x1=>(some x1)) else (bif (x.1.1==(23:Int)) then ((iO (x.1.2.2.1,x.2)).bind fun x2=>(some x2)) else (some true)))
def xR (N:Nat) (x:ZE×Int):Option (Bool):=qy x
theorem QZw (N:Nat) (x:ZE×Int):rise (QSZ) QYU 6 N Tryz.f120 [Z3,Z2] [.bool] [false] x=qy x:=by kernel_rfl
def lT (x:ZE×Int):Option (Bool):=xR big x
def QTM:UA:=⟨[Z3,Z2],[.bool],[false],fun x=>lT x⟩
theorem QXh:GV Tryz.prog 120 QTM:=rz (E:=QSZ) ⟨ZK,(XT QUL Xq),fun _ _ _=>rfl,mixed,X8,YF,YE⟩ Tryz.func120 fun _ _ h=>(QZw big _).trans h
def QQB:LT:={ live:=[(4,[0,14,15,16])],keep:=[] }
noncomputable def QMM:Aj:={ tab:=tab,fs:=[(98,QKM),(120,QTM)],inl:=[] }
noncomputable def QFO (v:Y8×Y8×Int×Int):St:={ s:=[(0,(.val ⟨mP,v.1⟩)),(14,(.val ⟨mP,v.2.1⟩)),(15,(.val ⟨Z2,v.2.2.1⟩)),(16,(.val ⟨Z2,v.2.2.2⟩))],l:=[],k:=[],b:=4096 }
def iY (ZG:Y8×Y8×Int×Int->Option (Int)) (v:Y8×Y8×Int×Int):Option (Int):=
 (bif (decide (v.2.2.2 < v.2.2.1)) then ((Mh v.2.1 v.2.2.2).bind fun x1=>((pF x1).bind fun x2=>(bif (x2 != (0:Int)) then (some (8:Int)) else ((lT (x1,(List.length v.1:Int))).bind fun x3=>(bif (!x3) then (some (8:Int)) else (let x4:Int:=(IntKind.i64.wrap (v.2.2.2+(1:Int)));(ZG (v.1,v.2.1,v.2.2.1,x4)))))))) else (let x5:Int:=(IntKind.i64.wrap ((List.length v.1:Int) - (1:Int)));((Mh v.1 x5).bind fun x6=>(bif (x6.1 != (34:Int)) then (some (8:Int)) else (bif (x6.2.1 != (-1:Int)) then (some (8:Int)) else (some (0:Int)))))))
def pq (N:Nat) (ZG:Y8×Y8×Int×Int->Option (Int)) (v:Y8×Y8×Int×Int):Option (Int):=iY ZG v
theorem QQy (N:Nat) (s0:St->Option (Int)) (v):(Yg (QMM) QQB 6 N Tryz.f78 [Z2] [false] [] 0 Wx) s0 (QFO v)=pq N (fun v=>s0 (QFO v)) v:=by kernel_rfl
def ug (ZJ:Y8×Y8×Int×Int->Option (Int)) (x:Y8):Option (Int):=
 (bif ((List.length x:Int)==(0:Int)) then (some (8:Int)) else (bif (decide ((List.length x:Int) > (200:Int))) then (some (8:Int)) else (ZJ (x,x,(List.length x:Int),(0:Int)))))
def QBt (N:Nat) (x:Y8):Option (Int):=ug (FU (pq N) N) x
theorem QZx (N:Nat) (x:Y8):rise (QMM) QQB 6 N Tryz.f78 [mP] [Z2] [false] x=QBt N x:=Eq.trans (b:=ug (fun v=>Ns (Yg (QMM) QQB 6 N Tryz.f78 [Z2] [false] [] 0 Wx) N (QFO v)) x) (by kernel_rfl) (by rw [funext (SN QFO (QQy N) N)];rfl)
def jW (x:Y8):Option (Int):=QBt big x
def QJF:UA:=⟨[mP],[Z2],[false],fun x=>jW x⟩
theorem QKX:GV Tryz.prog 78 QJF:=rz (E:=QMM) ⟨ZK,(XT QMQ (XT QXh Xq)),fun _ _ _=>rfl,mixed,X8,YF,YE⟩ Tryz.func78 fun _ _ h=>(QZx big _).trans h
def QL3:LT:={ live:=[],keep:=[(30,[])] }
noncomputable def QJB (mk:(α:Type)->Nat->α->List α):Aj:={ tab:=tab,fs:=[],inl:=[(203,Tryz.f203,QYV)],rep:=mk }
noncomputable def QFP (v:Y42):St:={ s:=[(0,(.row 0)),(3,(.val ⟨Z2,v.1⟩)),(4,(.sub 0 v.2.1 v.2.2.1)),(5,(.val ⟨Z2,v.2.2.2.1⟩))],l:=[(0,.row Z2 v.2.2.2.2)],k:=[(4096,[])],b:=16904192 }
noncomputable def QBV (v:Int×ZB):St:={ s:=[(0,(.row 0)),(3,(.val ⟨Z2,v.1⟩))],l:=[(0,.row Z2 v.2)],k:=[(4096,[])],b:=16904192 }
def tO (mk:(α:Type)->Nat->α->List α) (ZG:Int×ZB->Option (ZB)) (ZH:Y42->Option (ZB)) (v:Y42):Option (ZB):=
 (bif (decide (v.2.2.2.1 < (List.length (List.drop v.2.1 (List.take v.2.2.1 v.2.2.2.2)):Int))) then (bif (decide (0<=v.2.2.2.1)&&decide (v.2.2.2.1 < (v.2.2.1:Int) - (v.2.1:Int))) then ((nth v.2.2.2.2 (Int.toNat ((v.2.1:Int)+v.2.2.2.1))).bind fun x9=>(let fH:Int:=(IntKind.i64.wrap (v.2.2.2.1 - (1:Int)));(bif (decide (0<=fH)&&decide (fH < (v.2.2.1:Int) - (v.2.1:Int))) then ((nth v.2.2.2.2 (Int.toNat ((v.2.1:Int)+fH))).bind fun mX=>(bif (x9 != mX) then (bif (decide (0<=v.2.2.2.1)&&decide (v.2.2.2.1 < (v.2.2.1:Int) - (v.2.1:Int))) then ((nth v.2.2.2.2 (Int.toNat ((v.2.1:Int)+v.2.2.2.1))).bind fun mh=>(bif (decide (0<=v.1)&&decide (v.1 < (List.length v.2.2.2.2:Int))) then (let qV:ZB:=(List.set v.2.2.2.2 (Int.toNat v.1) mh);(let jU:Int:=(IntKind.i64.wrap (v.1+(1:Int)));(let jV:Int:=(IntKind.i64.wrap (v.2.2.2.1+(1:Int)));(ZH (jU,v.2.1,v.2.2.1,jV,qV))))) else none)) else none) else (let wK:Int:=(IntKind.i64.wrap (v.2.2.2.1+(1:Int)));(ZH (v.1,v.2.1,v.2.2.1,wK,v.2.2.2.2))))) else none))) else none) else (bif (decide (0<=v.1)&&decide (v.1<=((List.length v.2.2.2.2):Int))) then (let xu:ZB:=(List.append (List.take (Int.toNat v.1) v.2.2.2.2) (List.append (mk Int ((List.length v.2.2.2.2) - (Int.toNat v.1)) (0:Int)) (List.drop (List.length v.2.2.2.2) v.2.2.2.2)));(bif (decide (0<=v.1)&&decide (v.1<=((List.length xu):Int))) then (some (List.drop 0 (List.take (Int.toNat v.1) xu))) else none)) else none))
def nO (mk:(α:Type)->Nat->α->List α) (N:Nat) (ZG:Int×ZB->Option (ZB)) (ZH:Y42->Option (ZB)) (v:Y42):Option (ZB):=tO mk ZG ZH v
theorem QR0 (mk:(α:Type)->Nat->α->List α) (N:Nat) (s0:St->Option (ZB)) (s1:St->Option (ZB)) (v):(Yg (QJB mk) QL3 6 N Tryz.f189 [Z6] [false] [.call 6 11 203] 1 (YC s0 Wx)) s1 (QFP v)=nO mk N (fun v=>s0 (QBV v)) (fun v=>s1 (QFP v)) v:=by kernel_rfl
def jh (mk:(α:Type)->Nat->α->List α) (Zv:Y42->Option (ZB)) (ZG:Int×ZB->Option (ZB)) (v:Int×ZB):Option (ZB):=
 (bif (decide (v.1 < (List.length v.2:Int))) then (bif (decide (0<=v.1)&&decide (v.1 < (List.length v.2:Int))) then ((nth v.2 (Int.toNat v.1)).bind fun x6=>(let x7:Int:=(IntKind.i64.wrap (v.1 - (1:Int)));(bif (decide (0<=x7)&&decide (x7 < (List.length v.2:Int))) then ((nth v.2 (Int.toNat x7)).bind fun x8=>(bif (x6==x8) then (bif (decide (0<=v.1)&&decide (v.1<=((List.length v.2):Int))) then (Zv (v.1,(Int.toNat v.1),(List.length v.2),(1:Int),v.2)) else none) else (let x18:Int:=(IntKind.i64.wrap (v.1+(1:Int)));(ZG (x18,v.2))))) else none))) else none) else (some v.2))
def Zz (mk:(α:Type)->Nat->α->List α) (N:Nat) (ZG:Int×ZB->Option (ZB)) (v:Int×ZB):Option (ZB):=jh mk (FU (nO mk N ZG) N) ZG v
theorem QQz (mk:(α:Type)->Nat->α->List α) (N:Nat) (s0:St->Option (ZB)) (v):(Yg (QJB mk) QL3 6 N Tryz.f189 [Z6] [false] [.call 6 11 203] 0 Wx) s0 (QBV v)=Zz mk N (fun v=>s0 (QBV v)) v:=Eq.trans (b:=jh mk (fun v=>Ns (Yg (QJB mk) QL3 6 N Tryz.f189 [Z6] [false] [.call 6 11 203] 1 (YC s0 Wx)) N (QFP v)) (fun v=>s0 (QBV v)) v) (by kernel_rfl) (by rw [funext (SN QFP (QR0 mk N s0) N)];rfl)
def rU (mk:(α:Type)->Nat->α->List α) (ZJ:Int×ZB->Option (ZB)) (x:Y8×Int):Option (ZB):=
 ((Mh x.1 x.2).bind fun x1=>(bif (x1.1==(22:Int)) then (some ([x1.2.1]:ZB)) else (bif (x1.1==(23:Int)) then (let x2:Int:=(IntKind.i64.wrap (x.2+(1:Int)));(let x3:Int:=(if x1.2.2.1 < x2 then x1.2.2.1 else x2);(let x4:Int:=(IntKind.i64.wrap (x.2+(1:Int)));(let x5:Int:=(if x1.2.2.1 > x4 then x1.2.2.1 else x4);(bif (decide ((List.length ([x3,x5]:ZB):Int) < (2:Int))) then (some ([x3,x5]:ZB)) else (ZJ ((1:Int),([x3,x5]:ZB)))))))) else (bif (x1.1==(34:Int)) then (bif (x1.1==(34:Int)) then (some ([]:List Int)) else (let zW:Int:=(IntKind.i64.wrap (x.2+(1:Int)));(some ([zW]:ZB)))) else (bif (x1.1==(28:Int)) then (bif (x1.1==(28:Int)) then (some ([]:List Int)) else (let zO:Int:=(IntKind.i64.wrap (x.2+(1:Int)));(some ([zO]:ZB)))) else (bif (x1.1==(30:Int)) then (some ([]:List Int)) else (let x21:Int:=(IntKind.i64.wrap (x.2+(1:Int)));(some ([x21]:ZB)))))))))
def QAc (mk:(α:Type)->Nat->α->List α) (N:Nat) (x:Y8×Int):Option (ZB):=rU mk (FU (Zz mk N) N) x
theorem QZy (mk:(α:Type)->Nat->α->List α) (N:Nat) (x:Y8×Int):rise (QJB mk) QL3 6 N Tryz.f189 [mP,Z2] [Z6] [false] x=QAc mk N x:=Eq.trans (b:=rU mk (fun v=>Ns (Yg (QJB mk) QL3 6 N Tryz.f189 [Z6] [false] [.call 6 11 203] 0 Wx) N (QBV v)) x) (by kernel_rfl) (by rw [funext (SN QBV (QQz mk N) N)];rfl)
def j6 (x:Y8×Int):Option (ZB):=QAc (fun _=>List.replicate) big x
def QKN:UA:=⟨[mP,Z2],[Z6],[false],fun x=>j6 x⟩
theorem QMS:GV Tryz.prog 189 QKN:=rz (E:=QJB (fun _=>List.replicate)) ⟨ZK,Xq,fun _ _ _=>rfl,mixed,(Xe (Xd Tryz.func203 rfl rfl (by kernel_rfl)) X8),YF,YE⟩ Tryz.func189 fun _ _ h=>(QZy (fun _=>List.replicate) big _).trans h
def QCr:LT:={ live:=[],keep:=[(12,[3])],rf:=[(13,[3],[3])] }
noncomputable def QE5 (mk:(α:Type)->Nat->α->List α):Aj:={ tab:=tab,fs:=[(189,QKN)],inl:=[(160,Tryz.f160,QKc),(188,Tryz.f188,QKb)],rep:=mk }
noncomputable def QCJ (v:Y28):St:={ s:=[(0,(.yl 0)),(1,(.loc 3 [])),(3,(.row 4)),(4,(.row 5)),(5,(.val ⟨Z2,v.1⟩)),(30,(.val ⟨Z6,v.2.1⟩)),(31,(.val ⟨Z2,v.2.2.1⟩)),(32,(.val ⟨Z2,v.2.2.2.1⟩))],l:=[(0,.lp (.pair .any (.pair .any (.pair .any (.pair (.loc 1 []) .unit)))) (Y3 Tryz.f158 4 QCr .ready none)),(1,.var Z17 (.row 2)),(2,.row .bool v.2.2.2.2.1),(3,.var mP (.val ⟨mP,v.2.2.2.2.2.1⟩)),(4,.row .bool v.2.2.2.2.2.2.1),(5,.row Z2 v.2.2.2.2.2.2.2)],k:=[(0,[(0,(.yl 0))]),(4096,[(3,(.loc 1 []))])],b:=33165312 }
noncomputable def y9 (v:Y64):St:={ s:=[(0,(.yl 0)),(1,(.loc 3 [])),(3,(.row 4)),(4,(.row 5))],l:=[(0,.lp (.pair .any (.pair .any (.pair .any (.pair (.loc 1 []) .unit)))) (Y3 Tryz.f158 4 QCr .ready none)),(1,.var Z17 (.row 2)),(2,.row .bool v.1),(3,.var mP (.val ⟨mP,v.2.1⟩)),(4,.row .bool v.2.2.1),(5,.row Z2 v.2.2.2)],k:=[(0,[(0,(.yl 0))]),(4096,[(3,(.loc 1 []))])],b:=33165312 }
def qR (mk:(α:Type)->Nat->α->List α) (ZG:Y64->Option (oq)) (ZH:Y28->Option (oq)) (v:Y28):Option (oq):=
 (bif (decide (v.2.2.2.1 < v.2.2.1)) then ((Mh v.2.1 v.2.2.2.1).bind fun fH=>(bif (decide (0<=fH)&&decide (fH < (List.length v.2.2.2.2.1:Int))) then (let mX:oq:=(List.set v.2.2.2.2.1 (Int.toNat fH) true);(bif (decide (0<=fH)&&decide (fH < (List.length v.2.2.2.2.2.2.1:Int))) then ((nth v.2.2.2.2.2.2.1 (Int.toNat fH)).bind fun mh=>(bif (!mh) then (bif (decide (0<=fH)&&decide (fH < (List.length v.2.2.2.2.2.2.1:Int))) then (let qV:oq:=(List.set v.2.2.2.2.2.2.1 (Int.toNat fH) true);(bif (Nat.ble 1 1&&Nat.ble (List.length v.2.2.2.2.2.2.2+List.length ([fH]:ZB)) lim) then (let jU:ZB:=(List.append v.2.2.2.2.2.2.2 ([fH]:ZB));(let jV:Int:=(IntKind.i64.wrap (v.2.2.2.1+(1:Int)));(ZH (v.1,v.2.1,v.2.2.1,jV,mX,v.2.2.2.2.2.1,qV,jU)))) else none)) else none) else (let wK:Int:=(IntKind.i64.wrap (v.2.2.2.1+(1:Int)));(ZH (v.1,v.2.1,v.2.2.1,wK,mX,v.2.2.2.2.2.1,v.2.2.2.2.2.2.1,v.2.2.2.2.2.2.2))))) else none)) else none)) else (ZG (v.2.2.2.2.1,v.2.2.2.2.2.1,v.2.2.2.2.2.2.1,v.2.2.2.2.2.2.2)))
def uV (mk:(α:Type)->Nat->α->List α) (N:Nat) (ZG:Y64->Option (oq)) (ZH:Y28->Option (oq)) (v:Y28):Option (oq):=qR mk ZG ZH v
theorem QMd (mk:(α:Type)->Nat->α->List α) (N:Nat) (s0:St->Option (oq)) (s1:St->Option (oq)) (v):(Yg (QE5 mk) QCr 6 N Tryz.f158 [Z17] [true] [.rng 4 188] 1 (YC s0 Wx)) s1 (QCJ v)=uV mk N (fun v=>s0 (y9 v)) (fun v=>s1 (QCJ v)) v:=by kernel_rfl
def uW (mk:(α:Type)->Nat->α->List α) (Zv:Y28->Option (oq)) (ZG:Y64->Option (oq)) (v:Y64):Option (oq):=
 (bif (decide ((List.length v.2.2.2:Int) > (0:Int))) then (let x6:Int:=(IntKind.i64.wrap ((List.length v.2.2.2:Int) - (1:Int)));(bif (decide (0<=x6)&&decide (x6 < (List.length v.2.2.2:Int))) then ((nth v.2.2.2 (Int.toNat x6)).bind fun x7=>(let x8:Int:=(IntKind.i64.wrap ((List.length v.2.2.2:Int) - (1:Int)));(bif (decide (0<=x8)&&decide (x8<=((List.length v.2.2.2):Int))) then ((j6 (v.2.1,x7)).bind fun x9=>(Zv (x7,x9,(List.length x9:Int),(0:Int),v.1,v.2.1,v.2.2.1,(List.take (Int.toNat x8) v.2.2.2)))) else none))) else none)) else (some v.1))
def uU (mk:(α:Type)->Nat->α->List α) (N:Nat) (ZG:Y64->Option (oq)) (v:Y64):Option (oq):=uW mk (FU (uV mk N ZG) N) ZG v
theorem QMc (mk:(α:Type)->Nat->α->List α) (N:Nat) (s0:St->Option (oq)) (v):(Yg (QE5 mk) QCr 6 N Tryz.f158 [Z17] [true] [.rng 4 188] 0 Wx) s0 (y9 v)=uU mk N (fun v=>s0 (y9 v)) v:=Eq.trans (b:=uW mk (fun v=>Ns (Yg (QE5 mk) QCr 6 N Tryz.f158 [Z17] [true] [.rng 4 188] 1 (YC s0 Wx)) N (QCJ v)) (fun v=>s0 (y9 v)) v) (by kernel_rfl) (by rw [funext (SN QCJ (QMd mk N s0) N)];rfl)
def zH (mk:(α:Type)->Nat->α->List α) (ZJ:Y64->Option (oq)) (x:Y8):Option (oq):=
 (bif (decide (0<=(List.length x:Int))&&(decide ((List.length x:Int)<=(List.length x:Int))&&(decide ((List.length x:Int)<=68719476736)&&true))) then (let x1:oq:=(mk Bool (Int.toNat (List.length x:Int)) false);(bif (decide (0<=(0:Int))&&decide ((0:Int) < (List.length x1:Int))) then (let x2:oq:=(List.set x1 (Int.toNat (0:Int)) true);(bif (decide (0<=(List.length x:Int))&&(decide ((List.length x:Int)<=(List.length x:Int))&&(decide ((List.length x:Int)<=68719476736)&&true))) then (let x3:oq:=(mk Bool (Int.toNat (List.length x:Int)) false);(bif (decide (0<=(0:Int))&&decide ((0:Int) < (List.length x3:Int))) then (let x4:oq:=(List.set x3 (Int.toNat (0:Int)) true);(let x5:ZB:=([(0:Int)]:ZB);(ZJ (x2,x,x4,x5)))) else none)) else none)) else none)) else none)
def QEU (mk:(α:Type)->Nat->α->List α) (N:Nat) (x:Y8):Option (oq):=zH mk (FU (uU mk N) N) x
theorem QVZ (mk:(α:Type)->Nat->α->List α) (N:Nat) (x:Y8):rise (QE5 mk) QCr 6 N Tryz.f158 [mP] [Z17] [true] x=QEU mk N x:=Eq.trans (b:=zH mk (fun v=>Ns (Yg (QE5 mk) QCr 6 N Tryz.f158 [Z17] [true] [.rng 4 188] 0 Wx) N (y9 v)) x) (by kernel_rfl) (by rw [funext (SN y9 (QMc mk N) N)];rfl)
def y5 (x:Y8):Option (oq):=QEU (fun _=>List.replicate) big x
def QKD:UA:=⟨[mP],[Z17],[true],fun x=>y5 x⟩
theorem QOh:GV Tryz.prog 158 QKD:=rz (E:=QE5 (fun _=>List.replicate)) ⟨ZK,(XT QMS Xq),fun _ _ _=>rfl,mixed,(Xe (Xd Tryz.func160 rfl rfl (by kernel_rfl)) (Xe (Xd Tryz.func188 rfl rfl (by kernel_rfl)) X8)),YF,YE⟩ Tryz.func158 fun _ _ h=>(QVZ (fun _=>List.replicate) big _).trans h
def QUR:LT:={ live:=[],keep:=[] }
noncomputable def QNb:Aj:={ tab:=tab,fs:=[(78,QJF),(158,QKD)],inl:=[] }
def qF (x:Y8):Option (oq×Int):=
 ((jW x).bind fun x1=>(bif (x1 != (0:Int)) then (some (([]:List Bool),x1)) else ((y5 x).bind fun x2=>(let x3:Int:=(IntKind.i64.wrap ((List.length x:Int) - (1:Int)));(bif (decide (0<=x3)&&decide (x3 < (List.length x2:Int))) then (let x4:oq:=(List.set x2 (Int.toNat x3) true);(some (x4,(0:Int)))) else none)))))
def QDu (N:Nat) (x:Y8):Option (oq×Int):=qF x
theorem QVa (N:Nat) (x:Y8):rise (QNb) QUR 6 N Tryz.f121 [mP] [Z17,Z2] [true,false] x=qF x:=by kernel_rfl
def vG (x:Y8):Option (oq×Int):=QDu big x
def QO4:UA:=⟨[mP],[Z17,Z2],[true,false],fun x=>vG x⟩
theorem QTQ:GV Tryz.prog 121 QO4:=rz (E:=QNb) ⟨ZK,(XT QKX (XT QOh Xq)),fun _ _ _=>rfl,mixed,X8,YF,YE⟩ Tryz.func121 fun _ _ h=>(QVa big _).trans h
def QKd:LT:={ live:=[],keep:=[(13,[2,3])] }
noncomputable def QHw:Aj:={ tab:=tab,fs:=[(98,QKM),(140,QMP)],inl:=[(99,Tryz.f99,QV4),(100,Tryz.f100,QUT),(101,Tryz.f101,QUS)] }
noncomputable def QCK (v:Y60):St:={ s:=[(1,(.Dn 100 (.pair (.loc 0 []) (.pair (.loc 2 []) .unit)))),(4,(.loc 4 [])),(13,(.val ⟨(.arr 3 fI),v.1⟩)),(14,(.val ⟨Z2,v.2.1⟩))],l:=[(0,.var Z6 (.row 1)),(1,.row Z2 v.2.2.1),(2,.var Z6 (.row 3)),(3,.row Z2 v.2.2.2.1),(4,.var Z18 (.val ⟨Z18,v.2.2.2.2⟩))],k:=[(4096,[(2,(.loc 0 [])),(3,(.loc 2 []))])],b:=16834560 }
def xD (ZG:Y60->Option Y23) (v:Y60):Option Y23:=
 (bif (decide (v.2.1 < (3:Int))) then ((Mh v.1 v.2.1).bind fun x4=>(bif (x4 != (0:Int)) then (bif (decide (0<=v.2.1)&&decide (v.2.1 < (3:Int))) then ((nth v.2.2.2.2 (Int.toNat v.2.1)).bind fun x5=>(bif (x4==(1:Int)) then (bif (x4==(1:Int)) then (bif (x5==(-1:Int)) then (let x6:Int:=(IntKind.i64.wrap (v.2.1+(1:Int)));(ZG (v.1,x6,v.2.2.1,v.2.2.2.1,v.2.2.2.2))) else (bif (Nat.ble 1 1&&Nat.ble (List.length v.2.2.1+List.length ([x5]:ZB)) lim) then (let x7:ZB:=(List.append v.2.2.1 ([x5]:ZB));(let x8:Int:=(IntKind.i64.wrap (v.2.1+(1:Int)));(ZG (v.1,x8,x7,v.2.2.2.1,v.2.2.2.2)))) else none)) else (bif (x4==(2:Int)) then (bif (x4==(2:Int)) then (bif (x5==(-1:Int)) then (let x9:Int:=(IntKind.i64.wrap (v.2.1+(1:Int)));(ZG (v.1,x9,v.2.2.1,v.2.2.2.1,v.2.2.2.2))) else (bif (Nat.ble 1 1&&Nat.ble (List.length v.2.2.2.1+List.length ([x5]:ZB)) lim) then (let fH:ZB:=(List.append v.2.2.2.1 ([x5]:ZB));(let mX:Int:=(IntKind.i64.wrap (v.2.1+(1:Int)));(ZG (v.1,mX,v.2.2.1,fH,v.2.2.2.2)))) else none)) else (let mh:Int:=(IntKind.i64.wrap (v.2.1+(1:Int)));(ZG (v.1,mh,v.2.2.1,v.2.2.2.1,v.2.2.2.2)))) else (bif (x4==(4:Int)) then (bif (x5==(-1:Int)) then (let qV:Int:=(IntKind.i64.wrap (v.2.1+(1:Int)));(ZG (v.1,qV,v.2.2.1,v.2.2.2.1,v.2.2.2.2))) else (bif (Nat.ble 1 1&&Nat.ble (List.length v.2.2.2.1+List.length ([x5]:ZB)) lim) then (let jU:ZB:=(List.append v.2.2.2.1 ([x5]:ZB));(let jV:Int:=(IntKind.i64.wrap (v.2.1+(1:Int)));(ZG (v.1,jV,v.2.2.1,jU,v.2.2.2.2)))) else none)) else (let wK:Int:=(IntKind.i64.wrap (v.2.1+(1:Int)));(ZG (v.1,wK,v.2.2.1,v.2.2.2.1,v.2.2.2.2)))))) else (bif (x4==(3:Int)) then (bif (x5==(-1:Int)) then (let xu:Int:=(IntKind.i64.wrap (v.2.1+(1:Int)));(ZG (v.1,xu,v.2.2.1,v.2.2.2.1,v.2.2.2.2))) else (bif (Nat.ble 1 1&&Nat.ble (List.length v.2.2.1+List.length ([x5]:ZB)) lim) then (let x18:ZB:=(List.append v.2.2.1 ([x5]:ZB));(let zW:Int:=(IntKind.i64.wrap (v.2.1+(1:Int)));(ZG (v.1,zW,x18,v.2.2.2.1,v.2.2.2.2)))) else none)) else (bif (x4==(2:Int)) then (bif (x4==(2:Int)) then (bif (x5==(-1:Int)) then (let zO:Int:=(IntKind.i64.wrap (v.2.1+(1:Int)));(ZG (v.1,zO,v.2.2.1,v.2.2.2.1,v.2.2.2.2))) else (bif (Nat.ble 1 1&&Nat.ble (List.length v.2.2.2.1+List.length ([x5]:ZB)) lim) then (let x21:ZB:=(List.append v.2.2.2.1 ([x5]:ZB));(let x22:Int:=(IntKind.i64.wrap (v.2.1+(1:Int)));(ZG (v.1,x22,v.2.2.1,x21,v.2.2.2.2)))) else none)) else (let x23:Int:=(IntKind.i64.wrap (v.2.1+(1:Int)));(ZG (v.1,x23,v.2.2.1,v.2.2.2.1,v.2.2.2.2)))) else (bif (x4==(4:Int)) then (bif (x5==(-1:Int)) then (let x24:Int:=(IntKind.i64.wrap (v.2.1+(1:Int)));(ZG (v.1,x24,v.2.2.1,v.2.2.2.1,v.2.2.2.2))) else (bif (Nat.ble 1 1&&Nat.ble (List.length v.2.2.2.1+List.length ([x5]:ZB)) lim) then (let x25:ZB:=(List.append v.2.2.2.1 ([x5]:ZB));(let x26:Int:=(IntKind.i64.wrap (v.2.1+(1:Int)));(ZG (v.1,x26,v.2.2.1,x25,v.2.2.2.2)))) else none)) else (let x27:Int:=(IntKind.i64.wrap (v.2.1+(1:Int)));(ZG (v.1,x27,v.2.2.1,v.2.2.2.1,v.2.2.2.2)))))))) else none) else (let x28:Int:=(IntKind.i64.wrap (v.2.1+(1:Int)));(ZG (v.1,x28,v.2.2.1,v.2.2.2.1,v.2.2.2.2))))) else (some (v.2.2.1,v.2.2.2.1,(0:Int))))
def rM (N:Nat) (ZG:Y60->Option Y23) (v:Y60):Option Y23:=xD ZG v
theorem QMe (N:Nat) (s0:St->Option Y23) (v):(Yg (QHw) QKd 6 N Tryz.f50 [Z6,Z6,Z2] [true,false,false] [.call 4 2 99] 0 Wx) s0 (QCK v)=rM N (fun v=>s0 (QCK v)) v:=by kernel_rfl
def xJ (ZJ:Y60->Option Y23) (x:ZE):Option Y23:=
 ((pF x).bind fun x1=>(bif (x1 != (0:Int)) then (some (([]:List Int),([]:List Int),x1)) else ((lF x).bind fun x2=>((Mh Yh x.1).bind fun x3=>(ZJ (x3.2.1,(0:Int),([]:List Int),([]:List Int),x2))))))
def QDU (N:Nat) (x:ZE):Option Y23:=xJ (FU (rM N) N) x
theorem QVb (N:Nat) (x:ZE):rise (QHw) QKd 6 N Tryz.f50 [Z3] [Z6,Z6,Z2] [true,false,false] x=QDU N x:=Eq.trans (b:=xJ (fun v=>Ns (Yg (QHw) QKd 6 N Tryz.f50 [Z6,Z6,Z2] [true,false,false] [.call 4 2 99] 0 Wx) N (QCK v)) x) (by kernel_rfl) (by rw [funext (SN QCK (QMe N) N)];rfl)
def pG (x:ZE):Option Y23:=QDU big x
def QII:UA:=⟨[Z3],[Z6,Z6,Z2],[true,false,false],fun x=>pG x⟩
theorem QKR:GV Tryz.prog 50 QII:=rz (E:=QHw) ⟨ZK,(XT QMQ (XT QPc Xq)),fun _ _ _=>rfl,mixed,(Xe (Xd Tryz.func99 rfl rfl (by kernel_rfl)) (Xe (Xd Tryz.func100 rfl rfl (by kernel_rfl)) (Xe (Xd Tryz.func101 rfl rfl (by kernel_rfl)) X8))),YF,YE⟩ Tryz.func50 fun _ _ h=>(QVb big _).trans h
def QG1:LT:={ live:=[(3,[0,3,9,10,11]),(11,[6,25,26,27])],keep:=[(24,[0])],stk:=[6] }
noncomputable def QE6 (mk:(α:Type)->Nat->α->List α):Aj:={ tab:=tab,fs:=[],inl:=[(136,Tryz.f136,QUU)],rep:=mk }
noncomputable def QCL (v:Y62):St:={ s:=[(6,(.row 0)),(25,(.val ⟨(.slice Z6),v.1⟩)),(26,(.val ⟨Z2,v.2.1⟩)),(27,(.val ⟨Z2,v.2.2.1⟩))],l:=[(0,.row Z2 v.2.2.2)],k:=[],b:=4096 }
noncomputable def zA (v:Y40):St:={ s:=[(0,(.val ⟨(.slice Z6),v.1⟩)),(3,(.val ⟨Z2,v.2.1⟩)),(9,(.val ⟨(.slice Z6),v.2.2.1⟩)),(10,(.val ⟨Z2,v.2.2.2.1⟩)),(11,(.val ⟨Z2,v.2.2.2.2⟩))],l:=[],k:=[],b:=4096 }
def eO (mk:(α:Type)->Nat->α->List α) (ZG:Y40->Option (ZB)) (ZH:Y62->Option (ZB)) (v:Y62):Option (ZB):=
 (bif (decide (v.2.2.1 < v.2.1)) then ((Mh v.1 v.2.2.1).bind fun x7=>(bif (Nat.ble 1 1&&Nat.ble (List.length v.2.2.2+List.length x7) lim) then (let x8:Int:=(IntKind.i64.wrap (v.2.2.1+(1:Int)));(ZH (v.1,v.2.1,x8,(List.append v.2.2.2 x7)))) else none)) else (some v.2.2.2))
def Zg (mk:(α:Type)->Nat->α->List α) (N:Nat) (ZG:Y40->Option (ZB)) (ZH:Y62->Option (ZB)) (v:Y62):Option (ZB):=eO mk ZG ZH v
theorem QMg (mk:(α:Type)->Nat->α->List α) (N:Nat) (s0:St->Option (ZB)) (s1:St->Option (ZB)) (v):(Yg (QE6 mk) QG1 6 N Tryz.f87 [Z6] [true] [] 1 Wx) s1 (QCL v)=Zg mk N (fun v=>s0 (zA v)) (fun v=>s1 (QCL v)) v:=by kernel_rfl
def Zh (mk:(α:Type)->Nat->α->List α) (Zv:Y62->Option (ZB)) (ZG:Y40->Option (ZB)) (v:Y40):Option (ZB):=
 (bif (decide (v.2.2.2.2 < v.2.2.2.1)) then ((Mh v.2.2.1 v.2.2.2.2).bind fun x1=>(let x2:Int:=(IntKind.i64.wrap (v.2.1+(List.length x1:Int)));(bif (decide (x2 < (0:Int))) then none else (let x3:Int:=(IntKind.i64.wrap (v.2.2.2.2+(1:Int)));(ZG (v.1,x2,v.2.2.1,v.2.2.2.1,x3)))))) else (bif (decide (v.2.1 < (0:Int))) then none else (let x4:Int:=(IntKind.i64.wrap ((0:Int) - (List.length ([]:List Int):Int)));(let x5:Int:=(IntKind.i64.wrap (v.2.1 - x4));(bif (decide (x5 > (0:Int))) then (bif (decide ((0:Int)=0)) then (bif (decide (1<=x5)&&decide (x5<=(lim:Int))) then (bif (Nat.ble 1 1&&Nat.ble (List.length ([]:List Int)+List.length (mk Int (Int.toNat x5) (0:Int))) lim) then (let x6:ZB:=(List.append ([]:List Int) (mk Int (Int.toNat x5) (0:Int)));(bif (decide (0<=(List.length ([]:List Int):Int))&&decide ((List.length ([]:List Int):Int)<=((List.length x6):Int))) then (Zv (v.1,(List.length v.1:Int),(0:Int),(List.take (Int.toNat (List.length ([]:List Int):Int)) x6))) else none)) else none) else none) else none) else (Zv (v.1,(List.length v.1:Int),(0:Int),([]:List Int))))))))
def Zf (mk:(α:Type)->Nat->α->List α) (N:Nat) (ZG:Y40->Option (ZB)) (v:Y40):Option (ZB):=Zh mk (FU (Zg mk N ZG) N) ZG v
theorem QMf (mk:(α:Type)->Nat->α->List α) (N:Nat) (s0:St->Option (ZB)) (v):(Yg (QE6 mk) QG1 6 N Tryz.f87 [Z6] [true] [] 0 Wx) s0 (zA v)=Zf mk N (fun v=>s0 (zA v)) v:=Eq.trans (b:=Zh mk (fun v=>Ns (Yg (QE6 mk) QG1 6 N Tryz.f87 [Z6] [true] [] 1 Wx) N (QCL v)) (fun v=>s0 (zA v)) v) (by kernel_rfl) (by rw [funext (SN QCL (QMg mk N s0) N)];rfl)
def cO (mk:(α:Type)->Nat->α->List α) (ZJ:Y40->Option (ZB)) (x:yD):Option (ZB):=
 (ZJ (x,(0:Int),x,(List.length x:Int),(0:Int)))
def oM (mk:(α:Type)->Nat->α->List α) (N:Nat) (x:yD):Option (ZB):=cO mk (FU (Zf mk N) N) x
theorem QVc (mk:(α:Type)->Nat->α->List α) (N:Nat) (x:yD):rise (QE6 mk) QG1 6 N Tryz.f87 [(.slice Z6)] [Z6] [true] x=oM mk N x:=Eq.trans (b:=cO mk (fun v=>Ns (Yg (QE6 mk) QG1 6 N Tryz.f87 [Z6] [true] [] 0 Wx) N (zA v)) x) (by kernel_rfl) (by rw [funext (SN zA (QMf mk N) N)];rfl)
def aM (x:yD):Option (ZB):=oM (fun _=>List.replicate) big x
def QKE:UA:=⟨[(.slice Z6)],[Z6],[true],fun x=>aM x⟩
theorem QOi:GV Tryz.prog 87 QKE:=rz (E:=QE6 (fun _=>List.replicate)) ⟨ZK,Xq,fun _ _ _=>rfl,mixed,(Xe (Xd Tryz.func136 rfl rfl (by kernel_rfl)) X8),YF,YE⟩ Tryz.func87 fun _ _ h=>(QVc (fun _=>List.replicate) big _).trans h
def QUV:LT:={ live:=[],keep:=[] }
noncomputable def QNc:Aj:={ tab:=tab,fs:=[],inl:=[] }
def qE (x:ZE):Option (Int×Bool):=
 (bif (x.1==(25:Int)) then (some (x.2.2.1,true)) else (bif (x.1==(26:Int)) then (bif (x.1==(26:Int)) then (some (x.2.1,true)) else (some ((0:Int),false))) else (bif (x.1==(27:Int)) then (some (x.2.1,true)) else (some ((0:Int),false)))))
def QDt (N:Nat) (x:ZE):Option (Int×Bool):=qE x
theorem QVd (N:Nat) (x:ZE):rise (QNc) QUV 6 N Tryz.f88 [Z3] [Z2,.bool] [false,false] x=qE x:=by kernel_rfl
def pU (x:ZE):Option (Int×Bool):=QDt big x
def QKF:UA:=⟨[Z3],[Z2,.bool],[false,false],fun x=>pU x⟩
theorem QOj:GV Tryz.prog 88 QKF:=rz (E:=QNc) ⟨ZK,Xq,fun _ _ _=>rfl,mixed,X8,YF,YE⟩ Tryz.func88 fun _ _ h=>(QVd big _).trans h
def QKe:LT:={ live:=[(3,[2,3,21,22,23])],keep:=[] }
noncomputable def QHx:Aj:={ tab:=tab,fs:=[(50,QII),(87,QKE),(88,QKF)],inl:=[] }
noncomputable def QCM (v:Y59):St:={ s:=[(2,(.loc 0 [])),(3,(.loc 1 [])),(21,(.row 2)),(22,(.val ⟨Z2,v.1⟩)),(23,(.val ⟨Z2,v.2.1⟩))],l:=[(0,.var Z8 (.val ⟨Z8,v.2.2.1⟩)),(1,.var Z3 (.val ⟨Z3,v.2.2.2.1⟩)),(2,.row Z2 v.2.2.2.2)],k:=[],b:=4096 }
def eG (ZG:Y59->Option (Bool)) (v:Y59):Option (Bool):=
 (bif (decide (v.2.1 < v.1)) then (bif (decide (0<=v.2.1)&&decide (v.2.1 < (List.length v.2.2.2.2:Int))) then ((nth v.2.2.2.2 (Int.toNat v.2.1)).bind fun x4=>(bif (decide (x4≥(List.length v.2.2.1.2.1.2.2.2.1:Int))) then (some false) else (let x5:Int:=(IntKind.i64.wrap (v.2.1+(1:Int)));(ZG (v.1,x5,v.2.2.1,v.2.2.2.1,v.2.2.2.2))))) else none) else ((pU v.2.2.2.1).bind fun x6=>(bif x6.2 then (some (decide (x6.1 < (List.length v.2.2.1.1.2.2.1:Int)))) else (bif (v.2.2.2.1.1 != (2:Int)) then (some true) else (some (decide (v.2.2.2.1.2.2.1 < (List.length v.2.2.1.1.2.1:Int))))))))
def Ze (N:Nat) (ZG:Y59->Option (Bool)) (v:Y59):Option (Bool):=eG ZG v
theorem QMh (N:Nat) (s0:St->Option (Bool)) (v):(Yg (QHx) QKe 6 N Tryz.f48 [.bool] [false] [] 0 Wx) s0 (QCM v)=Ze N (fun v=>s0 (QCM v)) v:=by kernel_rfl
def cK (ZJ:Y59->Option (Bool)) (x:Y7×ZE):Option (Bool):=
 ((pG x.2).bind fun x1=>(let x2:yD:=([x1.1,x1.2.1]:yD);((aM x2).bind fun x3=>(ZJ ((List.length x3:Int),(0:Int),x.1,x.2,x3)))))
def oL (N:Nat) (x:Y7×ZE):Option (Bool):=cK (FU (Ze N) N) x
theorem QVe (N:Nat) (x:Y7×ZE):rise (QHx) QKe 6 N Tryz.f48 [Z8,Z3] [.bool] [false] x=oL N x:=Eq.trans (b:=cK (fun v=>Ns (Yg (QHx) QKe 6 N Tryz.f48 [.bool] [false] [] 0 Wx) N (QCM v)) x) (by kernel_rfl) (by rw [funext (SN QCM (QMh N) N)];rfl)
def gW (x:Y7×ZE):Option (Bool):=oL big x
def QO5:UA:=⟨[Z8,Z3],[.bool],[false],fun x=>gW x⟩
theorem QTR:GV Tryz.prog 48 QO5:=rz (E:=QHx) ⟨ZK,(XT QKR (XT QOi (XT QOj Xq))),fun _ _ _=>rfl,mixed,X8,YF,YE⟩ Tryz.func48 fun _ _ h=>(QVe big _).trans h
def QUW:LT:={ live:=[],keep:=[] }
noncomputable def QNd:Aj:={ tab:=tab,fs:=[],inl:=[] }
def fF (x:Y7×Int):Option (Int):=
 ((Mh x.1.2.1.2.2.2.1 x.2).bind fun x1=>(some x1.2.1))
def zT (N:Nat) (x:Y7×Int):Option (Int):=fF x
theorem QVf (N:Nat) (x:Y7×Int):rise (QNd) QUW 6 N Tryz.f90 [Z8,Z2] [Z2] [false] x=fF x:=by kernel_rfl
def ZO (x:Y7×Int):Option (Int):=zT big x
def QCo:UA:=⟨[Z8,Z2],[Z2],[false],fun x=>ZO x⟩
theorem QE8:GV Tryz.prog 90 QCo:=rz (E:=QNd) ⟨ZK,Xq,fun _ _ _=>rfl,mixed,X8,YF,YE⟩ Tryz.func90 fun _ _ h=>(QVf big _).trans h
def QUX:LT:={ live:=[],keep:=[] }
noncomputable def QNe:Aj:={ tab:=tab,fs:=[(90,QCo)],inl:=[] }
def fD (x:Y7×Int):Option (Int):=
 ((ZO (x.1,x.2)).bind fun x1=>((Mh x.1.1.1 x1).bind fun x2=>(some x2.1)))
def zR (N:Nat) (x:Y7×Int):Option (Int):=fD x
theorem QVg (N:Nat) (x:Y7×Int):rise (QNe) QUX 6 N Tryz.f92 [Z8,Z2] [fI] [false] x=fD x:=by kernel_rfl
def Zp (x:Y7×Int):Option (Int):=zR big x
def QIJ:UA:=⟨[Z8,Z2],[fI],[false],fun x=>Zp x⟩
theorem QKS:GV Tryz.prog 92 QIJ:=rz (E:=QNe) ⟨ZK,(XT QE8 Xq),fun _ _ _=>rfl,mixed,X8,YF,YE⟩ Tryz.func92 fun _ _ h=>(QVg big _).trans h
def QKf:LT:={ live:=[],keep:=[(9,[])] }
noncomputable def QHy:Aj:={ tab:=tab,fs:=[(92,QIJ)],inl:=[(131,Tryz.f131,QIP),(137,Tryz.f137,QUY),(167,Tryz.f167,QIO)] }
noncomputable def QCN (v:Y48):St:={ s:=[(0,(.val ⟨Z6,v.1⟩)),(1,(.Dn 137 (.pair (.loc 0 []) (.pair (.loc 1 []) .unit)))),(7,(.val ⟨Z2,v.2.1⟩)),(8,(.val ⟨Z2,v.2.2.1⟩))],l:=[(0,.var Z8 (.val ⟨Z8,v.2.2.2.1⟩)),(1,.var fI (.val ⟨fI,v.2.2.2.2⟩))],k:=[(16818176,[]),(4096,[])],b:=68887281664 }
def mK (ZG:Y48->Option (Bool)) (v:Y48):Option (Bool):=
 (bif (decide (v.2.2.1 < v.2.1)) then ((Mh v.1 v.2.2.1).bind fun x1=>((Zp (v.2.2.2.1,x1)).bind fun x2=>(bif (x2 != v.2.2.2.2) then (some (!(decide (v.2.2.1≥(0:Int))))) else (let x3:Int:=(IntKind.i64.wrap (v.2.2.1+(1:Int)));(ZG (v.1,v.2.1,x3,v.2.2.2.1,v.2.2.2.2)))))) else (some (!(decide ((-1:Int)≥(0:Int))))))
def au (N:Nat) (ZG:Y48->Option (Bool)) (v:Y48):Option (Bool):=mK ZG v
theorem QMi (N:Nat) (s0:St->Option (Bool)) (v):(Yg (QHy) QKf 6 N Tryz.f89 [.bool] [false] [.call 1 2 131,.call 1 2 167] 0 Wx) s0 (QCN v)=au N (fun v=>s0 (QCN v)) v:=by kernel_rfl
def kP (ZJ:Y48->Option (Bool)) (x:Y7×Int×ZB):Option (Bool):=
 (ZJ (x.2.2,(List.length x.2.2:Int),(0:Int),x.1,x.2.1))
def wG (N:Nat) (x:Y7×Int×ZB):Option (Bool):=kP (FU (au N) N) x
theorem QVh (N:Nat) (x:Y7×Int×ZB):rise (QHy) QKf 6 N Tryz.f89 [Z8,fI,Z6] [.bool] [false] x=wG N x:=Eq.trans (b:=kP (fun v=>Ns (Yg (QHy) QKf 6 N Tryz.f89 [.bool] [false] [.call 1 2 131,.call 1 2 167] 0 Wx) N (QCN v)) x) (by kernel_rfl) (by rw [funext (SN QCN (QMi N) N)];rfl)
def ZL (x:Y7×Int×ZB):Option (Bool):=wG big x
def QO6:UA:=⟨[Z8,fI,Z6],[.bool],[false],fun x=>ZL x⟩
theorem QTS:GV Tryz.prog 89 QO6:=rz (E:=QHy) ⟨ZK,(XT QKS Xq),fun _ _ _=>rfl,mixed,(Xe (Xd Tryz.func131 rfl rfl (by kernel_rfl)) (Xe (Xd Tryz.func137 rfl rfl (by kernel_rfl)) (Xe (Xd Tryz.func167 rfl rfl (by kernel_rfl)) X8))),YF,YE⟩ Tryz.func89 fun _ _ h=>(QVh big _).trans h
def QKg:LT:={ live:=[(2,[0,1,7,8])],keep:=[] }
noncomputable def QHz:Aj:={ tab:=tab,fs:=[],inl:=[] }
noncomputable def QCO (v:Y61):St:={ s:=[(0,(.val ⟨Z9,v.1⟩)),(1,(.val ⟨fI,v.2.1⟩)),(7,(.val ⟨Z2,v.2.2.1⟩)),(8,(.val ⟨Z2,v.2.2.2⟩))],l:=[],k:=[],b:=4096 }
def rP (ZG:Y61->Option (Int)) (v:Y61):Option (Int):=
 (bif (decide (v.2.2.2 < v.2.2.1)) then ((Mh v.1 v.2.2.2).bind fun x1=>(bif (v.2.1==x1) then (some v.2.2.2) else (let x2:Int:=(IntKind.i64.wrap (v.2.2.2+(1:Int)));(ZG (v.1,v.2.1,v.2.2.1,x2))))) else (some (-1:Int)))
def jI (N:Nat) (ZG:Y61->Option (Int)) (v:Y61):Option (Int):=rP ZG v
theorem QMj (N:Nat) (s0:St->Option (Int)) (v):(Yg (QHz) QKg 6 N Tryz.f173 [Z2] [false] [] 0 Wx) s0 (QCO v)=jI N (fun v=>s0 (QCO v)) v:=by kernel_rfl
def kZ (ZJ:Y61->Option (Int)) (x:Y79):Option (Int):=
 (ZJ (x.1,x.2,(List.length x.1:Int),(0:Int)))
def kY (N:Nat) (x:Y79):Option (Int):=kZ (FU (jI N) N) x
theorem QVi (N:Nat) (x:Y79):rise (QHz) QKg 6 N Tryz.f173 [Z9,fI] [Z2] [false] x=kY N x:=Eq.trans (b:=kZ (fun v=>Ns (Yg (QHz) QKg 6 N Tryz.f173 [Z2] [false] [] 0 Wx) N (QCO v)) x) (by kernel_rfl) (by rw [funext (SN QCO (QMj N) N)];rfl)
def kW (x:Y79):Option (Int):=kY big x
def QO7:UA:=⟨[Z9,fI],[Z2],[false],fun x=>kW x⟩
theorem QTT:GV Tryz.prog 173 QO7:=rz (E:=QHz) ⟨ZK,Xq,fun _ _ _=>rfl,mixed,X8,YF,YE⟩ Tryz.func173 fun _ _ h=>(QVi big _).trans h
def QUZ:LT:={ live:=[],keep:=[] }
noncomputable def QNf:Aj:={ tab:=tab,fs:=[(173,QO7)],inl:=[] }
def iN (x:Y79):Option (Bool):=
 ((kW (x.1,x.2)).bind fun x1=>(some (decide (x1≥(0:Int)))))
def qx (N:Nat) (x:Y79):Option (Bool):=iN x
theorem QVj (N:Nat) (x:Y79):rise (QNf) QUZ 6 N Tryz.f138 [Z9,fI] [.bool] [false] x=iN x:=by kernel_rfl
def iJ (x:Y79):Option (Bool):=qx big x
def QO8:UA:=⟨[Z9,fI],[.bool],[false],fun x=>iJ x⟩
theorem QTU:GV Tryz.prog 138 QO8:=rz (E:=QNf) ⟨ZK,(XT QTT Xq),fun _ _ _=>rfl,mixed,X8,YF,YE⟩ Tryz.func138 fun _ _ h=>(QVj big _).trans h
def QUa:LT:={ live:=[],keep:=[] }
noncomputable def QNg:Aj:={ tab:=tab,fs:=[(138,QO8)],inl:=[] }
def QB2 (x:Int×ZB):Option (Bool):=
 ((iJ (x.2,x.1)).bind fun x1=>(some x1))
def QFb (N:Nat) (x:Int×ZB):Option (Bool):=QB2 x
theorem QVk (N:Nat) (x:Int×ZB):rise (QNg) QUa 6 N Tryz.f95 [fI,Z9] [.bool] [false] x=QB2 x:=by kernel_rfl
def j5 (x:Int×ZB):Option (Bool):=QFb big x
def QIK:UA:=⟨[fI,Z9],[.bool],[false],fun x=>j5 x⟩
theorem QKT:GV Tryz.prog 95 QIK:=rz (E:=QNg) ⟨ZK,(XT QTU Xq),fun _ _ _=>rfl,mixed,X8,YF,YE⟩ Tryz.func95 fun _ _ h=>(QVk big _).trans h
def QUb:LT:={ live:=[],keep:=[] }
noncomputable def QNh:Aj:={ tab:=tab,fs:=[(95,QIK)],inl:=[] }
def oO (x:Int):Option (Bool):=
 (let x1:ZB:=([(2:Int),(1:Int),(4:Int)]:ZB);((j5 (x,x1)).bind fun x2=>(some x2)))
def QDM (N:Nat) (x:Int):Option (Bool):=oO x
theorem QVl (N:Nat) (x:Int):rise (QNh) QUb 6 N Tryz.f91 [fI] [.bool] [false] x=oO x:=by kernel_rfl
def nA (x:Int):Option (Bool):=QDM big x
def QKG:UA:=⟨[fI],[.bool],[false],fun x=>nA x⟩
theorem QOk:GV Tryz.prog 91 QKG:=rz (E:=QNh) ⟨ZK,(XT QKT Xq),fun _ _ _=>rfl,mixed,X8,YF,YE⟩ Tryz.func91 fun _ _ h=>(QVl big _).trans h
def QUc:LT:={ live:=[],keep:=[] }
noncomputable def QNi:Aj:={ tab:=tab,fs:=[(90,QCo)],inl:=[] }
def eB (x:Y7×Int×Int×Int):Option (Bool):=
 ((ZO (x.1,x.2.2.1)).bind fun x1=>((Mh x.1.1.1 x1).bind fun x2=>(bif (decide (x.2.2.2 < (List.length x2.2.2.2.1:Int))) then ((Mh x2.2.2.2.1 x.2.2.2).bind fun x3=>((ZO (x.1,x.2.1)).bind fun x4=>(some (x3.2.1==x4)))) else (some false))))
def yP (N:Nat) (x:Y7×Int×Int×Int):Option (Bool):=eB x
theorem QVm (N:Nat) (x:Y7×Int×Int×Int):rise (QNi) QUc 6 N Tryz.f93 [Z8,Z2,Z2,Z2] [.bool] [false] x=eB x:=by kernel_rfl
def dW (x:Y7×Int×Int×Int):Option (Bool):=yP big x
def QO9:UA:=⟨[Z8,Z2,Z2,Z2],[.bool],[false],fun x=>dW x⟩
theorem QTW:GV Tryz.prog 93 QO9:=rz (E:=QNi) ⟨ZK,(XT QE8 Xq),fun _ _ _=>rfl,mixed,X8,YF,YE⟩ Tryz.func93 fun _ _ h=>(QVm big _).trans h
def QUd:LT:={ live:=[],keep:=[] }
noncomputable def QNj:Aj:={ tab:=tab,fs:=[(90,QCo),(92,QIJ),(95,QIK)],inl:=[] }
def fC (x:Y7×Int×Int×ZB):Option (Bool):=
 ((Zp (x.1,x.2.2.1)).bind fun x1=>((j5 (x1,x.2.2.2)).bind fun x2=>(bif x2 then ((ZO (x.1,x.2.2.1)).bind fun x3=>((Mh x.1.1.1 x3).bind fun x4=>((ZO (x.1,x.2.1)).bind fun x5=>(some (x4.2.1==x5))))) else (some false))))
def zQ (N:Nat) (x:Y7×Int×Int×ZB):Option (Bool):=fC x
theorem QVn (N:Nat) (x:Y7×Int×Int×ZB):rise (QNj) QUd 6 N Tryz.f94 [Z8,Z2,Z2,Z9] [.bool] [false] x=fC x:=by kernel_rfl
def aO (x:Y7×Int×Int×ZB):Option (Bool):=zQ big x
def QOA:UA:=⟨[Z8,Z2,Z2,Z9],[.bool],[false],fun x=>aO x⟩
theorem QTX:GV Tryz.prog 94 QOA:=rz (E:=QNj) ⟨ZK,(XT QE8 (XT QKS (XT QKT Xq))),fun _ _ _=>rfl,mixed,X8,YF,YE⟩ Tryz.func94 fun _ _ h=>(QVn big _).trans h
def QUe:LT:={ live:=[],keep:=[] }
noncomputable def QNk:Aj:={ tab:=tab,fs:=[(90,QCo)],inl:=[] }
def bB (x:Y7×Int×Tg):Option (Bool):=
 (bif (x.2.1==(-1:Int)) then (some true) else ((ZO (x.1,x.2.1)).bind fun x1=>(some (x1==x.2.2.2.2.1))))
def vU (N:Nat) (x:Y7×Int×Tg):Option (Bool):=bB x
theorem QVo (N:Nat) (x:Y7×Int×Tg):rise (QNk) QUe 6 N Tryz.f96 [Z8,Z2,Z0] [.bool] [false] x=bB x:=by kernel_rfl
def av (x:Y7×Int×Tg):Option (Bool):=vU big x
def QOB:UA:=⟨[Z8,Z2,Z0],[.bool],[false],fun x=>av x⟩
theorem QTY:GV Tryz.prog 96 QOB:=rz (E:=QNk) ⟨ZK,(XT QE8 Xq),fun _ _ _=>rfl,mixed,X8,YF,YE⟩ Tryz.func96 fun _ _ h=>(QVo big _).trans h
def QUf:LT:={ live:=[],keep:=[] }
noncomputable def QNl:Aj:={ tab:=tab,fs:=[(91,QKG)],inl:=[] }
def cB (x:Y7×Tg):Option (Bool):=
 (bif (x.2.2.2.1 != (-1:Int)) then (some false) else (bif (decide (x.2.2.1 > (1:Int))) then (some false) else (bif (x.2.2.1==(0:Int)) then (some true) else ((Mh x.2.2.2.2.1 (0:Int)).bind fun x1=>((Mh x.1.1.1 x1.2.1).bind fun x2=>((nA x2.1).bind fun x3=>(some x3)))))))
def xG (N:Nat) (x:Y7×Tg):Option (Bool):=cB x
theorem QVp (N:Nat) (x:Y7×Tg):rise (QNl) QUf 6 N Tryz.f97 [Z8,Z0] [.bool] [false] x=cB x:=by kernel_rfl
def bn (x:Y7×Tg):Option (Bool):=xG big x
def QOC:UA:=⟨[Z8,Z0],[.bool],[false],fun x=>bn x⟩
theorem QTZ:GV Tryz.prog 97 QOC:=rz (E:=QNl) ⟨ZK,(XT QOk Xq),fun _ _ _=>rfl,mixed,X8,YF,YE⟩ Tryz.func97 fun _ _ h=>(QVp big _).trans h
def QUg:LT:={ live:=[],keep:=[],cnd:=[7,22,41,224,244] }
noncomputable def QNm:Aj:={ tab:=tab,fs:=[(89,QO6),(90,QCo),(91,QKG),(92,QIJ),(93,QO9),(94,QOA),(95,QIK),(96,QOB),(97,QOC)],inl:=[] }
def ZI (x:Y7×ZE):Option (Bool):=
 (bif (x.2.1==(1:Int)) then ((ZL (x.1,(2:Int),([x.2.2.1]:ZB))).bind fun x1=>(some x1)) else (bif (x.2.1==(32:Int)) then ((ZL (x.1,(2:Int),([x.2.2.1]:ZB))).bind fun x2=>(some x2)) else (bif (x.2.1==(2:Int)) then ((ZL (x.1,(3:Int),([x.2.2.1]:ZB))).bind fun x3=>(some x3)) else (bif (x.2.1==(3:Int)) then ((ZL (x.1,(1:Int),([x.2.2.1]:ZB))).bind fun x4=>(some x4)) else (bif (x.2.1==(23:Int)) then ((ZL (x.1,(1:Int),([x.2.2.1]:ZB))).bind fun x5=>(some x5)) else (bif (x.2.1==(5:Int)) then ((ZO (x.1,x.2.2.1)).bind fun x6=>((ZO (x.1,x.2.2.2.1)).bind fun x7=>(some (x6==x7)))) else (bif (x.2.1==(6:Int)) then (let x8:ZB:=([x.2.2.1,x.2.2.2.1,x.2.2.2.2.1]:ZB);((ZL (x.1,(2:Int),x8)).bind fun x9=>(some x9))) else (bif (x.2.1==(7:Int)) then (let fH:ZB:=([x.2.2.1,x.2.2.2.1,x.2.2.2.2.1]:ZB);((ZL (x.1,(2:Int),fH)).bind fun mX=>(some mX))) else (bif (x.2.1==(8:Int)) then (let mh:ZB:=([x.2.2.1,x.2.2.2.1,x.2.2.2.2.1]:ZB);((ZL (x.1,(2:Int),mh)).bind fun qV=>(some qV))) else (bif (x.2.1==(9:Int)) then (let jU:ZB:=([x.2.2.1,x.2.2.2.1,x.2.2.2.2.1]:ZB);((ZL (x.1,(2:Int),jU)).bind fun jV=>(some jV))) else (bif (x.2.1==(10:Int)) then ((ZL (x.1,(1:Int),([x.2.2.1]:ZB))).bind fun wK=>(bif wK then (let xu:ZB:=([x.2.2.2.1,x.2.2.2.2.1]:ZB);((ZL (x.1,(2:Int),xu)).bind fun x18=>(some x18))) else (some false))) else (bif (x.2.1==(11:Int)) then ((ZL (x.1,(1:Int),([x.2.2.1]:ZB))).bind fun zW=>(bif zW then ((ZO (x.1,x.2.2.2.1)).bind fun zO=>((ZO (x.1,x.2.2.2.2.1)).bind fun x21=>(bif (zO==x21) then ((Zp (x.1,x.2.2.2.1)).bind fun x22=>((nA x22).bind fun x23=>(some x23))) else (some false)))) else (some false))) else (bif (x.2.1==(12:Int)) then (let x24:ZB:=([x.2.2.1,x.2.2.2.1]:ZB);((ZL (x.1,(1:Int),x24)).bind fun x25=>(some x25))) else (bif (x.2.1==(13:Int)) then ((dW (x.1,x.2.2.1,x.2.2.2.1,x.2.2.2.2.1)).bind fun x26=>(some x26)) else (bif (x.2.1==(14:Int)) then ((dW (x.1,x.2.2.2.2.1,x.2.2.1,x.2.2.2.1)).bind fun x27=>(some x27)) else (bif (x.2.1==(15:Int)) then ((ZL (x.1,(4:Int),([x.2.2.1]:ZB))).bind fun x28=>(some x28)) else (bif (x.2.1==(16:Int)) then (let x29:ZB:=([(4:Int)]:ZB);((aO (x.1,x.2.2.1,x.2.2.2.1,x29)).bind fun x30=>(some x30))) else (bif (x.2.1==(17:Int)) then (let x31:ZB:=([(4:Int)]:ZB);((aO (x.1,x.2.2.2.1,x.2.2.1,x31)).bind fun x32=>(some x32))) else (bif (x.2.1==(18:Int)) then ((ZL (x.1,(7:Int),([x.2.2.1]:ZB))).bind fun x33=>(bif x33 then (let x34:ZB:=([x.2.2.2.1]:ZB);((ZL (x.1,(2:Int),x34)).bind fun x35=>(some x35))) else (some false))) else (bif (x.2.1==(19:Int)) then (let x36:ZB:=([(7:Int),(6:Int)]:ZB);((aO (x.1,x.2.2.1,x.2.2.2.1,x36)).bind fun x37=>(bif x37 then (let x38:ZB:=([x.2.2.2.2.1]:ZB);((ZL (x.1,(2:Int),x38)).bind fun x39=>(some x39))) else (some false)))) else (bif (x.2.1==(20:Int)) then (let x40:ZB:=([(7:Int),(6:Int)]:ZB);((aO (x.1,x.2.2.2.2.1,x.2.2.1,x40)).bind fun x41=>(bif x41 then (let x42:ZB:=([x.2.2.2.1]:ZB);((ZL (x.1,(2:Int),x42)).bind fun x43=>(some x43))) else (some false)))) else (bif (x.2.1==(21:Int)) then ((ZL (x.1,(2:Int),([x.2.2.1]:ZB))).bind fun x44=>(bif x44 then ((Zp (x.1,x.2.2.2.1)).bind fun x45=>(let x46:ZB:=([(3:Int),(7:Int),(6:Int)]:ZB);((j5 (x45,x46)).bind fun x47=>(some x47)))) else (some false))) else (bif (x.2.1==(25:Int)) then ((Mh x.1.1.2.2.1 x.2.2.2.1).bind fun x48=>((av (x.1,x.2.2.1,x48)).bind fun x49=>(some x49))) else (bif (x.2.1==(26:Int)) then ((Mh x.1.1.2.2.1 x.2.2.1).bind fun x50=>((bn (x.1,x50)).bind fun x51=>(some x51))) else (bif (x.2.1==(27:Int)) then ((Mh x.1.1.2.2.1 x.2.2.1).bind fun x52=>((bn (x.1,x52)).bind fun x53=>(some x53))) else (bif (x.2.1==(28:Int)) then ((Zp (x.1,x.2.2.1)).bind fun x54=>(let x55:ZB:=([(2:Int),(1:Int),(3:Int)]:ZB);((j5 (x54,x55)).bind fun x56=>(some x56)))) else (bif (x.2.1==(29:Int)) then ((ZL (x.1,(1:Int),([x.2.2.1]:ZB))).bind fun x57=>(bif x57 then (let x58:ZB:=([x.2.2.2.1]:ZB);((ZL (x.1,(2:Int),x58)).bind fun x59=>(some x59))) else (some false))) else (bif (x.2.1==(33:Int)) then ((ZL (x.1,(1:Int),([x.2.2.1]:ZB))).bind fun x60=>(bif x60 then (let x61:ZB:=([x.2.2.2.1]:ZB);((ZL (x.1,(2:Int),x61)).bind fun x62=>(some x62))) else (some false))) else (bif (x.2.1==(34:Int)) then ((av (x.1,x.2.2.1,x.1.2.1)).bind fun x63=>(some x63)) else (some true))))))))))))))))))))))))))))))
def QAY (N:Nat) (x:Y7×ZE):Option (Bool):=ZI x
theorem QVq (N:Nat) (x:Y7×ZE):rise (QNm) QUg 6 N Tryz.f49 [Z8,Z3] [.bool] [false] x=ZI x:=by kernel_rfl
def nC (x:Y7×ZE):Option (Bool):=QAY big x
def QOD:UA:=⟨[Z8,Z3],[.bool],[false],fun x=>nC x⟩
theorem QTa:GV Tryz.prog 49 QOD:=rz (E:=QNm) ⟨ZK,(XT QTS (XT QE8 (XT QOk (XT QKS (XT QTW (XT QTX (XT QKT (XT QTY (XT QTZ Xq))))))))),fun _ _ _=>rfl,mixed,X8,YF,YE⟩ Tryz.func49 fun _ _ h=>(QVq big _).trans h
def QKh:LT:={ live:=[(3,[1,4,17,18,19])],keep:=[] }
noncomputable def QI0:Aj:={ tab:=tab,fs:=[(48,QO5),(49,QOD),(121,QO4)],inl:=[] }
noncomputable def QCP (v:Y49):St:={ s:=[(1,(.loc 0 [])),(4,(.row 1)),(17,(.val ⟨mP,v.1⟩)),(18,(.val ⟨Z2,v.2.1⟩)),(19,(.val ⟨Z2,v.2.2.1⟩))],l:=[(0,.var Z8 (.val ⟨Z8,v.2.2.2.1⟩)),(1,.row .bool v.2.2.2.2)],k:=[],b:=4096 }
def dQ (ZG:Y49->Option (Int×Int)) (v:Y49):Option (Int×Int):=
 (bif (decide (v.2.2.1 < v.2.1)) then ((Mh v.1 v.2.2.1).bind fun x2=>((gW (v.2.2.2.1,x2)).bind fun x3=>(bif (!x3) then (some (v.2.2.1,(16:Int))) else (bif (decide (0<=v.2.2.1)&&decide (v.2.2.1 < (List.length v.2.2.2.2:Int))) then ((nth v.2.2.2.2 (Int.toNat v.2.2.1)).bind fun x4=>(bif (!x4) then (some (v.2.2.1,(6:Int))) else ((nC (v.2.2.2.1,x2)).bind fun x5=>(bif (!x5) then (some (v.2.2.1,(30:Int))) else (let x6:Int:=(IntKind.i64.wrap (v.2.2.1+(1:Int)));(ZG (v.1,v.2.1,x6,v.2.2.2.1,v.2.2.2.2))))))) else none)))) else (some ((0:Int),(0:Int))))
def Za (N:Nat) (ZG:Y49->Option (Int×Int)) (v:Y49):Option (Int×Int):=dQ ZG v
theorem QMk (N:Nat) (s0:St->Option (Int×Int)) (v):(Yg (QI0) QKh 6 N Tryz.f79 [Z2,Z2] [false,false] [] 0 Wx) s0 (QCP v)=Za N (fun v=>s0 (QCP v)) v:=by kernel_rfl
def bR (ZJ:Y49->Option (Int×Int)) (x:Y7):Option (Int×Int):=
 ((vG x.2.1.2.2.2.2.1).bind fun x1=>(ZJ (x.2.1.2.2.2.2.1,(List.length x.2.1.2.2.2.2.1:Int),(0:Int),x,x1.1)))
def mV (N:Nat) (x:Y7):Option (Int×Int):=bR (FU (Za N) N) x
theorem QVr (N:Nat) (x:Y7):rise (QI0) QKh 6 N Tryz.f79 [Z8] [Z2,Z2] [false,false] x=mV N x:=Eq.trans (b:=bR (fun v=>Ns (Yg (QI0) QKh 6 N Tryz.f79 [Z2,Z2] [false,false] [] 0 Wx) N (QCP v)) x) (by kernel_rfl) (by rw [funext (SN QCP (QMk N) N)];rfl)
def aC (x:Y7):Option (Int×Int):=mV big x
def QOE:UA:=⟨[Z8],[Z2,Z2],[false,false],fun x=>aC x⟩
theorem QTb:GV Tryz.prog 79 QOE:=rz (E:=QI0) ⟨ZK,(XT QTR (XT QTa (XT QTQ Xq))),fun _ _ _=>rfl,mixed,X8,YF,YE⟩ Tryz.func79 fun _ _ h=>(QVr big _).trans h
def QUh:LT:={ live:=[],keep:=[] }
noncomputable def QNn:Aj:={ tab:=tab,fs:=[(90,QCo)],inl:=[] }
def fE (x:Y7×ZE):Option (ZB):=
 (bif (x.2.1 != (24:Int)) then (some ([]:List Int)) else ((ZO (x.1,x.2.2.1)).bind fun x1=>(some ([x1]:ZB))))
def zS (N:Nat) (x:Y7×ZE):Option (ZB):=fE x
theorem QVs (N:Nat) (x:Y7×ZE):rise (QNn) QUh 6 N Tryz.f123 [Z8,Z3] [Z6] [true] x=fE x:=by kernel_rfl
def eX (x:Y7×ZE):Option (ZB):=zS big x
def QKH:UA:=⟨[Z8,Z3],[Z6],[true],fun x=>eX x⟩
theorem QOl:GV Tryz.prog 123 QKH:=rz (E:=QNn) ⟨ZK,(XT QE8 Xq),fun _ _ _=>rfl,mixed,X8,YF,YE⟩ Tryz.func123 fun _ _ h=>(QVs big _).trans h
def QKi:LT:={ live:=[(3,[0,5,8,9,10])],keep:=[] }
noncomputable def QI1:Aj:={ tab:=tab,fs:=[],inl:=[] }
noncomputable def QCQ (v:Y50):St:={ s:=[(0,(.val ⟨Z6,v.1⟩)),(5,(.val ⟨Z2,v.2.1⟩)),(8,(.val ⟨Z6,v.2.2.1⟩)),(9,(.val ⟨Z2,v.2.2.2.1⟩)),(10,(.val ⟨Z2,v.2.2.2.2⟩))],l:=[],k:=[],b:=4096 }
def tN (ZG:Y50->Option (Int)) (v:Y50):Option (Int):=
 (bif (decide (v.2.2.2.2 < v.2.2.2.1)) then ((Mh v.2.2.1 v.2.2.2.2).bind fun x1=>((Mh v.1 x1).bind fun x2=>(let x3:Int:=(IntKind.i64.wrap (v.2.1+x2));(let x4:Int:=(IntKind.i64.wrap (v.2.2.2.2+(1:Int)));(ZG (v.1,x3,v.2.2.1,v.2.2.2.1,x4)))))) else (some v.2.1))
def fP (N:Nat) (ZG:Y50->Option (Int)) (v:Y50):Option (Int):=tN ZG v
theorem QMl (N:Nat) (s0:St->Option (Int)) (v):(Yg (QI1) QKi 6 N Tryz.f122 [Z2] [false] [] 0 Wx) s0 (QCQ v)=fP N (fun v=>s0 (QCQ v)) v:=by kernel_rfl
def rR (ZJ:Y50->Option (Int)) (x:ZB×ZB):Option (Int):=
 (ZJ (x.1,(0:Int),x.2,(List.length x.2:Int),(0:Int)))
def QAZ (N:Nat) (x:ZB×ZB):Option (Int):=rR (FU (fP N) N) x
theorem QVt (N:Nat) (x:ZB×ZB):rise (QI1) QKi 6 N Tryz.f122 [Z6,Z6] [Z2] [false] x=QAZ N x:=Eq.trans (b:=rR (fun v=>Ns (Yg (QI1) QKi 6 N Tryz.f122 [Z2] [false] [] 0 Wx) N (QCQ v)) x) (by kernel_rfl) (by rw [funext (SN QCQ (QMl N) N)];rfl)
def rA (x:ZB×ZB):Option (Int):=QAZ big x
def QOF:UA:=⟨[Z6,Z6],[Z2],[false],fun x=>rA x⟩
theorem QTc:GV Tryz.prog 122 QOF:=rz (E:=QI1) ⟨ZK,Xq,fun _ _ _=>rfl,mixed,X8,YF,YE⟩ Tryz.func122 fun _ _ h=>(QVt big _).trans h
def QKj:LT:={ live:=[(6,[7,31,32,33])],keep:=[] }
noncomputable def QI2:Aj:={ tab:=tab,fs:=[(88,QKF)],inl:=[] }
noncomputable def QCR (v:Y63):St:={ s:=[(7,(.row 0)),(31,(.val ⟨Z7,v.1⟩)),(32,(.val ⟨Z2,v.2.1⟩)),(33,(.val ⟨Z2,v.2.2.1⟩))],l:=[(0,.row Z2 v.2.2.2)],k:=[],b:=4096 }
def jg (ZG:Y63->Option (ZB)) (v:Y63):Option (ZB):=
 (bif (decide (v.2.2.1 < v.2.1)) then ((Mh v.1 v.2.2.1).bind fun x5=>(bif (Nat.ble 1 1&&Nat.ble (List.length v.2.2.2+List.length ([x5.2.1]:ZB)) lim) then (let x6:ZB:=(List.append v.2.2.2 ([x5.2.1]:ZB));(let x7:Int:=(IntKind.i64.wrap (v.2.2.1+(1:Int)));(ZG (v.1,v.2.1,x7,x6)))) else none)) else (some v.2.2.2))
def aF (N:Nat) (ZG:Y63->Option (ZB)) (v:Y63):Option (ZB):=jg ZG v
theorem QMm (N:Nat) (s0:St->Option (ZB)) (v):(Yg (QI2) QKj 6 N Tryz.f124 [Z6] [true] [] 0 Wx) s0 (QCR v)=aF N (fun v=>s0 (QCR v)) v:=by kernel_rfl
def iD (ZJ:Y63->Option (ZB)) (x:Y7×ZE):Option (ZB):=
 ((pU x.2).bind fun x1=>(bif (!x1.2) then (some ([]:List Int)) else ((Mh x.1.1.2.2.1 x1.1).bind fun x2=>((Mh x.1.1.2.2.1 x1.1).bind fun x3=>(bif (decide (0<=x3.2.1)&&decide (x3.2.1<=(List.length x2.2.2.2.1:Int))) then (let x4:Y6:=(List.take (Int.toNat x3.2.1) x2.2.2.2.1);(ZJ (x4,(List.length x4:Int),(0:Int),([]:List Int)))) else none)))))
def uD (N:Nat) (x:Y7×ZE):Option (ZB):=iD (FU (aF N) N) x
theorem QVu (N:Nat) (x:Y7×ZE):rise (QI2) QKj 6 N Tryz.f124 [Z8,Z3] [Z6] [true] x=uD N x:=Eq.trans (b:=iD (fun v=>Ns (Yg (QI2) QKj 6 N Tryz.f124 [Z6] [true] [] 0 Wx) N (QCR v)) x) (by kernel_rfl) (by rw [funext (SN QCR (QMm N) N)];rfl)
def gX (x:Y7×ZE):Option (ZB):=uD big x
def QKI:UA:=⟨[Z8,Z3],[Z6],[true],fun x=>gX x⟩
theorem QOm:GV Tryz.prog 124 QKI:=rz (E:=QI2) ⟨ZK,(XT QOj Xq),fun _ _ _=>rfl,mixed,X8,YF,YE⟩ Tryz.func124 fun _ _ h=>(QVu big _).trans h
def QUi:LT:={ live:=[],keep:=[] }
noncomputable def QNo:Aj:={ tab:=tab,fs:=[],inl:=[] }
def oQ (x:Int):Option (Bool):=
 (bif (decide (x < (-4096:Int))) then (some true) else (some (decide (x > (4096:Int)))))
def QDN (N:Nat) (x:Int):Option (Bool):=oQ x
theorem QVv (N:Nat) (x:Int):rise (QNo) QUi 6 N Tryz.f159 [Z2] [.bool] [false] x=oQ x:=by kernel_rfl
def sj (x:Int):Option (Bool):=QDN big x
def QOG:UA:=⟨[Z2],[.bool],[false],fun x=>sj x⟩
theorem QTe:GV Tryz.prog 159 QOG:=rz (E:=QNo) ⟨ZK,Xq,fun _ _ _=>rfl,mixed,X8,YF,YE⟩ Tryz.func159 fun _ _ h=>(QVv big _).trans h
def QUj:LT:={ live:=[],keep:=[] }
noncomputable def QNp:Aj:={ tab:=tab,fs:=[],inl:=[] }
def qG (x:Int×Int×Int):Option (Bool):=
 (let x1:Int:=(IntKind.i64.wrap (x.2.2 - (1:Int)));(bif (x.2.1==x1) then (some (x.1==(0:Int))) else (bif (decide (x.1≥(0:Int))) then (some (decide (x.1<=(4096:Int)))) else (some false))))
def QDv (N:Nat) (x:Int×Int×Int):Option (Bool):=qG x
theorem QVw (N:Nat) (x:Int×Int×Int):rise (QNp) QUj 6 N Tryz.f161 [Z2,Z2,Z2] [.bool] [false] x=qG x:=by kernel_rfl
def vH (x:Int×Int×Int):Option (Bool):=QDv big x
def QOH:UA:=⟨[Z2,Z2,Z2],[.bool],[false],fun x=>vH x⟩
theorem QTf:GV Tryz.prog 161 QOH:=rz (E:=QNp) ⟨ZK,Xq,fun _ _ _=>rfl,mixed,X8,YF,YE⟩ Tryz.func161 fun _ _ h=>(QVw big _).trans h
def QAG:LT:={ live:=[],keep:=[(24,[2,3,4,5,22]),(35,[2,3,4,5,7,8])],rf:=[(36,[2,3,4,5,7,8],[4,5,7])] }
noncomputable def QBm (mk:(α:Type)->Nat->α->List α):Aj:={ tab:=tab,fs:=[(78,QJF),(159,QOG),(161,QOH),(189,QKN)],inl:=[(131,Tryz.f131,QIP),(160,Tryz.f160,QKc),(167,Tryz.f167,QIO),(188,Tryz.f188,QKb)],rep:=mk }
noncomputable def QCS (v:Y24):St:={ s:=[(0,(.yl 0)),(1,(.loc 10 [])),(3,(.row 11)),(4,(.row 12)),(5,(.val ⟨Z2,v.1⟩)),(30,(.val ⟨Z6,v.2.1⟩)),(31,(.val ⟨Z2,v.2.2.1⟩)),(32,(.val ⟨Z2,v.2.2.2.1⟩))],l:=[(0,.lp (.pair .any (.pair .any (.pair (.loc 1 []) (.pair (.loc 2 []) (.pair (.loc 3 []) (.pair (.loc 5 []) (.pair .any (.pair (.loc 6 []) (.pair (.loc 8 []) .unit))))))))) (Y3 Tryz.f125 10 QAG .ready none)),(1,.var mP (.val ⟨mP,v.2.2.2.2.1⟩)),(2,.var Z6 (.val ⟨Z6,v.2.2.2.2.2.1⟩)),(3,.var Z6 (.row 4)),(4,.row Z2 v.2.2.2.2.2.2.1),(5,.var Z2 (.val ⟨Z2,v.2.2.2.2.2.2.2.1⟩)),(6,.var Z6 (.row 7)),(7,.row Z2 v.2.2.2.2.2.2.2.2.1),(8,.var Z17 (.row 9)),(9,.row .bool v.2.2.2.2.2.2.2.2.2.1),(10,.var mP (.val ⟨mP,v.2.2.2.2.2.2.2.2.2.2.1⟩)),(11,.row .bool v.2.2.2.2.2.2.2.2.2.2.2.1),(12,.row Z2 v.2.2.2.2.2.2.2.2.2.2.2.2)],k:=[(0,[(0,(.yl 0))]),(4096,[(4,(.loc 3 [])),(5,(.loc 5 [])),(7,(.loc 6 []))])],b:=33165312 }
noncomputable def zB (v:Y27):St:={ s:=[(0,(.yl 0)),(1,(.loc 10 [])),(3,(.row 11)),(4,(.row 12))],l:=[(0,.lp (.pair .any (.pair .any (.pair (.loc 1 []) (.pair (.loc 2 []) (.pair (.loc 3 []) (.pair (.loc 5 []) (.pair .any (.pair (.loc 6 []) (.pair (.loc 8 []) .unit))))))))) (Y3 Tryz.f125 10 QAG .ready none)),(1,.var mP (.val ⟨mP,v.1⟩)),(2,.var Z6 (.val ⟨Z6,v.2.1⟩)),(3,.var Z6 (.row 4)),(4,.row Z2 v.2.2.1),(5,.var Z2 (.val ⟨Z2,v.2.2.2.1⟩)),(6,.var Z6 (.row 7)),(7,.row Z2 v.2.2.2.2.1),(8,.var Z17 (.row 9)),(9,.row .bool v.2.2.2.2.2.1),(10,.var mP (.val ⟨mP,v.2.2.2.2.2.2.1⟩)),(11,.row .bool v.2.2.2.2.2.2.2.1),(12,.row Z2 v.2.2.2.2.2.2.2.2)],k:=[(0,[(0,(.yl 0))]),(4096,[(4,(.loc 3 [])),(5,(.loc 5 [])),(7,(.loc 6 []))])],b:=33165312 }
noncomputable def uS (v:Y29):St:={ s:=[(0,(.val ⟨Z6,v.1⟩)),(1,(.Dn 159 .unit)),(7,(.val ⟨Z2,v.2.1⟩)),(8,(.val ⟨Z2,v.2.2.1⟩))],l:=[(0,.var mP (.val ⟨mP,v.2.2.2.1⟩)),(1,.var Z6 (.val ⟨Z6,v.2.2.2.2.1⟩)),(2,.var Z6 (.row 3)),(3,.row Z2 v.2.2.2.2.2.1),(4,.var Z2 (.val ⟨Z2,v.2.2.2.2.2.2.1⟩))],k:=[(16879616,[]),(4096,[(2,(.loc 0 [])),(3,(.loc 1 [])),(4,(.loc 2 [])),(5,(.loc 4 [])),(22,(.val ⟨.bool,v.2.2.2.2.2.2.2⟩))])],b:=69138939904 }
def dJ (mk:(α:Type)->Nat->α->List α) (ZG:Y29->Option lD) (ZH:Y27->Option lD) (Zo:Y24->Option lD) (v:Y24):Option lD:=
 (bif (decide (v.2.2.2.1 < v.2.2.1)) then ((Mh v.2.1 v.2.2.2.1).bind fun jU=>(bif (decide (0<=v.1)&&decide (v.1 < (List.length v.2.2.2.2.2.2.2.2.1:Int))) then ((nth v.2.2.2.2.2.2.2.2.1 (Int.toNat v.1)).bind fun jV=>((Mh v.2.2.2.2.2.1 v.1).bind fun wK=>(let xu:Int:=(IntKind.i64.wrap (jV+wK));((vH (xu,jU,(List.length v.2.2.2.2.1:Int))).bind fun x18=>(bif (!x18) then (some (([]:List Int),(36:Int))) else (bif (decide (0<=jU)&&decide (jU < (List.length v.2.2.2.2.2.2.2.2.2.1:Int))) then ((nth v.2.2.2.2.2.2.2.2.2.1 (Int.toNat jU)).bind fun zW=>(bif zW then (bif (decide (0<=jU)&&decide (jU < (List.length v.2.2.2.2.2.2.2.2.1:Int))) then ((nth v.2.2.2.2.2.2.2.2.1 (Int.toNat jU)).bind fun zO=>(bif (zO != xu) then (some (([]:List Int),(36:Int))) else (bif (decide (0<=jU)&&decide (jU < (List.length v.2.2.2.2.2.2.2.2.2.1:Int))) then (let x21:oq:=(List.set v.2.2.2.2.2.2.2.2.2.1 (Int.toNat jU) true);(bif (decide (0<=jU)&&decide (jU < (List.length v.2.2.2.2.2.2.2.2.1:Int))) then (let x22:ZB:=(List.set v.2.2.2.2.2.2.2.2.1 (Int.toNat jU) xu);(bif (decide (0<=jU)&&decide (jU < (List.length v.2.2.2.2.2.2.2.2.2.2.2.1:Int))) then ((nth v.2.2.2.2.2.2.2.2.2.2.2.1 (Int.toNat jU)).bind fun x23=>(bif (!x23) then (bif (decide (0<=jU)&&decide (jU < (List.length v.2.2.2.2.2.2.2.2.2.2.2.1:Int))) then (let x24:oq:=(List.set v.2.2.2.2.2.2.2.2.2.2.2.1 (Int.toNat jU) true);(bif (Nat.ble 1 1&&Nat.ble (List.length v.2.2.2.2.2.2.2.2.2.2.2.2+List.length ([jU]:ZB)) lim) then (let x25:ZB:=(List.append v.2.2.2.2.2.2.2.2.2.2.2.2 ([jU]:ZB));(let x26:Int:=(IntKind.i64.wrap (v.2.2.2.1+(1:Int)));(Zo (v.1,v.2.1,v.2.2.1,x26,v.2.2.2.2.1,v.2.2.2.2.2.1,v.2.2.2.2.2.2.1,v.2.2.2.2.2.2.2.1,x22,x21,v.2.2.2.2.2.2.2.2.2.2.1,x24,x25)))) else none)) else none) else (let x27:Int:=(IntKind.i64.wrap (v.2.2.2.1+(1:Int)));(Zo (v.1,v.2.1,v.2.2.1,x27,v.2.2.2.2.1,v.2.2.2.2.2.1,v.2.2.2.2.2.2.1,v.2.2.2.2.2.2.2.1,x22,x21,v.2.2.2.2.2.2.2.2.2.2.1,v.2.2.2.2.2.2.2.2.2.2.2.1,v.2.2.2.2.2.2.2.2.2.2.2.2))))) else none)) else none)) else none))) else none) else (bif (decide (0<=jU)&&decide (jU < (List.length v.2.2.2.2.2.2.2.2.2.1:Int))) then (let x28:oq:=(List.set v.2.2.2.2.2.2.2.2.2.1 (Int.toNat jU) true);(bif (decide (0<=jU)&&decide (jU < (List.length v.2.2.2.2.2.2.2.2.1:Int))) then (let x29:ZB:=(List.set v.2.2.2.2.2.2.2.2.1 (Int.toNat jU) xu);(bif (decide (0<=jU)&&decide (jU < (List.length v.2.2.2.2.2.2.2.2.2.2.2.1:Int))) then ((nth v.2.2.2.2.2.2.2.2.2.2.2.1 (Int.toNat jU)).bind fun x30=>(bif (!x30) then (bif (decide (0<=jU)&&decide (jU < (List.length v.2.2.2.2.2.2.2.2.2.2.2.1:Int))) then (let x31:oq:=(List.set v.2.2.2.2.2.2.2.2.2.2.2.1 (Int.toNat jU) true);(bif (Nat.ble 1 1&&Nat.ble (List.length v.2.2.2.2.2.2.2.2.2.2.2.2+List.length ([jU]:ZB)) lim) then (let x32:ZB:=(List.append v.2.2.2.2.2.2.2.2.2.2.2.2 ([jU]:ZB));(let x33:Int:=(IntKind.i64.wrap (v.2.2.2.1+(1:Int)));(Zo (v.1,v.2.1,v.2.2.1,x33,v.2.2.2.2.1,v.2.2.2.2.2.1,v.2.2.2.2.2.2.1,v.2.2.2.2.2.2.2.1,x29,x28,v.2.2.2.2.2.2.2.2.2.2.1,x31,x32)))) else none)) else none) else (let x34:Int:=(IntKind.i64.wrap (v.2.2.2.1+(1:Int)));(Zo (v.1,v.2.1,v.2.2.1,x34,v.2.2.2.2.1,v.2.2.2.2.2.1,v.2.2.2.2.2.2.1,v.2.2.2.2.2.2.2.1,x29,x28,v.2.2.2.2.2.2.2.2.2.2.1,v.2.2.2.2.2.2.2.2.2.2.2.1,v.2.2.2.2.2.2.2.2.2.2.2.2))))) else none)) else none)) else none))) else none)))))) else none)) else (ZH (v.2.2.2.2.1,v.2.2.2.2.2.1,v.2.2.2.2.2.2.1,v.2.2.2.2.2.2.2.1,v.2.2.2.2.2.2.2.2.1,v.2.2.2.2.2.2.2.2.2.1,v.2.2.2.2.2.2.2.2.2.2.1,v.2.2.2.2.2.2.2.2.2.2.2.1,v.2.2.2.2.2.2.2.2.2.2.2.2)))
def nN (mk:(α:Type)->Nat->α->List α) (N:Nat) (ZG:Y29->Option lD) (ZH:Y27->Option lD) (Zo:Y24->Option lD) (v:Y24):Option lD:=dJ mk ZG ZH Zo v
theorem QMp (mk:(α:Type)->Nat->α->List α) (N:Nat) (s0:St->Option lD) (s1:St->Option lD) (s2:St->Option lD) (v):(Yg (QBm mk) QAG 6 N Tryz.f125 [Z6,Z2] [true,false] [.rng 10 188] 1 (YC s1 Wx)) s2 (QCS v)=nN mk N (fun v=>s0 (uS v)) (fun v=>s1 (zB v)) (fun v=>s2 (QCS v)) v:=by kernel_rfl
def ng (mk:(α:Type)->Nat->α->List α) (yO:Y24->Option lD) (ZG:Y29->Option lD) (ZH:Y27->Option lD) (v:Y27):Option lD:=
 (bif (decide ((List.length v.2.2.2.2.2.2.2.2:Int) > (0:Int))) then (let fH:Int:=(IntKind.i64.wrap ((List.length v.2.2.2.2.2.2.2.2:Int) - (1:Int)));(bif (decide (0<=fH)&&decide (fH < (List.length v.2.2.2.2.2.2.2.2:Int))) then ((nth v.2.2.2.2.2.2.2.2 (Int.toNat fH)).bind fun mX=>(let mh:Int:=(IntKind.i64.wrap ((List.length v.2.2.2.2.2.2.2.2:Int) - (1:Int)));(bif (decide (0<=mh)&&decide (mh<=((List.length v.2.2.2.2.2.2.2.2):Int))) then ((j6 (v.2.2.2.2.2.2.1,mX)).bind fun qV=>(yO (mX,qV,(List.length qV:Int),(0:Int),v.1,v.2.1,v.2.2.1,v.2.2.2.1,v.2.2.2.2.1,v.2.2.2.2.2.1,v.2.2.2.2.2.2.1,v.2.2.2.2.2.2.2.1,(List.take (Int.toNat mh) v.2.2.2.2.2.2.2.2)))) else none))) else none)) else (some (v.2.2.2.2.1,(0:Int))))
def fQ (mk:(α:Type)->Nat->α->List α) (N:Nat) (ZG:Y29->Option lD) (ZH:Y27->Option lD) (v:Y27):Option lD:=ng mk (FU (nN mk N ZG ZH) N) ZG ZH v
theorem QMo (mk:(α:Type)->Nat->α->List α) (N:Nat) (s0:St->Option lD) (s1:St->Option lD) (v):(Yg (QBm mk) QAG 6 N Tryz.f125 [Z6,Z2] [true,false] [.rng 10 188] 0 Wx) s1 (zB v)=fQ mk N (fun v=>s0 (uS v)) (fun v=>s1 (zB v)) v:=Eq.trans (b:=ng mk (fun v=>Ns (Yg (QBm mk) QAG 6 N Tryz.f125 [Z6,Z2] [true,false] [.rng 10 188] 1 (YC s1 Wx)) N (QCS v)) (fun v=>s0 (uS v)) (fun v=>s1 (zB v)) v) (by kernel_rfl) (by rw [funext (SN QCS (QMp mk N s0 s1) N)];rfl)
def gJ (mk:(α:Type)->Nat->α->List α) (Zv:Y27->Option lD) (ZG:Y29->Option lD) (v:Y29):Option lD:=
 (bif (decide (v.2.2.1 < v.2.1)) then ((Mh v.1 v.2.2.1).bind fun x2=>((sj x2).bind fun x3=>(bif x3 then (bif v.2.2.2.2.2.2.2 then (some (([]:List Int),(2:Int))) else (bif (decide (v.2.2.1≥(0:Int))) then (some (([]:List Int),(2:Int))) else (bif (decide (0<=(List.length v.2.2.2.1:Int))&&(decide ((List.length v.2.2.2.1:Int)<=(List.length v.2.2.2.1:Int))&&(decide ((List.length v.2.2.2.1:Int)<=68719476736)&&true))) then (let x4:ZB:=(mk Int (Int.toNat (List.length v.2.2.2.1:Int)) (0:Int));(bif (decide (0<=(List.length v.2.2.2.1:Int))&&(decide ((List.length v.2.2.2.1:Int)<=(List.length v.2.2.2.1:Int))&&(decide ((List.length v.2.2.2.1:Int)<=68719476736)&&true))) then (let x5:oq:=(mk Bool (Int.toNat (List.length v.2.2.2.1:Int)) false);(bif (decide (0<=(0:Int))&&decide ((0:Int) < (List.length x5:Int))) then (let x6:oq:=(List.set x5 (Int.toNat (0:Int)) true);(bif (decide (0<=(List.length v.2.2.2.1:Int))&&(decide ((List.length v.2.2.2.1:Int)<=(List.length v.2.2.2.1:Int))&&(decide ((List.length v.2.2.2.1:Int)<=68719476736)&&true))) then (let x7:oq:=(mk Bool (Int.toNat (List.length v.2.2.2.1:Int)) false);(bif (decide (0<=(0:Int))&&decide ((0:Int) < (List.length x7:Int))) then (let x8:oq:=(List.set x7 (Int.toNat (0:Int)) true);(let x9:ZB:=([(0:Int)]:ZB);(Zv (v.2.2.2.1,v.2.2.2.2.1,v.2.2.2.2.2.1,v.2.2.2.2.2.2.1,x4,x6,v.2.2.2.1,x8,x9)))) else none)) else none)) else none)) else none)) else none))) else (let x35:Int:=(IntKind.i64.wrap (v.2.2.1+(1:Int)));(ZG (v.1,v.2.1,x35,v.2.2.2.1,v.2.2.2.2.1,v.2.2.2.2.2.1,v.2.2.2.2.2.2.1,v.2.2.2.2.2.2.2)))))) else (bif v.2.2.2.2.2.2.2 then (some (([]:List Int),(2:Int))) else (bif (decide (0<=(List.length v.2.2.2.1:Int))&&(decide ((List.length v.2.2.2.1:Int)<=(List.length v.2.2.2.1:Int))&&(decide ((List.length v.2.2.2.1:Int)<=68719476736)&&true))) then (let x36:ZB:=(mk Int (Int.toNat (List.length v.2.2.2.1:Int)) (0:Int));(bif (decide (0<=(List.length v.2.2.2.1:Int))&&(decide ((List.length v.2.2.2.1:Int)<=(List.length v.2.2.2.1:Int))&&(decide ((List.length v.2.2.2.1:Int)<=68719476736)&&true))) then (let x37:oq:=(mk Bool (Int.toNat (List.length v.2.2.2.1:Int)) false);(bif (decide (0<=(0:Int))&&decide ((0:Int) < (List.length x37:Int))) then (let x38:oq:=(List.set x37 (Int.toNat (0:Int)) true);(bif (decide (0<=(List.length v.2.2.2.1:Int))&&(decide ((List.length v.2.2.2.1:Int)<=(List.length v.2.2.2.1:Int))&&(decide ((List.length v.2.2.2.1:Int)<=68719476736)&&true))) then (let x39:oq:=(mk Bool (Int.toNat (List.length v.2.2.2.1:Int)) false);(bif (decide (0<=(0:Int))&&decide ((0:Int) < (List.length x39:Int))) then (let x40:oq:=(List.set x39 (Int.toNat (0:Int)) true);(let x41:ZB:=([(0:Int)]:ZB);(Zv (v.2.2.2.1,v.2.2.2.2.1,v.2.2.2.2.2.1,v.2.2.2.2.2.2.1,x36,x38,v.2.2.2.1,x40,x41)))) else none)) else none)) else none)) else none)) else none)))
def jX (mk:(α:Type)->Nat->α->List α) (N:Nat) (ZG:Y29->Option lD) (v:Y29):Option lD:=gJ mk (FU (fQ mk N ZG) N) ZG v
theorem QMn (mk:(α:Type)->Nat->α->List α) (N:Nat) (s0:St->Option lD) (v):(Yg (QBm mk) QAG 6 N Tryz.f125 [Z6,Z2] [true,false] [.call 4 7 131,.call 1 2 167] 0 Wx) s0 (uS v)=jX mk N (fun v=>s0 (uS v)) v:=Eq.trans (b:=gJ mk (fun v=>Ns (Yg (QBm mk) QAG 6 N Tryz.f125 [Z6,Z2] [true,false] [.rng 10 188] 0 Wx) N (zB v)) (fun v=>s0 (uS v)) v) (by kernel_rfl) (by rw [funext (SN zB (QMo mk N s0) N)];rfl)
def rT (mk:(α:Type)->Nat->α->List α) (ZJ:Y29->Option lD) (x:Y8×ZB):Option lD:=
 ((jW x.1).bind fun x1=>(bif (x1 != (0:Int)) then (some (([]:List Int),x1)) else (bif ((List.length x.2:Int) != (List.length x.1:Int)) then (some (([]:List Int),(2:Int))) else (ZJ (x.2,(List.length x.2:Int),(0:Int),x.1,x.2,([]:List Int),(0:Int),false)))))
def QAb (mk:(α:Type)->Nat->α->List α) (N:Nat) (x:Y8×ZB):Option lD:=rT mk (FU (jX mk N) N) x
theorem QVx (mk:(α:Type)->Nat->α->List α) (N:Nat) (x:Y8×ZB):rise (QBm mk) QAG 6 N Tryz.f125 [mP,Z6] [Z6,Z2] [true,false] x=QAb mk N x:=Eq.trans (b:=rT mk (fun v=>Ns (Yg (QBm mk) QAG 6 N Tryz.f125 [Z6,Z2] [true,false] [.call 4 7 131,.call 1 2 167] 0 Wx) N (uS v)) x) (by kernel_rfl) (by rw [funext (SN uS (QMn mk N) N)];rfl)
def wO (x:Y8×ZB):Option lD:=QAb (fun _=>List.replicate) big x
def QOI:UA:=⟨[mP,Z6],[Z6,Z2],[true,false],fun x=>wO x⟩
theorem QTg:GV Tryz.prog 125 QOI:=rz (E:=QBm (fun _=>List.replicate)) ⟨ZK,(XT QKX (XT QTe (XT QTf (XT QMS Xq)))),fun _ _ _=>rfl,mixed,(Xe (Xd Tryz.func131 rfl rfl (by kernel_rfl)) (Xe (Xd Tryz.func160 rfl rfl (by kernel_rfl)) (Xe (Xd Tryz.func167 rfl rfl (by kernel_rfl)) (Xe (Xd Tryz.func188 rfl rfl (by kernel_rfl)) X8)))),YF,YE⟩ Tryz.func125 fun _ _ h=>(QVx (fun _=>List.replicate) big _).trans h
def QKk:LT:={ live:=[(4,[0,1,12,13])],keep:=[] }
noncomputable def QI3:Aj:={ tab:=tab,fs:=[],inl:=[] }
noncomputable def QCT (v:ZB×ZB×Int×Int):St:={ s:=[(0,(.val ⟨Z6,v.1⟩)),(1,(.val ⟨Z6,v.2.1⟩)),(12,(.val ⟨Z2,v.2.2.1⟩)),(13,(.val ⟨Z2,v.2.2.2⟩))],l:=[],k:=[],b:=4096 }
def gN (ZG:ZB×ZB×Int×Int->Option (Bool)) (v:ZB×ZB×Int×Int):Option (Bool):=
 (bif (decide (v.2.2.2 < v.2.2.1)) then ((Mh v.1 v.2.2.2).bind fun x1=>((Mh v.2.1 v.2.2.2).bind fun x2=>(bif (x1 != x2) then (some false) else (let x3:Int:=(IntKind.i64.wrap (v.2.2.2+(1:Int)));(ZG (v.1,v.2.1,v.2.2.1,x3)))))) else (some true))
def Zk (N:Nat) (ZG:ZB×ZB×Int×Int->Option (Bool)) (v:ZB×ZB×Int×Int):Option (Bool):=gN ZG v
theorem QMq (N:Nat) (s0:St->Option (Bool)) (v):(Yg (QI3) QKk 6 N Tryz.f165 [.bool] [false] [] 0 Wx) s0 (QCT v)=Zk N (fun v=>s0 (QCT v)) v:=by kernel_rfl
def dN (ZJ:ZB×ZB×Int×Int->Option (Bool)) (x:ZB×ZB):Option (Bool):=
 (bif ((List.length x.1:Int) != (List.length x.2:Int)) then (some false) else (ZJ (x.1,x.2,(List.length x.1:Int),(0:Int))))
def ou (N:Nat) (x:ZB×ZB):Option (Bool):=dN (FU (Zk N) N) x
theorem QVy (N:Nat) (x:ZB×ZB):rise (QI3) QKk 6 N Tryz.f165 [Z6,Z6] [.bool] [false] x=ou N x:=Eq.trans (b:=dN (fun v=>Ns (Yg (QI3) QKk 6 N Tryz.f165 [.bool] [false] [] 0 Wx) N (QCT v)) x) (by kernel_rfl) (by rw [funext (SN QCT (QMq N) N)];rfl)
def ah (x:ZB×ZB):Option (Bool):=ou big x
def QKJ:UA:=⟨[Z6,Z6],[.bool],[false],fun x=>ah x⟩
theorem QOn:GV Tryz.prog 165 QKJ:=rz (E:=QI3) ⟨ZK,Xq,fun _ _ _=>rfl,mixed,X8,YF,YE⟩ Tryz.func165 fun _ _ h=>(QVy big _).trans h
def QUk:LT:={ live:=[],keep:=[] }
noncomputable def QNq:Aj:={ tab:=tab,fs:=[(87,QKE),(123,QKH),(124,QKI),(165,QKJ)],inl:=[] }
def gy (x:Y7×ZE×ZB):Option Y21:=
 ((gX (x.1,x.2.1)).bind fun x1=>(let x2:Int:=(IntKind.i64.wrap ((List.length x.2.2:Int) - (List.length x1:Int)));(bif (decide (x2 < (0:Int))) then (some (([]:List Int),false)) else (bif (decide (0<=x2)&&decide (x2<=(List.length x.2.2:Int))) then (let x3:ZB:=(List.drop (Int.toNat x2) x.2.2);((ah (x3,x1)).bind fun x4=>(bif (!x4) then (some (([]:List Int),false)) else (bif (decide (0<=x2)&&decide (x2<=(List.length x.2.2:Int))) then (let x5:ZB:=(List.take (Int.toNat x2) x.2.2);((eX (x.1,x.2.1)).bind fun x6=>(let x7:yD:=([x5,x6]:yD);((aM x7).bind fun x8=>(some (x8,true)))))) else none)))) else none))))
def QA7 (N:Nat) (x:Y7×ZE×ZB):Option Y21:=gy x
theorem QVz (N:Nat) (x:Y7×ZE×ZB):rise (QNq) QUk 6 N Tryz.f163 [Z8,Z3,Z6] [Z6,.bool] [false,false] x=gy x:=by kernel_rfl
def mH (x:Y7×ZE×ZB):Option Y21:=QA7 big x
def QOJ:UA:=⟨[Z8,Z3,Z6],[Z6,.bool],[false,false],fun x=>mH x⟩
theorem QTh:GV Tryz.prog 163 QOJ:=rz (E:=QNq) ⟨ZK,(XT QOi (XT QOl (XT QOm (XT QOn Xq)))),fun _ _ _=>rfl,mixed,X8,YF,YE⟩ Tryz.func163 fun _ _ h=>(QVz big _).trans h
def QUl:LT:={ live:=[],keep:=[] }
noncomputable def QNr:Aj:={ tab:=tab,fs:=[(78,QJF),(157,QPY),(189,QKN)],inl:=[] }
def xH (x:Y8×Int):Option lD:=
 ((jW x.1).bind fun x1=>(bif (x1 != (0:Int)) then (some (([]:List Int),x1)) else ((iO (x.2,(List.length x.1:Int))).bind fun x2=>(bif (!x2) then (some (([]:List Int),(2:Int))) else ((j6 (x.1,x.2)).bind fun x3=>(some (x3,(0:Int))))))))
def QHY (N:Nat) (x:Y8×Int):Option lD:=xH x
theorem QW0 (N:Nat) (x:Y8×Int):rise (QNr) QUl 6 N Tryz.f164 [mP,Z2] [Z6,Z2] [false,false] x=xH x:=by kernel_rfl
def z8 (x:Y8×Int):Option lD:=QHY big x
def QOK:UA:=⟨[mP,Z2],[Z6,Z2],[false,false],fun x=>z8 x⟩
theorem QTi:GV Tryz.prog 164 QOK:=rz (E:=QNr) ⟨ZK,(XT QKX (XT QUL (XT QMS Xq))),fun _ _ _=>rfl,mixed,X8,YF,YE⟩ Tryz.func164 fun _ _ h=>(QW0 big _).trans h
def QKl:LT:={ live:=[(5,[6,13,14,15])],keep:=[] }
@[reducible] def QE9 (me:Y15->Y13->Option Y20):ED:=⟨[.hole Z2,.fix (.loc 0 []),.fix (.loc 1 []),.fix (.loc 3 [])],[.var Z8 (.hole Z8),.var (.slice (.nes Z2)) (.fix (.row 2)),.row (.nes Z2),.var .fn (.fix (.Dn 162 (.pair (.loc 0 []) (.pair (.loc 1 []) (.pair (.loc 3 []) .unit)))))],2,[.bool],me⟩
noncomputable def QI4 (me:Y15->Y13->Option Y20):Aj:={ tab:=QFp,fs:=[(163,QOJ),(164,QOK),(165,QKJ)],inl:=[],rcs:=[(162,QE9 me)] }
noncomputable def QCU (v:Y37):St:={ s:=[(2,(.loc 0 [])),(3,(.loc 2 [])),(6,(.val ⟨Z6,v.1⟩)),(43,(.val ⟨Z6,v.2.1⟩)),(44,(.val ⟨Z2,v.2.2.1⟩)),(45,(.val ⟨Z2,v.2.2.2.1⟩))],l:=[(0,.var (.slice (.nes Z2)) (.row 1)),(1,.row (.nes Z2) v.2.2.2.2.1),(2,.var .fn (.Dn 162 (.pair (.loc 3 []) (.pair (.loc 0 []) (.pair (.loc 2 []) .unit))))),(3,.var Z8 (.val ⟨Z8,v.2.2.2.2.2⟩))],k:=[(0,[(0,(.loc 3 [])),(1,(.loc 0 [])),(2,(.row 1)),(3,(.loc 2 []))])],b:=4096 }
def bq (me:Y15->Y13->Option Y20) (y:Y13) (ZG:Y37->Option Y20) (v:Y37):Option Y20:=
 (bif (decide (v.2.2.2.1 < v.2.2.1)) then ((Mh v.2.1 v.2.2.2.1).bind fun x5=>(bif (decide (0<=x5)&&decide (x5 < (List.length v.2.2.2.2.1:Int))) then ((nth v.2.2.2.2.1 (Int.toNat x5)).bind fun x6=>(bif (List.isEmpty x6) then (bif (decide (0<=x5)&&decide (x5 < (List.length v.2.2.2.2.1:Int))) then (bif (List.isEmpty v.1) then none else (let x7:yD:=(List.set v.2.2.2.2.1 (Int.toNat x5) v.1);(bif (Nat.ble 1 (List.length x7)&&true) then ((me (x5,((),((),((),())))) (v.2.2.2.2.2,((),(x7,((),()))))).bind fun x8=>(bif (!x8.2) then (bif (@Ib Z8 y.1 v.2.2.2.2.2) then (some (x8.1,false)) else none) else (bif (decide (0<=x5)&&decide (x5 < (List.length x8.1:Int))) then ((nth x8.1 (Int.toNat x5)).bind fun x9=>((ah (x9,v.1)).bind fun fH=>(bif (!fH) then (bif (@Ib Z8 y.1 v.2.2.2.2.2) then (some (x8.1,false)) else none) else (let mX:Int:=(IntKind.i64.wrap (v.2.2.2.1+(1:Int)));(ZG (v.1,v.2.1,v.2.2.1,mX,x8.1,v.2.2.2.2.2)))))) else none))) else none))) else none) else (bif (decide (0<=x5)&&decide (x5 < (List.length v.2.2.2.2.1:Int))) then ((nth v.2.2.2.2.1 (Int.toNat x5)).bind fun mh=>((ah (mh,v.1)).bind fun qV=>(bif (!qV) then (bif (@Ib Z8 y.1 v.2.2.2.2.2) then (some (v.2.2.2.2.1,false)) else none) else (let jU:Int:=(IntKind.i64.wrap (v.2.2.2.1+(1:Int)));(ZG (v.1,v.2.1,v.2.2.1,jU,v.2.2.2.2.1,v.2.2.2.2.2)))))) else none))) else none)) else (bif (@Ib Z8 y.1 v.2.2.2.2.2) then (some (v.2.2.2.2.1,true)) else none))
def ZV (me:Y15->Y13->Option Y20) (y:Y13) (N:Nat) (ZG:Y37->Option Y20) (v:Y37):Option Y20:=bq me y ZG v
theorem QMr (me:Y15->Y13->Option Y20) (y:Y13) (N:Nat) (s0:St->Option Y20) (v):(YL (QI4 me) QIQ 6 N Tryz.f162 (QE9 me) y [] 0 Wx) s0 (QCU v)=ZV me y N (fun v=>s0 (QCU v)) v:=by kernel_rfl
def aZ (me:Y15->Y13->Option Y20) (y:Y13) (ZJ:Y37->Option Y20) (x:Y15):Option Y20:=
 ((Mh y.1.2.1.2.2.2.2.1 x.1).bind fun x1=>(bif (decide (0<=x.1)&&decide (x.1 < (List.length y.2.2.1:Int))) then ((nth y.2.2.1 (Int.toNat x.1)).bind fun x2=>((mH (y.1,x1,x2)).bind fun x3=>(bif (!x3.2) then (bif (@Ib Z8 y.1 y.1) then (some (y.2.2.1,x3.2)) else none) else (bif ((List.length x3.1:Int)==(0:Int)) then (bif (@Ib Z8 y.1 y.1) then (some (y.2.2.1,x3.2)) else none) else ((z8 (y.1.2.1.2.2.2.2.1,x.1)).bind fun x4=>(ZJ (x3.1,x4.1,(List.length x4.1:Int),(0:Int),y.2.2.1,y.1))))))) else none))
def kX (me:Y15->Y13->Option Y20) (y:Y13) (N:Nat) (x:Y15):Option Y20:=aZ me y (FU (ZV me y N) N) x
theorem QW1 (me:Y15->Y13->Option Y20) (y:Y13) (N:Nat) (x:Y15):VE (QI4 me) QIQ 6 N Tryz.f162 (QE9 me) x y=kX me y N x:=Eq.trans (b:=aZ me y (fun v=>Ns (YL (QI4 me) QIQ 6 N Tryz.f162 (QE9 me) y [] 0 Wx) N (QCU v)) x) (by kernel_rfl) (by rw [funext (SN QCU (QMr me y N) N)];rfl)
def ZQ:Nat->Y15->Y13->Option Y20
 | 0,_,_=>none
 | k+1,x,y=>kX (ZQ k) y big x
def dP (x:Y15) (y:Y13):Option Y20:=ZQ big x y
@[reducible] def QNZ:ED:=QE9 dP
theorem QOs:∀ k,Jy Tryz.prog 162 (QE9 (ZQ k))
 | 0=>W9 Tryz.func162 rfl (by decide)
 | k+1=>by
  have ih:=QOs k
  exact YG (E:=QI4 (ZQ k)) ⟨QEb,(XT QTh (XT QTi (XT QOn Xq))),fun _ _ _=>rfl,mixed,X8,Xi ih YF,YE⟩ Tryz.func162 rfl (by decide) (by kernel_rfl) (by kernel_rfl) (by kernel_rfl) (fun x y r h=>⟨QIQ,6,big,(QW1 (ZQ k) y big x).trans h⟩)
theorem QTj:Jy Tryz.prog 162 QNZ:=QOs big
noncomputable def QI5 (mk:(α:Type)->Nat->α->List α):Aj:={ tab:=QFp,fs:=[],inl:=[],rep:=mk,rcs:=[(162,QNZ)] }
noncomputable def QCV (v:Y51):St:={ s:=[(6,(.loc 0 [])),(13,(.val ⟨Z6,v.1⟩)),(14,(.val ⟨Z2,v.2.1⟩)),(15,(.val ⟨Z2,v.2.2.1⟩))],l:=[(0,.var .fn (.Dn 162 (.pair (.loc 1 []) (.pair (.loc 2 []) (.pair (.loc 0 []) .unit))))),(1,.var Z8 (.val ⟨Z8,v.2.2.2.1⟩)),(2,.var (.slice (.nes Z2)) (.row 3)),(3,.row (.nes Z2) v.2.2.2.2)],k:=[],b:=4096 }
def dR (mk:(α:Type)->Nat->α->List α) (ZG:Y51->Option (Bool)) (v:Y51):Option (Bool):=
 (bif (decide (v.2.2.1 < v.2.1)) then ((Mh v.1 v.2.2.1).bind fun x2=>(bif (x2==(0:Int)) then (bif (Nat.ble 1 (List.length v.2.2.2.2)&&true) then ((dP (v.2.2.1,((),((),((),())))) (v.2.2.2.1,((),(v.2.2.2.2,((),()))))).bind fun x3=>(bif (!x3.2) then (some false) else (let x4:Int:=(IntKind.i64.wrap (v.2.2.1+(1:Int)));(ZG (v.1,v.2.1,x4,v.2.2.2.1,x3.1))))) else none) else (let x5:Int:=(IntKind.i64.wrap (v.2.2.1+(1:Int)));(ZG (v.1,v.2.1,x5,v.2.2.2.1,v.2.2.2.2))))) else (some true))
def Zb (mk:(α:Type)->Nat->α->List α) (N:Nat) (ZG:Y51->Option (Bool)) (v:Y51):Option (Bool):=dR mk ZG v
theorem QMs (mk:(α:Type)->Nat->α->List α) (N:Nat) (s0:St->Option (Bool)) (v):(Yg (QI5 mk) QKl 6 N Tryz.f126 [.bool] [false] [] 0 Wx) s0 (QCV v)=Zb mk N (fun v=>s0 (QCV v)) v:=by kernel_rfl
def bS (mk:(α:Type)->Nat->α->List α) (ZJ:Y51->Option (Bool)) (x:Y7×ZB):Option (Bool):=
 (bif (decide (0<=(List.length x.2:Int))&&(decide ((List.length x.2:Int)<=(List.length x.2:Int))&&(decide ((List.length x.2:Int)<=68719476736)&&true))) then (let x1:yD:=(mk ZB (Int.toNat (List.length x.2:Int)) ([]:ZB));(ZJ (x.2,(List.length x.2:Int),(0:Int),x.1,x1))) else none)
def mW (mk:(α:Type)->Nat->α->List α) (N:Nat) (x:Y7×ZB):Option (Bool):=bS mk (FU (Zb mk N) N) x
theorem QW2 (mk:(α:Type)->Nat->α->List α) (N:Nat) (x:Y7×ZB):rise (QI5 mk) QKl 6 N Tryz.f126 [Z8,Z6] [.bool] [false] x=mW mk N x:=Eq.trans (b:=bS mk (fun v=>Ns (Yg (QI5 mk) QKl 6 N Tryz.f126 [.bool] [false] [] 0 Wx) N (QCV v)) x) (by kernel_rfl) (by rw [funext (SN QCV (QMs mk N) N)];rfl)
def fJ (x:Y7×ZB):Option (Bool):=mW (fun _=>List.replicate) big x
def QOL:UA:=⟨[Z8,Z6],[.bool],[false],fun x=>fJ x⟩
theorem QTk:GV Tryz.prog 126 QOL:=rz (E:=QI5 (fun _=>List.replicate)) ⟨QEb,Xq,fun _ _ _=>rfl,mixed,X8,(Xi QTj YF),YE⟩ Tryz.func126 fun _ _ h=>(QW2 (fun _=>List.replicate) big _).trans h
def QKm:LT:={ live:=[(3,[1,2,6,18,19,20])],keep:=[] }
noncomputable def QI6 (mk:(α:Type)->Nat->α->List α):Aj:={ tab:=tab,fs:=[(122,QOF),(123,QKH),(124,QKI),(125,QOI),(126,QOL)],inl:=[],rep:=mk }
noncomputable def QCW (v:Y38):St:={ s:=[(1,(.val ⟨Z6,v.1⟩)),(2,(.loc 0 [])),(6,(.row 1)),(18,(.val ⟨mP,v.2.1⟩)),(19,(.val ⟨Z2,v.2.2.1⟩)),(20,(.val ⟨Z2,v.2.2.2.1⟩))],l:=[(0,.var Z8 (.val ⟨Z8,v.2.2.2.2.1⟩)),(1,.row Z2 v.2.2.2.2.2)],k:=[],b:=4096 }
def jA (mk:(α:Type)->Nat->α->List α) (ZG:Y38->Option Y21) (v:Y38):Option Y21:=
 (bif (decide (v.2.2.2.1 < v.2.2.1)) then ((Mh v.2.1 v.2.2.2.1).bind fun x2=>((eX (v.2.2.2.2.1,x2)).bind fun x3=>((rA (v.1,x3)).bind fun x4=>((gX (v.2.2.2.2.1,x2)).bind fun x5=>((rA (v.1,x5)).bind fun x6=>(let x7:Int:=(IntKind.i64.wrap (x4 - x6));(bif (decide (0<=v.2.2.2.1)&&decide (v.2.2.2.1 < (List.length v.2.2.2.2.2:Int))) then (let x8:ZB:=(List.set v.2.2.2.2.2 (Int.toNat v.2.2.2.1) x7);(let x9:Int:=(IntKind.i64.wrap (v.2.2.2.1+(1:Int)));(ZG (v.1,v.2.1,v.2.2.1,x9,v.2.2.2.2.1,x8)))) else none))))))) else ((wO (v.2.2.2.2.1.2.1.2.2.2.2.1,v.2.2.2.2.2)).bind fun fH=>(bif (fH.2==(0:Int)) then ((fJ (v.2.2.2.2.1,fH.1)).bind fun mX=>(some (fH.1,mX))) else (some (fH.1,false)))))
def Zy (mk:(α:Type)->Nat->α->List α) (N:Nat) (ZG:Y38->Option Y21) (v:Y38):Option Y21:=jA mk ZG v
theorem QMt (mk:(α:Type)->Nat->α->List α) (N:Nat) (s0:St->Option Y21) (v):(Yg (QI6 mk) QKm 6 N Tryz.f80 [Z6,.bool] [true,false] [] 0 Wx) s0 (QCW v)=Zy mk N (fun v=>s0 (QCW v)) v:=by kernel_rfl
def fB (mk:(α:Type)->Nat->α->List α) (ZJ:Y38->Option Y21) (x:Y7×ZB):Option Y21:=
 (bif (decide (0<=(List.length x.1.2.1.2.2.2.2.1:Int))&&(decide ((List.length x.1.2.1.2.2.2.2.1:Int)<=(List.length x.1.2.1.2.2.2.2.1:Int))&&(decide ((List.length x.1.2.1.2.2.2.2.1:Int)<=68719476736)&&true))) then (let x1:ZB:=(mk Int (Int.toNat (List.length x.1.2.1.2.2.2.2.1:Int)) (0:Int));(ZJ (x.2,x.1.2.1.2.2.2.2.1,(List.length x.1.2.1.2.2.2.2.1:Int),(0:Int),x.1,x1))) else none)
def q9 (mk:(α:Type)->Nat->α->List α) (N:Nat) (x:Y7×ZB):Option Y21:=fB mk (FU (Zy mk N) N) x
theorem QW3 (mk:(α:Type)->Nat->α->List α) (N:Nat) (x:Y7×ZB):rise (QI6 mk) QKm 6 N Tryz.f80 [Z8,Z6] [Z6,.bool] [true,false] x=q9 mk N x:=Eq.trans (b:=fB mk (fun v=>Ns (Yg (QI6 mk) QKm 6 N Tryz.f80 [Z6,.bool] [true,false] [] 0 Wx) N (QCW v)) x) (by kernel_rfl) (by rw [funext (SN QCW (QMt mk N) N)];rfl)
def bZ (x:Y7×ZB):Option Y21:=q9 (fun _=>List.replicate) big x
def QOM:UA:=⟨[Z8,Z6],[Z6,.bool],[true,false],fun x=>bZ x⟩
theorem QTl:GV Tryz.prog 80 QOM:=rz (E:=QI6 (fun _=>List.replicate)) ⟨ZK,(XT QTc (XT QOl (XT QOm (XT QTg (XT QTk Xq))))),fun _ _ _=>rfl,mixed,X8,YF,YE⟩ Tryz.func80 fun _ _ h=>(QW3 (fun _=>List.replicate) big _).trans h
def QKn:LT:={ live:=[],keep:=[(7,[])] }
noncomputable def QI7:Aj:={ tab:=tab,fs:=[],inl:=[(131,Tryz.f131,QIP),(166,Tryz.f166,QUm),(167,Tryz.f167,QIO)] }
noncomputable def QCX (v:Y61):St:={ s:=[(0,(.val ⟨Z6,v.1⟩)),(1,(.Dn 166 (.pair (.loc 0 []) .unit))),(7,(.val ⟨Z2,v.2.1⟩)),(8,(.val ⟨Z2,v.2.2.1⟩))],l:=[(0,.var Z2 (.val ⟨Z2,v.2.2.2⟩))],k:=[(16809984,[]),(4096,[])],b:=68853727232 }
def iZ (ZG:Y61->Option (Bool)) (v:Y61):Option (Bool):=
 (bif (decide (v.2.2.1 < v.2.1)) then ((Mh v.1 v.2.2.1).bind fun x1=>(bif (decide (x1≥v.2.2.2)) then (some (!(decide (v.2.2.1≥(0:Int))))) else (let x2:Int:=(IntKind.i64.wrap (v.2.2.1+(1:Int)));(ZG (v.1,v.2.1,x2,v.2.2.2))))) else (some (!(decide ((-1:Int)≥(0:Int))))))
def pz (N:Nat) (ZG:Y61->Option (Bool)) (v:Y61):Option (Bool):=iZ ZG v
theorem QMu (N:Nat) (s0:St->Option (Bool)) (v):(Yg (QI7) QKn 6 N Tryz.f127 [.bool] [false] [.call 1 2 131,.call 1 2 167] 0 Wx) s0 (QCX v)=pz N (fun v=>s0 (QCX v)) v:=by kernel_rfl
def uj (ZJ:Y61->Option (Bool)) (x:Y79):Option (Bool):=
 (ZJ (x.1,(List.length x.1:Int),(0:Int),x.2))
def QBv (N:Nat) (x:Y79):Option (Bool):=uj (FU (pz N) N) x
theorem QW4 (N:Nat) (x:Y79):rise (QI7) QKn 6 N Tryz.f127 [Z6,Z2] [.bool] [false] x=QBv N x:=Eq.trans (b:=uj (fun v=>Ns (Yg (QI7) QKn 6 N Tryz.f127 [.bool] [false] [.call 1 2 131,.call 1 2 167] 0 Wx) N (QCX v)) x) (by kernel_rfl) (by rw [funext (SN QCX (QMu N) N)];rfl)
def uM (x:Y79):Option (Bool):=QBv big x
def QON:UA:=⟨[Z6,Z2],[.bool],[false],fun x=>uM x⟩
theorem QTm:GV Tryz.prog 127 QON:=rz (E:=QI7) ⟨ZK,Xq,fun _ _ _=>rfl,mixed,(Xe (Xd Tryz.func131 rfl rfl (by kernel_rfl)) (Xe (Xd Tryz.func166 rfl rfl (by kernel_rfl)) (Xe (Xd Tryz.func167 rfl rfl (by kernel_rfl)) X8))),YF,YE⟩ Tryz.func127 fun _ _ h=>(QW4 big _).trans h
def QKo:LT:={ live:=[(3,[3,6,7,8])],keep:=[] }
noncomputable def QI8:Aj:={ tab:=tab,fs:=[],inl:=[] }
noncomputable def QCY (v:Int×ZB×Int×Int):St:={ s:=[(3,(.val ⟨Z15,v.1⟩)),(6,(.val ⟨Z6,v.2.1⟩)),(7,(.val ⟨Z2,v.2.2.1⟩)),(8,(.val ⟨Z2,v.2.2.2⟩))],l:=[],k:=[],b:=4096 }
def ji (ZG:Int×ZB×Int×Int->Option (Int)) (v:Int×ZB×Int×Int):Option (Int):=
 (bif (decide (v.2.2.2 < v.2.2.1)) then ((Mh v.2.1 v.2.2.2).bind fun x1=>(bif (decide (x1 < 0)) then none else (let x2:Int:=(IntKind.u64.wrap ((1:Int) * 2 ^ (min (Int.toNat x1) 64)));(let x3:Int:=(IntKind.i64.wrap (v.2.2.2+(1:Int)));(ZG ((bits .or .u64 v.1 x2),v.2.1,v.2.2.1,x3)))))) else (some v.1))
def nP (N:Nat) (ZG:Int×ZB×Int×Int->Option (Int)) (v:Int×ZB×Int×Int):Option (Int):=ji ZG v
theorem QMv (N:Nat) (s0:St->Option (Int)) (v):(Yg (QI8) QKo 6 N Tryz.f128 [Z15] [false] [] 0 Wx) s0 (QCY v)=nP N (fun v=>s0 (QCY v)) v:=by kernel_rfl
def rV (ZJ:Int×ZB×Int×Int->Option (Int)) (x:ZB):Option (Int):=
 (ZJ ((0:Int),x,(List.length x:Int),(0:Int)))
def QAd (N:Nat) (x:ZB):Option (Int):=rV (FU (nP N) N) x
theorem QW5 (N:Nat) (x:ZB):rise (QI8) QKo 6 N Tryz.f128 [Z6] [Z15] [false] x=QAd N x:=Eq.trans (b:=rV (fun v=>Ns (Yg (QI8) QKo 6 N Tryz.f128 [Z15] [false] [] 0 Wx) N (QCY v)) x) (by kernel_rfl) (by rw [funext (SN QCY (QMv N) N)];rfl)
def wP (x:ZB):Option (Int):=QAd big x
def QOO:UA:=⟨[Z6],[Z15],[false],fun x=>wP x⟩
theorem QTn:GV Tryz.prog 128 QOO:=rz (E:=QI8) ⟨ZK,Xq,fun _ _ _=>rfl,mixed,X8,YF,YE⟩ Tryz.func128 fun _ _ h=>(QW5 big _).trans h
def QUn:LT:={ live:=[],keep:=[] }
noncomputable def QNs:Aj:={ tab:=tab,fs:=[],inl:=[] }
def kQ (x:Int):Option (Int):=
 (bif (decide (x < 0)) then none else (let x1:Int:=(IntKind.u64.wrap ((1:Int) * 2 ^ (min (Int.toNat x) 64)));(let x2:Int:=(IntKind.u64.wrap (x1 - (1:Int)));(some x2))))
def QBa (N:Nat) (x:Int):Option (Int):=kQ x
theorem QW6 (N:Nat) (x:Int):rise (QNs) QUn 6 N Tryz.f130 [Z2] [Z15] [false] x=kQ x:=by kernel_rfl
def kC (x:Int):Option (Int):=QBa big x
def QOP:UA:=⟨[Z2],[Z15],[false],fun x=>kC x⟩
theorem QTo:GV Tryz.prog 130 QOP:=rz (E:=QNs) ⟨ZK,Xq,fun _ _ _=>rfl,mixed,X8,YF,YE⟩ Tryz.func130 fun _ _ h=>(QW6 big _).trans h
def yE:LT:={ live:=[(3,[0,2,3,5,9,20,21,22]),(10,[0,5,9,12])],keep:=[(38,[0,5,9,12])],rf:=[(39,[5,9,12],[0,5,9,12])] }
noncomputable def zX (mk:(α:Type)->Nat->α->List α):Aj:={ tab:=tab,fs:=[(158,QKD),(189,QKN)],inl:=[(160,Tryz.f160,QKc),(188,Tryz.f188,QKb)],rep:=mk }
noncomputable def QCZ (v:Y25):St:={ s:=[(0,(.yl 0)),(1,(.loc 5 [])),(3,(.row 6)),(4,(.row 7)),(5,(.val ⟨Z2,v.1⟩)),(30,(.val ⟨Z6,v.2.1⟩)),(31,(.val ⟨Z2,v.2.2.1⟩)),(32,(.val ⟨Z2,v.2.2.2.1⟩))],l:=[(0,.lp (.pair .any (.pair .any (.pair .any (.pair .any (.pair .any (.pair (.loc 1 []) (.pair .any (.pair .any (.pair .any (.pair (.loc 2 []) (.pair .any (.pair .any (.pair (.loc 4 []) .unit))))))))))))) (Y3 Tryz.f129 13 yE .ready none)),(1,.var wM (.val ⟨wM,v.2.2.2.2.1⟩)),(2,.var wM (.row 3)),(3,.row Z15 v.2.2.2.2.2.1),(4,.var .bool (.val ⟨.bool,v.2.2.2.2.2.2.1⟩)),(5,.var mP (.val ⟨mP,v.2.2.2.2.2.2.2.1⟩)),(6,.row .bool v.2.2.2.2.2.2.2.2.1),(7,.row Z2 v.2.2.2.2.2.2.2.2.2.1)],k:=[(0,[(0,(.yl 0))]),(4096,[(0,(.val ⟨mP,v.2.2.2.2.2.2.2.2.2.2⟩)),(5,(.loc 1 [])),(9,(.loc 2 [])),(12,(.loc 4 []))])],b:=33165312 }
noncomputable def zC (v:Y36):St:={ s:=[(0,(.yl 0)),(1,(.loc 5 [])),(3,(.row 6)),(4,(.row 7))],l:=[(0,.lp (.pair .any (.pair .any (.pair .any (.pair .any (.pair .any (.pair (.loc 1 []) (.pair .any (.pair .any (.pair .any (.pair (.loc 2 []) (.pair .any (.pair .any (.pair (.loc 4 []) .unit))))))))))))) (Y3 Tryz.f129 13 yE .ready none)),(1,.var wM (.val ⟨wM,v.1⟩)),(2,.var wM (.row 3)),(3,.row Z15 v.2.1),(4,.var .bool (.val ⟨.bool,v.2.2.1⟩)),(5,.var mP (.val ⟨mP,v.2.2.2.1⟩)),(6,.row .bool v.2.2.2.2.1),(7,.row Z2 v.2.2.2.2.2.1)],k:=[(0,[(0,(.yl 0))]),(4096,[(0,(.val ⟨mP,v.2.2.2.2.2.2⟩)),(5,(.loc 1 [])),(9,(.loc 2 [])),(12,(.loc 4 []))])],b:=33165312 }
noncomputable def uT (v:Y65):St:={ s:=[(0,(.val ⟨mP,v.1⟩)),(5,(.loc 0 [])),(9,(.loc 1 [])),(12,(.loc 3 []))],l:=[(0,.var wM (.val ⟨wM,v.2.1⟩)),(1,.var wM (.row 2)),(2,.row Z15 v.2.2.1),(3,.var .bool (.val ⟨.bool,v.2.2.2⟩))],k:=[],b:=4096 }
noncomputable def pY (v:Y30):St:={ s:=[(0,(.val ⟨mP,v.1⟩)),(2,(.val ⟨Z15,v.2.1⟩)),(3,(.val ⟨Z15,v.2.2.1⟩)),(5,(.loc 0 [])),(9,(.loc 1 [])),(20,(.row 3)),(21,(.val ⟨Z2,v.2.2.2.1⟩)),(22,(.val ⟨Z2,v.2.2.2.2.1⟩))],l:=[(0,.var wM (.val ⟨wM,v.2.2.2.2.2.1⟩)),(1,.var wM (.row 2)),(2,.row Z15 v.2.2.2.2.2.2.1),(3,.row .bool v.2.2.2.2.2.2.2)],k:=[],b:=4096 }
def gK (mk:(α:Type)->Nat->α->List α) (ZG:Y30->Option (ZB)) (ZH:Y65->Option (ZB)) (Zo:Y36->Option (ZB)) (vC:Y25->Option (ZB)) (v:Y25):Option (ZB):=
 (bif (decide (v.2.2.2.1 < v.2.2.1)) then ((Mh v.2.1 v.2.2.2.1).bind fun jV=>(bif (decide (0<=v.1)&&decide (v.1 < (List.length v.2.2.2.2.2.1:Int))) then ((nth v.2.2.2.2.2.1 (Int.toNat v.1)).bind fun wK=>((Mh v.2.2.2.2.1 v.1).bind fun xu=>(bif v.2.2.2.2.2.2.1 then (bif (decide (0<=jV)&&decide (jV < (List.length v.2.2.2.2.2.1:Int))) then ((nth v.2.2.2.2.2.1 (Int.toNat jV)).bind fun x18=>(let zW:Int:=(bits .and .u64 x18 (bits .or .u64 wK xu));(bif (decide (0<=jV)&&decide (jV < (List.length v.2.2.2.2.2.1:Int))) then (let zO:ZB:=(List.set v.2.2.2.2.2.1 (Int.toNat jV) zW);(bif (decide (0<=jV)&&decide (jV < (List.length v.2.2.2.2.2.2.2.2.1:Int))) then ((nth v.2.2.2.2.2.2.2.2.1 (Int.toNat jV)).bind fun x21=>(bif (!x21) then (bif (decide (0<=jV)&&decide (jV < (List.length v.2.2.2.2.2.2.2.2.1:Int))) then (let x22:oq:=(List.set v.2.2.2.2.2.2.2.2.1 (Int.toNat jV) true);(bif (Nat.ble 1 1&&Nat.ble (List.length v.2.2.2.2.2.2.2.2.2.1+List.length ([jV]:ZB)) lim) then (let x23:ZB:=(List.append v.2.2.2.2.2.2.2.2.2.1 ([jV]:ZB));(let x24:Int:=(IntKind.i64.wrap (v.2.2.2.1+(1:Int)));(vC (v.1,v.2.1,v.2.2.1,x24,v.2.2.2.2.1,zO,true,v.2.2.2.2.2.2.2.1,x22,x23,v.2.2.2.2.2.2.2.2.2.2)))) else none)) else none) else (let x25:Int:=(IntKind.i64.wrap (v.2.2.2.1+(1:Int)));(vC (v.1,v.2.1,v.2.2.1,x25,v.2.2.2.2.1,zO,true,v.2.2.2.2.2.2.2.1,v.2.2.2.2.2.2.2.2.1,v.2.2.2.2.2.2.2.2.2.1,v.2.2.2.2.2.2.2.2.2.2))))) else none)) else none))) else none) else (bif (decide (0<=jV)&&decide (jV < (List.length v.2.2.2.2.2.1:Int))) then ((nth v.2.2.2.2.2.1 (Int.toNat jV)).bind fun x26=>(let x27:Int:=(bits .andNot .u64 x26 (bits .or .u64 wK xu));(bif (decide (0<=jV)&&decide (jV < (List.length v.2.2.2.2.2.1:Int))) then ((nth v.2.2.2.2.2.1 (Int.toNat jV)).bind fun x28=>(let x29:Int:=(bits .and .u64 x28 (bits .or .u64 wK xu));(bif (decide (0<=jV)&&decide (jV < (List.length v.2.2.2.2.2.1:Int))) then (let x30:ZB:=(List.set v.2.2.2.2.2.1 (Int.toNat jV) x29);(bif (decide (0<=jV)&&decide (jV < (List.length v.2.2.2.2.2.2.2.2.1:Int))) then ((nth v.2.2.2.2.2.2.2.2.1 (Int.toNat jV)).bind fun x31=>(bif (!x31) then (bif (decide (0<=jV)&&decide (jV < (List.length v.2.2.2.2.2.2.2.2.1:Int))) then (let x32:oq:=(List.set v.2.2.2.2.2.2.2.2.1 (Int.toNat jV) true);(bif (Nat.ble 1 1&&Nat.ble (List.length v.2.2.2.2.2.2.2.2.2.1+List.length ([jV]:ZB)) lim) then (let x33:ZB:=(List.append v.2.2.2.2.2.2.2.2.2.1 ([jV]:ZB));(let x34:Int:=(IntKind.i64.wrap (v.2.2.2.1+(1:Int)));(vC (v.1,v.2.1,v.2.2.1,x34,v.2.2.2.2.1,x30,(x27 != (0:Int)),v.2.2.2.2.2.2.2.1,x32,x33,v.2.2.2.2.2.2.2.2.2.2)))) else none)) else none) else (let x35:Int:=(IntKind.i64.wrap (v.2.2.2.1+(1:Int)));(vC (v.1,v.2.1,v.2.2.1,x35,v.2.2.2.2.1,x30,(x27 != (0:Int)),v.2.2.2.2.2.2.2.1,v.2.2.2.2.2.2.2.2.1,v.2.2.2.2.2.2.2.2.2.1,v.2.2.2.2.2.2.2.2.2.2))))) else none)) else none))) else none))) else none)))) else none)) else (Zo (v.2.2.2.2.1,v.2.2.2.2.2.1,v.2.2.2.2.2.2.1,v.2.2.2.2.2.2.2.1,v.2.2.2.2.2.2.2.2.1,v.2.2.2.2.2.2.2.2.2.1,v.2.2.2.2.2.2.2.2.2.2)))
def fT (mk:(α:Type)->Nat->α->List α) (N:Nat) (ZG:Y30->Option (ZB)) (ZH:Y65->Option (ZB)) (Zo:Y36->Option (ZB)) (vC:Y25->Option (ZB)) (v:Y25):Option (ZB):=gK mk ZG ZH Zo vC v
theorem QMz (mk:(α:Type)->Nat->α->List α) (N:Nat) (s0:St->Option (ZB)) (s1:St->Option (ZB)) (s2:St->Option (ZB)) (s3:St->Option (ZB)) (v):(Yg (zX mk) yE 6 N Tryz.f129 [wM] [true] [.rng 13 188] 1 (YC s1 (YC s2 Wx))) s3 (QCZ v)=fT mk N (fun v=>s0 (pY v)) (fun v=>s1 (uT v)) (fun v=>s2 (zC v)) (fun v=>s3 (QCZ v)) v:=by kernel_rfl
def kN (mk:(α:Type)->Nat->α->List α) (QGc:Y25->Option (ZB)) (ZG:Y30->Option (ZB)) (ZH:Y65->Option (ZB)) (Zo:Y36->Option (ZB)) (v:Y36):Option (ZB):=
 (bif (decide ((List.length v.2.2.2.2.2.1:Int) > (0:Int))) then (let mX:Int:=(IntKind.i64.wrap ((List.length v.2.2.2.2.2.1:Int) - (1:Int)));(bif (decide (0<=mX)&&decide (mX < (List.length v.2.2.2.2.2.1:Int))) then ((nth v.2.2.2.2.2.1 (Int.toNat mX)).bind fun mh=>(let qV:Int:=(IntKind.i64.wrap ((List.length v.2.2.2.2.2.1:Int) - (1:Int)));(bif (decide (0<=qV)&&decide (qV<=((List.length v.2.2.2.2.2.1):Int))) then ((j6 (v.2.2.2.1,mh)).bind fun jU=>(QGc (mh,jU,(List.length jU:Int),(0:Int),v.1,v.2.1,v.2.2.1,v.2.2.2.1,v.2.2.2.2.1,(List.take (Int.toNat qV) v.2.2.2.2.2.1),v.2.2.2.2.2.2))) else none))) else none)) else (ZH (v.2.2.2.2.2.2,v.1,v.2.1,v.2.2.1)))
def kJ (mk:(α:Type)->Nat->α->List α) (N:Nat) (ZG:Y30->Option (ZB)) (ZH:Y65->Option (ZB)) (Zo:Y36->Option (ZB)) (v:Y36):Option (ZB):=kN mk (FU (fT mk N ZG ZH Zo) N) ZG ZH Zo v
theorem QMy (mk:(α:Type)->Nat->α->List α) (N:Nat) (s0:St->Option (ZB)) (s1:St->Option (ZB)) (s2:St->Option (ZB)) (v):(Yg (zX mk) yE 6 N Tryz.f129 [wM] [true] [.rng 13 188] 0 (YC s1 Wx)) s2 (zC v)=kJ mk N (fun v=>s0 (pY v)) (fun v=>s1 (uT v)) (fun v=>s2 (zC v)) v:=Eq.trans (b:=kN mk (fun v=>Ns (Yg (zX mk) yE 6 N Tryz.f129 [wM] [true] [.rng 13 188] 1 (YC s1 (YC s2 Wx))) N (QCZ v)) (fun v=>s0 (pY v)) (fun v=>s1 (uT v)) (fun v=>s2 (zC v)) v) (by kernel_rfl) (by rw [funext (SN QCZ (QMz mk N s0 s1 s2) N)];rfl)
def kM (mk:(α:Type)->Nat->α->List α) (yO:Y36->Option (ZB)) (ZG:Y30->Option (ZB)) (ZH:Y65->Option (ZB)) (v:Y65):Option (ZB):=
 (bif v.2.2.2 then (bif (decide (0<=(List.length v.1:Int))&&(decide ((List.length v.1:Int)<=(List.length v.1:Int))&&(decide ((List.length v.1:Int)<=68719476736)&&true))) then (let x8:oq:=(mk Bool (Int.toNat (List.length v.1:Int)) false);(bif (decide (0<=(0:Int))&&decide ((0:Int) < (List.length x8:Int))) then (let x9:oq:=(List.set x8 (Int.toNat (0:Int)) true);(let fH:ZB:=([(0:Int)]:ZB);(yO (v.2.1,v.2.2.1,false,v.1,x9,fH,v.1)))) else none)) else none) else (some v.2.2.1))
def kI (mk:(α:Type)->Nat->α->List α) (N:Nat) (ZG:Y30->Option (ZB)) (ZH:Y65->Option (ZB)) (v:Y65):Option (ZB):=kM mk (FU (kJ mk N ZG ZH) N) ZG ZH v
theorem QMx (mk:(α:Type)->Nat->α->List α) (N:Nat) (s0:St->Option (ZB)) (s1:St->Option (ZB)) (v):(Yg (zX mk) yE 6 N Tryz.f129 [wM] [true] [] 1 Wx) s1 (uT v)=kI mk N (fun v=>s0 (pY v)) (fun v=>s1 (uT v)) v:=Eq.trans (b:=kM mk (fun v=>Ns (Yg (zX mk) yE 6 N Tryz.f129 [wM] [true] [.rng 13 188] 0 (YC s1 Wx)) N (zC v)) (fun v=>s0 (pY v)) (fun v=>s1 (uT v)) v) (by kernel_rfl) (by rw [funext (SN zC (QMy mk N s0 s1) N)];rfl)
def dA (mk:(α:Type)->Nat->α->List α) (Zv:Y65->Option (ZB)) (ZG:Y30->Option (ZB)) (v:Y30):Option (ZB):=
 (bif (decide (v.2.2.2.2.1 < v.2.2.2.1)) then (bif (decide (0<=v.2.2.2.2.1)&&decide (v.2.2.2.2.1 < (List.length v.2.2.2.2.2.2.2:Int))) then ((nth v.2.2.2.2.2.2.2 (Int.toNat v.2.2.2.2.1)).bind fun x3=>(bif x3 then (bif (decide (0<=v.2.2.2.2.1)&&decide (v.2.2.2.2.1 < (List.length v.2.2.2.2.2.2.1:Int))) then (let x4:ZB:=(List.set v.2.2.2.2.2.2.1 (Int.toNat v.2.2.2.2.1) v.2.2.1);(let x5:Int:=(IntKind.i64.wrap (v.2.2.2.2.1+(1:Int)));(ZG (v.1,v.2.1,v.2.2.1,v.2.2.2.1,x5,v.2.2.2.2.2.1,x4,v.2.2.2.2.2.2.2)))) else none) else (let x6:Int:=(IntKind.i64.wrap (v.2.2.2.2.1+(1:Int)));(ZG (v.1,v.2.1,v.2.2.1,v.2.2.2.1,x6,v.2.2.2.2.2.1,v.2.2.2.2.2.2.1,v.2.2.2.2.2.2.2))))) else none) else (bif (decide (0<=(0:Int))&&decide ((0:Int) < (List.length v.2.2.2.2.2.2.1:Int))) then (let x7:ZB:=(List.set v.2.2.2.2.2.2.1 (Int.toNat (0:Int)) v.2.1);(Zv (v.1,v.2.2.2.2.2.1,x7,true))) else none))
def kH (mk:(α:Type)->Nat->α->List α) (N:Nat) (ZG:Y30->Option (ZB)) (v:Y30):Option (ZB):=dA mk (FU (kI mk N ZG) N) ZG v
theorem QMw (mk:(α:Type)->Nat->α->List α) (N:Nat) (s0:St->Option (ZB)) (v):(Yg (zX mk) yE 6 N Tryz.f129 [wM] [true] [] 0 Wx) s0 (pY v)=kH mk N (fun v=>s0 (pY v)) v:=Eq.trans (b:=dA mk (fun v=>Ns (Yg (zX mk) yE 6 N Tryz.f129 [wM] [true] [] 1 Wx) N (uT v)) (fun v=>s0 (pY v)) v) (by kernel_rfl) (by rw [funext (SN uT (QMx mk N s0) N)];rfl)
def oP (mk:(α:Type)->Nat->α->List α) (ZJ:Y30->Option (ZB)) (x:Y8×ZB×Int×Int):Option (ZB):=
 (bif (decide (0<=(List.length x.1:Int))&&(decide ((List.length x.1:Int)<=(List.length x.1:Int))&&(decide ((List.length x.1:Int)<=68719476736)&&true))) then (let x1:ZB:=(mk Int (Int.toNat (List.length x.1:Int)) (0:Int));((y5 x.1).bind fun x2=>(ZJ (x.1,x.2.2.1,x.2.2.2,(List.length x2:Int),(0:Int),x.2.1,x1,x2)))) else none)
def yQ (mk:(α:Type)->Nat->α->List α) (N:Nat) (x:Y8×ZB×Int×Int):Option (ZB):=oP mk (FU (kH mk N) N) x
theorem QW7 (mk:(α:Type)->Nat->α->List α) (N:Nat) (x:Y8×ZB×Int×Int):rise (zX mk) yE 6 N Tryz.f129 [mP,wM,Z15,Z15] [wM] [true] x=yQ mk N x:=Eq.trans (b:=oP mk (fun v=>Ns (Yg (zX mk) yE 6 N Tryz.f129 [wM] [true] [] 0 Wx) N (pY v)) x) (by kernel_rfl) (by rw [funext (SN pY (QMw mk N) N)];rfl)
def sZ (x:Y8×ZB×Int×Int):Option (ZB):=yQ (fun _=>List.replicate) big x
def QOQ:UA:=⟨[mP,wM,Z15,Z15],[wM],[true],fun x=>sZ x⟩
theorem QTp:GV Tryz.prog 129 QOQ:=rz (E:=zX (fun _=>List.replicate)) ⟨ZK,(XT QOh (XT QMS Xq)),fun _ _ _=>rfl,mixed,(Xe (Xd Tryz.func160 rfl rfl (by kernel_rfl)) (Xe (Xd Tryz.func188 rfl rfl (by kernel_rfl)) X8)),YF,YE⟩ Tryz.func129 fun _ _ h=>(QW7 (fun _=>List.replicate) big _).trans h
def QKp:LT:={ live:=[(8,[0,1,2,9,35,36,37])],keep:=[] }
noncomputable def QI9 (mk:(α:Type)->Nat->α->List α):Aj:={ tab:=tab,fs:=[(50,QII),(78,QJF),(127,QON),(128,QOO),(129,QOQ),(130,QOP)],inl:=[],rep:=mk }
noncomputable def QCa (v:Y34):St:={ s:=[(0,(.val ⟨mP,v.1⟩)),(1,(.val ⟨Z2,v.2.1⟩)),(2,(.val ⟨Z2,v.2.2.1⟩)),(9,(.row 0)),(35,(.val ⟨mP,v.2.2.2.1⟩)),(36,(.val ⟨Z2,v.2.2.2.2.1⟩)),(37,(.val ⟨Z2,v.2.2.2.2.2.1⟩))],l:=[(0,.row Z15 v.2.2.2.2.2.2)],k:=[],b:=4096 }
def lK (mk:(α:Type)->Nat->α->List α) (ZG:Y34->Option lD) (v:Y34):Option lD:=
 (bif (decide (v.2.2.2.2.2.1 < v.2.2.2.2.1)) then ((Mh v.2.2.2.1 v.2.2.2.2.2.1).bind fun x3=>((pG x3).bind fun x4=>((uM (x4.1,v.2.2.1)).bind fun x5=>(bif (!x5) then (some (([]:List Int),(16:Int))) else ((uM (x4.2.1,v.2.2.1)).bind fun x6=>(bif (!x6) then (some (([]:List Int),(16:Int))) else ((wP x4.2.1).bind fun x7=>(bif (decide (0<=v.2.2.2.2.2.1)&&decide (v.2.2.2.2.2.1 < (List.length v.2.2.2.2.2.2:Int))) then (let x8:ZB:=(List.set v.2.2.2.2.2.2 (Int.toNat v.2.2.2.2.2.1) x7);(let x9:Int:=(IntKind.i64.wrap (v.2.2.2.2.2.1+(1:Int)));(ZG (v.1,v.2.1,v.2.2.1,v.2.2.2.1,v.2.2.2.2.1,x9,x8)))) else none)))))))) else ((kC v.2.1).bind fun fH=>((kC v.2.2.1).bind fun mX=>((sZ (v.1,v.2.2.2.2.2.2,fH,mX)).bind fun mh=>(let qV:Int:=(IntKind.i64.wrap ((List.length v.1:Int) - (1:Int)));(bif (decide (0<=qV)&&decide (qV < (List.length mh:Int))) then (let jU:ZB:=(List.set mh (Int.toNat qV) (0:Int));(some (jU,(0:Int)))) else none))))))
def lJ (mk:(α:Type)->Nat->α->List α) (N:Nat) (ZG:Y34->Option lD) (v:Y34):Option lD:=lK mk ZG v
theorem QN0 (mk:(α:Type)->Nat->α->List α) (N:Nat) (s0:St->Option lD) (v):(Yg (QI9 mk) QKp 6 N Tryz.f81 [wM,Z2] [true,false] [] 0 Wx) s0 (QCa v)=lJ mk N (fun v=>s0 (QCa v)) v:=by kernel_rfl
def uh (mk:(α:Type)->Nat->α->List α) (ZJ:Y34->Option lD) (x:Y72):Option lD:=
 ((jW x.1).bind fun x1=>(bif (x1 != (0:Int)) then (some (([]:List Int),x1)) else (bif (decide (x.2.1 < (0:Int))) then (some (([]:List Int),(2:Int))) else (bif (decide (x.2.1 > x.2.2)) then (some (([]:List Int),(2:Int))) else (bif (decide (x.2.2 > (16:Int))) then (some (([]:List Int),(2:Int))) else (bif (decide (0<=(List.length x.1:Int))&&(decide ((List.length x.1:Int)<=(List.length x.1:Int))&&(decide ((List.length x.1:Int)<=68719476736)&&true))) then (let x2:ZB:=(mk Int (Int.toNat (List.length x.1:Int)) (0:Int));(ZJ (x.1,x.2.1,x.2.2,x.1,(List.length x.1:Int),(0:Int),x2))) else none))))))
def QBu (mk:(α:Type)->Nat->α->List α) (N:Nat) (x:Y72):Option lD:=uh mk (FU (lJ mk N) N) x
theorem QW8 (mk:(α:Type)->Nat->α->List α) (N:Nat) (x:Y72):rise (QI9 mk) QKp 6 N Tryz.f81 [mP,Z2,Z2] [wM,Z2] [true,false] x=QBu mk N x:=Eq.trans (b:=uh mk (fun v=>Ns (Yg (QI9 mk) QKp 6 N Tryz.f81 [wM,Z2] [true,false] [] 0 Wx) N (QCa v)) x) (by kernel_rfl) (by rw [funext (SN QCa (QN0 mk N) N)];rfl)
def mR (x:Y72):Option lD:=QBu (fun _=>List.replicate) big x
def QOR:UA:=⟨[mP,Z2,Z2],[wM,Z2],[true,false],fun x=>mR x⟩
theorem QTq:GV Tryz.prog 81 QOR:=rz (E:=QI9 (fun _=>List.replicate)) ⟨ZK,(XT QKR (XT QKX (XT QTm (XT QTn (XT QTp (XT QTo Xq)))))),fun _ _ _=>rfl,mixed,X8,YF,YE⟩ Tryz.func81 fun _ _ h=>(QW8 (fun _=>List.replicate) big _).trans h
def QG2:LT:={ live:=[(2,[3,10,11,12])],keep:=[(25,[3,5,10,11,12])] }
noncomputable def QE7:Aj:={ tab:=tab,fs:=[(50,QII)],inl:=[(131,Tryz.f131,QIP),(132,Tryz.f132,QUo),(167,Tryz.f167,QIO)] }
noncomputable def QIe (v:Y31):St:={ s:=[(0,(.row 0)),(1,(.Dn 132 (.pair (.loc 1 []) (.pair (.loc 2 []) .unit)))),(7,(.val ⟨Z2,v.1⟩)),(8,(.val ⟨Z2,v.2.1⟩))],l:=[(0,.row Z2 v.2.2.1),(1,.var wM (.val ⟨wM,v.2.2.2.1⟩)),(2,.var Z2 (.val ⟨Z2,v.2.2.2.2.1⟩))],k:=[(16883712,[]),(4096,[(3,(.loc 1 [])),(5,(.loc 2 [])),(10,(.val ⟨mP,v.2.2.2.2.2.1⟩)),(11,(.val ⟨Z2,v.2.2.2.2.2.2.1⟩)),(12,(.val ⟨Z2,v.2.2.2.2.2.2.2⟩))])],b:=69155717120 }
noncomputable def zD (v:Y66):St:={ s:=[(3,(.loc 0 [])),(10,(.val ⟨mP,v.1⟩)),(11,(.val ⟨Z2,v.2.1⟩)),(12,(.val ⟨Z2,v.2.2.1⟩))],l:=[(0,.var wM (.val ⟨wM,v.2.2.2⟩))],k:=[],b:=4096 }
def iw (ZG:Y66->Option (Int)) (ZH:Y31->Option (Int)) (v:Y31):Option (Int):=
 (bif (decide (v.2.1 < v.1)) then (bif (decide (0<=v.2.1)&&decide (v.2.1 < (List.length v.2.2.1:Int))) then ((nth v.2.2.1 (Int.toNat v.2.1)).bind fun x3=>((Mh v.2.2.2.1 v.2.2.2.2.1).bind fun x4=>(bif (decide (x3 < 0)) then none else (let x5:Int:=(IntKind.u64.wrap ((1:Int) * 2 ^ (min (Int.toNat x3) 64)));(bif ((bits .and .u64 x4 x5)==(0:Int)) then (bif (decide (v.2.1≥(0:Int))) then (some v.2.2.2.2.1) else (let x6:Int:=(IntKind.i64.wrap (v.2.2.2.2.2.2.2+(1:Int)));(ZG (v.2.2.2.2.2.1,v.2.2.2.2.2.2.1,x6,v.2.2.2.1)))) else (let x7:Int:=(IntKind.i64.wrap (v.2.1+(1:Int)));(ZH (v.1,x7,v.2.2.1,v.2.2.2.1,v.2.2.2.2.1,v.2.2.2.2.2.1,v.2.2.2.2.2.2.1,v.2.2.2.2.2.2.2)))))))) else none) else (let x8:Int:=(IntKind.i64.wrap (v.2.2.2.2.2.2.2+(1:Int)));(ZG (v.2.2.2.2.2.1,v.2.2.2.2.2.2.1,x8,v.2.2.2.1))))
def aj (N:Nat) (ZG:Y66->Option (Int)) (ZH:Y31->Option (Int)) (v:Y31):Option (Int):=iw ZG ZH v
theorem QVG (N:Nat) (s0:St->Option (Int)) (s1:St->Option (Int)) (v):(Yg (QE7) QG2 6 N Tryz.f82 [Z2] [false] [.call 5 2 131,.call 1 2 167] 0 (YC s0 Wx)) s1 (QIe v)=aj N (fun v=>s0 (zD v)) (fun v=>s1 (QIe v)) v:=by kernel_rfl
def dM (Zv:Y31->Option (Int)) (ZG:Y66->Option (Int)) (v:Y66):Option (Int):=
 (bif (decide (v.2.2.1 < v.2.1)) then ((Mh v.1 v.2.2.1).bind fun x1=>((pG x1).bind fun x2=>(Zv ((List.length x2.1:Int),(0:Int),x2.1,v.2.2.2,v.2.2.1,v.1,v.2.1,v.2.2.1)))) else (some (-1:Int)))
def Zi (N:Nat) (ZG:Y66->Option (Int)) (v:Y66):Option (Int):=dM (FU (aj N ZG) N) ZG v
theorem QN1 (N:Nat) (s0:St->Option (Int)) (v):(Yg (QE7) QG2 6 N Tryz.f82 [Z2] [false] [] 0 Wx) s0 (zD v)=Zi N (fun v=>s0 (zD v)) v:=Eq.trans (b:=dM (fun v=>Ns (Yg (QE7) QG2 6 N Tryz.f82 [Z2] [false] [.call 5 2 131,.call 1 2 167] 0 (YC s0 Wx)) N (QIe v)) (fun v=>s0 (zD v)) v) (by kernel_rfl) (by rw [funext (SN QIe (QVG N s0) N)];rfl)
def eu (ZJ:Y66->Option (Int)) (x:Y8×ZB):Option (Int):=
 (ZJ (x.1,(List.length x.1:Int),(0:Int),x.2))
def qz (N:Nat) (x:Y8×ZB):Option (Int):=eu (FU (Zi N) N) x
theorem QW9 (N:Nat) (x:Y8×ZB):rise (QE7) QG2 6 N Tryz.f82 [mP,wM] [Z2] [false] x=qz N x:=Eq.trans (b:=eu (fun v=>Ns (Yg (QE7) QG2 6 N Tryz.f82 [Z2] [false] [] 0 Wx) N (zD v)) x) (by kernel_rfl) (by rw [funext (SN zD (QN1 N) N)];rfl)
def bY (x:Y8×ZB):Option (Int):=qz big x
def QOS:UA:=⟨[mP,wM],[Z2],[false],fun x=>bY x⟩
theorem QTr:GV Tryz.prog 82 QOS:=rz (E:=QE7) ⟨ZK,(XT QKR Xq),fun _ _ _=>rfl,mixed,(Xe (Xd Tryz.func131 rfl rfl (by kernel_rfl)) (Xe (Xd Tryz.func132 rfl rfl (by kernel_rfl)) (Xe (Xd Tryz.func167 rfl rfl (by kernel_rfl)) X8))),YF,YE⟩ Tryz.func82 fun _ _ h=>(QW9 big _).trans h
def QKq:LT:={ live:=[(5,[4,17,18,19])],keep:=[] }
noncomputable def QIA:Aj:={ tab:=tab,fs:=[(168,QPR),(169,QPS)],inl:=[] }
noncomputable def QCb (v:ZB×Int×Int×ZF):St:={ s:=[(4,(.row 0)),(17,(.val ⟨wM,v.1⟩)),(18,(.val ⟨Z2,v.2.1⟩)),(19,(.val ⟨Z2,v.2.2.1⟩))],l:=[(0,.row Z16 v.2.2.2)],k:=[],b:=4096 }
def jy (ZG:ZB×Int×Int×ZF->Option (ZF×Int)) (v:ZB×Int×Int×ZF):Option (ZF×Int):=
 (bif (decide (v.2.2.1 < v.2.1)) then ((Mh v.1 v.2.2.1).bind fun x4=>(let x5:Int:=(IntKind.i64.wrap ((List.length v.2.2.2:Int) - (1:Int)));(bif (decide (0<=x5)&&decide (x5 < (List.length v.2.2.2:Int))) then ((nth v.2.2.2 (Int.toNat x5)).bind fun x6=>((jF (x6,(v.2.2.1,(x4,())))).bind fun x7=>(bif (!x7) then (let x8:ZF:=([(v.2.2.1,(x4,()))]:ZF);(bif (Nat.ble 1 2&&Nat.ble (List.length v.2.2.2+List.length x8) lim) then (let x9:Int:=(IntKind.i64.wrap (v.2.2.1+(1:Int)));(ZG (v.1,v.2.1,x9,(List.append v.2.2.2 x8)))) else none)) else (let fH:Int:=(IntKind.i64.wrap (v.2.2.1+(1:Int)));(ZG (v.1,v.2.1,fH,v.2.2.2)))))) else none))) else (some (v.2.2.2,(0:Int))))
def nY (N:Nat) (ZG:ZB×Int×Int×ZF->Option (ZF×Int)) (v:ZB×Int×Int×ZF):Option (ZF×Int):=jy ZG v
theorem QN2 (N:Nat) (s0:St->Option (ZF×Int)) (v):(Yg (QIA) QKq 6 N Tryz.f133 [Z5,Z2] [true,false] [] 0 Wx) s0 (QCb v)=nY N (fun v=>s0 (QCb v)) v:=by kernel_rfl
def sO (ZJ:ZB×Int×Int×ZF->Option (ZF×Int)) (x:ZB):Option (ZF×Int):=
 ((lW (List.length x:Int)).bind fun x1=>(bif (!x1) then (some (([]:List uH),(2:Int))) else ((Mh x (0:Int)).bind fun x2=>(let x3:ZF:=([((0:Int),(x2,()))]:ZF);(ZJ (x,(List.length x:Int),(0:Int),x3))))))
def QAx (N:Nat) (x:ZB):Option (ZF×Int):=sO (FU (nY N) N) x
theorem QWA (N:Nat) (x:ZB):rise (QIA) QKq 6 N Tryz.f133 [wM] [Z5,Z2] [true,false] x=QAx N x:=Eq.trans (b:=sO (fun v=>Ns (Yg (QIA) QKq 6 N Tryz.f133 [Z5,Z2] [true,false] [] 0 Wx) N (QCb v)) x) (by kernel_rfl) (by rw [funext (SN QCb (QN2 N) N)];rfl)
def rH (x:ZB):Option (ZF×Int):=QAx big x
def QKK:UA:=⟨[wM],[Z5,Z2],[true,false],fun x=>rH x⟩
theorem QOo:GV Tryz.prog 133 QKK:=rz (E:=QIA) ⟨ZK,(XT QUD (XT QUE Xq)),fun _ _ _=>rfl,mixed,X8,YF,YE⟩ Tryz.func133 fun _ _ h=>(QWA big _).trans h
def QKr:LT:={ live:=[(3,[3,11,12,13])],keep:=[] }
noncomputable def QIB (mk:(α:Type)->Nat->α->List α):Aj:={ tab:=tab,fs:=[(133,QKK)],inl:=[],rep:=mk }
noncomputable def QCc (v:Y67):St:={ s:=[(3,(.row 0)),(11,(.val ⟨Z6,v.1⟩)),(12,(.val ⟨Z2,v.2.1⟩)),(13,(.val ⟨Z2,v.2.2.1⟩))],l:=[(0,.row Z15 v.2.2.2)],k:=[],b:=4096 }
def nZ (mk:(α:Type)->Nat->α->List α) (ZG:Y67->Option (ZF)) (v:Y67):Option (ZF):=
 (bif (decide (v.2.2.1 < v.2.1)) then ((Mh v.1 v.2.2.1).bind fun x2=>(bif (decide (0<=v.2.2.1)&&decide (v.2.2.1 < (List.length v.2.2.2:Int))) then (let x3:ZB:=(List.set v.2.2.2 (Int.toNat v.2.2.1) (IntKind.u64.wrap x2));(let x4:Int:=(IntKind.i64.wrap (v.2.2.1+(1:Int)));(ZG (v.1,v.2.1,x4,x3)))) else none)) else ((rH v.2.2.2).bind fun x5=>(some x5.1)))
def bH (mk:(α:Type)->Nat->α->List α) (N:Nat) (ZG:Y67->Option (ZF)) (v:Y67):Option (ZF):=nZ mk ZG v
theorem QN3 (mk:(α:Type)->Nat->α->List α) (N:Nat) (s0:St->Option (ZF)) (v):(Yg (QIB mk) QKr 6 N Tryz.f83 [Z5] [true] [] 0 Wx) s0 (QCc v)=bH mk N (fun v=>s0 (QCc v)) v:=by kernel_rfl
def lZ (mk:(α:Type)->Nat->α->List α) (ZJ:Y67->Option (ZF)) (x:ZB):Option (ZF):=
 (bif (decide (0<=(List.length x:Int))&&(decide ((List.length x:Int)<=(List.length x:Int))&&(decide ((List.length x:Int)<=68719476736)&&true))) then (let x1:ZB:=(mk Int (Int.toNat (List.length x:Int)) (0:Int));(ZJ (x,(List.length x:Int),(0:Int),x1))) else none)
def xQ (mk:(α:Type)->Nat->α->List α) (N:Nat) (x:ZB):Option (ZF):=lZ mk (FU (bH mk N) N) x
theorem QWB (mk:(α:Type)->Nat->α->List α) (N:Nat) (x:ZB):rise (QIB mk) QKr 6 N Tryz.f83 [Z6] [Z5] [true] x=xQ mk N x:=Eq.trans (b:=lZ mk (fun v=>Ns (Yg (QIB mk) QKr 6 N Tryz.f83 [Z5] [true] [] 0 Wx) N (QCc v)) x) (by kernel_rfl) (by rw [funext (SN QCc (QN3 mk N) N)];rfl)
def iH (x:ZB):Option (ZF):=xQ (fun _=>List.replicate) big x
def QOT:UA:=⟨[Z6],[Z5],[true],fun x=>iH x⟩
theorem QTs:GV Tryz.prog 83 QOT:=rz (E:=QIB (fun _=>List.replicate)) ⟨ZK,(XT QOo Xq),fun _ _ _=>rfl,mixed,X8,YF,YE⟩ Tryz.func83 fun _ _ h=>(QWB (fun _=>List.replicate) big _).trans h
def QKs:LT:={ live:=[(3,[3,11,12,13])],keep:=[] }
noncomputable def QIC (mk:(α:Type)->Nat->α->List α):Aj:={ tab:=tab,fs:=[(133,QKK)],inl:=[],rep:=mk }
noncomputable def QCd (v:Y67):St:={ s:=[(3,(.row 0)),(11,(.val ⟨wM,v.1⟩)),(12,(.val ⟨Z2,v.2.1⟩)),(13,(.val ⟨Z2,v.2.2.1⟩))],l:=[(0,.row Z15 v.2.2.2)],k:=[],b:=4096 }
def jf (mk:(α:Type)->Nat->α->List α) (ZG:Y67->Option (ZF)) (v:Y67):Option (ZF):=
 (bif (decide (v.2.2.1 < v.2.1)) then ((Mh v.1 v.2.2.1).bind fun x2=>(bif (decide (0<=v.2.2.1)&&decide (v.2.2.1 < (List.length v.2.2.2:Int))) then (let x3:ZB:=(List.set v.2.2.2 (Int.toNat v.2.2.1) x2);(let x4:Int:=(IntKind.i64.wrap (v.2.2.1+(1:Int)));(ZG (v.1,v.2.1,x4,x3)))) else none)) else ((rH v.2.2.2).bind fun x5=>(some x5.1)))
def aD (mk:(α:Type)->Nat->α->List α) (N:Nat) (ZG:Y67->Option (ZF)) (v:Y67):Option (ZF):=jf mk ZG v
theorem QN4 (mk:(α:Type)->Nat->α->List α) (N:Nat) (s0:St->Option (ZF)) (v):(Yg (QIC mk) QKs 6 N Tryz.f84 [Z5] [true] [] 0 Wx) s0 (QCd v)=aD mk N (fun v=>s0 (QCd v)) v:=by kernel_rfl
def gu (mk:(α:Type)->Nat->α->List α) (ZJ:Y67->Option (ZF)) (x:ZB):Option (ZF):=
 (bif (decide (0<=(List.length x:Int))&&(decide ((List.length x:Int)<=(List.length x:Int))&&(decide ((List.length x:Int)<=68719476736)&&true))) then (let x1:ZB:=(mk Int (Int.toNat (List.length x:Int)) (0:Int));(ZJ (x,(List.length x:Int),(0:Int),x1))) else none)
def tu (mk:(α:Type)->Nat->α->List α) (N:Nat) (x:ZB):Option (ZF):=gu mk (FU (aD mk N) N) x
theorem QWC (mk:(α:Type)->Nat->α->List α) (N:Nat) (x:ZB):rise (QIC mk) QKs 6 N Tryz.f84 [wM] [Z5] [true] x=tu mk N x:=Eq.trans (b:=gu mk (fun v=>Ns (Yg (QIC mk) QKs 6 N Tryz.f84 [Z5] [true] [] 0 Wx) N (QCd v)) x) (by kernel_rfl) (by rw [funext (SN QCd (QN4 mk N) N)];rfl)
def dG (x:ZB):Option (ZF):=tu (fun _=>List.replicate) big x
def QOU:UA:=⟨[wM],[Z5],[true],fun x=>dG x⟩
theorem QTt:GV Tryz.prog 84 QOU:=rz (E:=QIC (fun _=>List.replicate)) ⟨ZK,(XT QOo Xq),fun _ _ _=>rfl,mixed,X8,YF,YE⟩ Tryz.func84 fun _ _ h=>(QWC (fun _=>List.replicate) big _).trans h
def QUp:LT:={ live:=[],keep:=[] }
noncomputable def QNt:Aj:={ tab:=tab,fs:=[(78,QJF),(79,QOE),(80,QOM),(81,QOR),(82,QOS),(83,QOT),(84,QOU)],inl:=[] }
def jM (x:ZA×Int×ZB):Option (Tg×Int×Int):=
 ((Mh x.1.2.2.1 x.2.1).bind fun x1=>((jW x1.2.2.2.2.1).bind fun x2=>(bif (x2 != (0:Int)) then (let x3:Tg:=(([]:List Int),((0:Int),((0:Int),(([]:Y6),(([]:Y8),(([]:ZF),(([]:ZF),())))))));(some (x3,(-1:Int),(12:Int)))) else (bif (x.2.1==(0:Int)) then (bif (decide (x1.2.1 > (0:Int))) then (let x4:Tg:=(([]:List Int),((0:Int),((0:Int),(([]:Y6),(([]:Y8),(([]:ZF),(([]:ZF),())))))));(some (x4,(-1:Int),(30:Int)))) else (bif (x1.2.2.1 != (-1:Int)) then (let x5:Tg:=(([]:List Int),((0:Int),((0:Int),(([]:Y6),(([]:Y8),(([]:ZF),(([]:ZF),())))))));(some (x5,(-1:Int),(30:Int)))) else ((aC (x.1,(x1,()))).bind fun x6=>(bif (x6.2 != (0:Int)) then (let x7:Tg:=(([]:List Int),((0:Int),((0:Int),(([]:Y6),(([]:Y8),(([]:ZF),(([]:ZF),())))))));(some (x7,x6.1,x6.2))) else ((bZ ((x.1,(x1,())),x.2.2)).bind fun x8=>(bif (!x8.2) then (let x9:Tg:=(([]:List Int),((0:Int),((0:Int),(([]:Y6),(([]:Y8),(([]:ZF),(([]:ZF),())))))));(some (x9,(-1:Int),(36:Int)))) else ((mR (x1.2.2.2.2.1,x1.2.1,(List.length x1.2.2.2.1:Int))).bind fun fH=>((bY (x1.2.2.2.2.1,fH.1)).bind fun mX=>(bif (mX != (-1:Int)) then (let mh:Tg:=(([]:List Int),((0:Int),((0:Int),(([]:Y6),(([]:Y8),(([]:ZF),(([]:ZF),())))))));(some (mh,mX,(38:Int)))) else ((iH x8.1).bind fun qV=>((dG fH.1).bind fun jU=>(some ((x1.1,(x1.2.1,(x1.2.2.1,(x1.2.2.2.1,(x1.2.2.2.2.1,(qV,(jU,x1.2.2.2.2.2.2.2))))))),(0:Int),(0:Int)))))))))))))) else ((aC (x.1,(x1,()))).bind fun jV=>(bif (jV.2 != (0:Int)) then (let wK:Tg:=(([]:List Int),((0:Int),((0:Int),(([]:Y6),(([]:Y8),(([]:ZF),(([]:ZF),())))))));(some (wK,jV.1,jV.2))) else ((bZ ((x.1,(x1,())),x.2.2)).bind fun xu=>(bif (!xu.2) then (let x18:Tg:=(([]:List Int),((0:Int),((0:Int),(([]:Y6),(([]:Y8),(([]:ZF),(([]:ZF),())))))));(some (x18,(-1:Int),(36:Int)))) else ((mR (x1.2.2.2.2.1,x1.2.1,(List.length x1.2.2.2.1:Int))).bind fun zW=>((bY (x1.2.2.2.2.1,zW.1)).bind fun zO=>(bif (zO != (-1:Int)) then (let x21:Tg:=(([]:List Int),((0:Int),((0:Int),(([]:Y6),(([]:Y8),(([]:ZF),(([]:ZF),())))))));(some (x21,zO,(38:Int)))) else ((iH xu.1).bind fun x22=>((dG zW.1).bind fun x23=>(some ((x1.1,(x1.2.1,(x1.2.2.1,(x1.2.2.2.1,(x1.2.2.2.2.1,(x22,(x23,x1.2.2.2.2.2.2.2))))))),(0:Int),(0:Int))))))))))))))))
def QAa (N:Nat) (x:ZA×Int×ZB):Option (Tg×Int×Int):=jM x
theorem QWD (N:Nat) (x:ZA×Int×ZB):rise (QNt) QUp 6 N Tryz.f44 [Z1,Z2,Z6] [Z0,Z2,Z2] [false,false,false] x=jM x:=by kernel_rfl
def jD (x:ZA×Int×ZB):Option (Tg×Int×Int):=QAa big x
def QKL:UA:=⟨[Z1,Z2,Z6],[Z0,Z2,Z2],[false,false,false],fun x=>jD x⟩
theorem QOq:GV Tryz.prog 44 QKL:=rz (E:=QNt) ⟨ZK,(XT QKX (XT QTb (XT QTl (XT QTq (XT QTr (XT QTs (XT QTt Xq))))))),fun _ _ _=>rfl,mixed,X8,YF,YE⟩ Tryz.func44 fun _ _ h=>(QWD big _).trans h
def QKt:LT:={ live:=[(4,[0,1,12,13])],keep:=[] }
noncomputable def QID:Aj:={ tab:=tab,fs:=[],inl:=[] }
noncomputable def QCe (v:ZF×ZF×Int×Int):St:={ s:=[(0,(.val ⟨Z5,v.1⟩)),(1,(.val ⟨Z5,v.2.1⟩)),(12,(.val ⟨Z2,v.2.2.1⟩)),(13,(.val ⟨Z2,v.2.2.2⟩))],l:=[],k:=[],b:=4096 }
def aY (ZG:ZF×ZF×Int×Int->Option (Bool)) (v:ZF×ZF×Int×Int):Option (Bool):=
 (bif (decide (v.2.2.2 < v.2.2.1)) then ((Mh v.1 v.2.2.2).bind fun x1=>((Mh v.2.1 v.2.2.2).bind fun x2=>(bif (!(Ib Z16 x1 x2)) then (some false) else (let x3:Int:=(IntKind.i64.wrap (v.2.2.2+(1:Int)));(ZG (v.1,v.2.1,v.2.2.1,x3)))))) else (some true))
def ZT (N:Nat) (ZG:ZF×ZF×Int×Int->Option (Bool)) (v:ZF×ZF×Int×Int):Option (Bool):=aY ZG v
theorem QN5 (N:Nat) (s0:St->Option (Bool)) (v):(Yg (QID) QKt 6 N Tryz.f56 [.bool] [false] [] 0 Wx) s0 (QCe v)=ZT N (fun v=>s0 (QCe v)) v:=by kernel_rfl
def Zw (ZJ:ZF×ZF×Int×Int->Option (Bool)) (x:ZF×ZF):Option (Bool):=
 (bif ((List.length x.1:Int) != (List.length x.2:Int)) then (some false) else (ZJ (x.1,x.2,(List.length x.1:Int),(0:Int))))
def gU (N:Nat) (x:ZF×ZF):Option (Bool):=Zw (FU (ZT N) N) x
theorem QWE (N:Nat) (x:ZF×ZF):rise (QID) QKt 6 N Tryz.f56 [Z5,Z5] [.bool] [false] x=gU N x:=Eq.trans (b:=Zw (fun v=>Ns (Yg (QID) QKt 6 N Tryz.f56 [.bool] [false] [] 0 Wx) N (QCe v)) x) (by kernel_rfl) (by rw [funext (SN QCe (QN5 N) N)];rfl)
def Zu (x:ZF×ZF):Option (Bool):=gU big x
def QOV:UA:=⟨[Z5,Z5],[.bool],[false],fun x=>Zu x⟩
theorem QTu:GV Tryz.prog 56 QOV:=rz (E:=QID) ⟨ZK,Xq,fun _ _ _=>rfl,mixed,X8,YF,YE⟩ Tryz.func56 fun _ _ h=>(QWE big _).trans h
def QKu:LT:={ live:=[(6,[1,6,21,22,23])],keep:=[] }
noncomputable def QIE:Aj:={ tab:=tab,fs:=[(42,QPW),(44,QKL),(45,QPX),(56,QOV)],inl:=[] }
noncomputable def QCf (v:Y52):St:={ s:=[(1,(.loc 0 [])),(6,(.val ⟨Z6,v.1⟩)),(21,(.val ⟨(.slice Z0),v.2.1⟩)),(22,(.val ⟨Z2,v.2.2.1⟩)),(23,(.val ⟨Z2,v.2.2.2.1⟩))],l:=[(0,.var Z1 (.val ⟨Z1,v.2.2.2.2⟩))],k:=[],b:=4096 }
def tL (ZG:Y52->Option Y19) (v:Y52):Option Y19:=
 (bif (decide (v.2.2.2.1 < v.2.2.1)) then ((Mh v.2.1 v.2.2.2.1).bind fun x3=>((jD (v.2.2.2.2,v.2.2.2.1,v.1)).bind fun x4=>(bif (x4.2.2 != (0:Int)) then (some (v.2.2.2.1,x4.2.1,x4.2.2)) else ((Zu (x3.2.2.2.2.2.1,x4.1.2.2.2.2.2.1)).bind fun x5=>(bif (!x5) then (some (v.2.2.2.1,(-1:Int),(32:Int))) else ((Zu (x3.2.2.2.2.2.2.1,x4.1.2.2.2.2.2.2.1)).bind fun x6=>(bif (!x6) then (some (v.2.2.2.1,(-1:Int),(32:Int))) else (let x7:Int:=(IntKind.i64.wrap (v.2.2.2.1+(1:Int)));(ZG (v.1,v.2.1,v.2.2.1,x7,v.2.2.2.2)))))))))) else (some ((0:Int),(0:Int),(0:Int))))
def fO (N:Nat) (ZG:Y52->Option Y19) (v:Y52):Option Y19:=tL ZG v
theorem QN6 (N:Nat) (s0:St->Option Y19) (v):(Yg (QIE) QKu 6 N Tryz.f19 [Z2,Z2,Z2] [false,false,false] [] 0 Wx) s0 (QCf v)=fO N (fun v=>s0 (QCf v)) v:=by kernel_rfl
def rQ (ZJ:Y52->Option Y19) (x:ZA):Option Y19:=
 ((rC x).bind fun x1=>(bif (x1 != (0:Int)) then (some ((0:Int),(0:Int),x1)) else ((eU x.1).bind fun x2=>(ZJ (x2,x.2.2.1,(List.length x.2.2.1:Int),(0:Int),x)))))
def QAX (N:Nat) (x:ZA):Option Y19:=rQ (FU (fO N) N) x
theorem QWF (N:Nat) (x:ZA):rise (QIE) QKu 6 N Tryz.f19 [Z1] [Z2,Z2,Z2] [false,false,false] x=QAX N x:=Eq.trans (b:=rQ (fun v=>Ns (Yg (QIE) QKu 6 N Tryz.f19 [Z2,Z2,Z2] [false,false,false] [] 0 Wx) N (QCf v)) x) (by kernel_rfl) (by rw [funext (SN QCf (QN6 N) N)];rfl)
def mq (x:ZA):Option Y19:=QAX big x
def QIL:UA:=⟨[Z1],[Z2,Z2,Z2],[false,false,false],fun x=>mq x⟩
theorem QKU:GV Tryz.prog 19 QIL:=rz (E:=QIE) ⟨ZK,(XT QUJ (XT QOq (XT QUK (XT QTu Xq)))),fun _ _ _=>rfl,mixed,X8,YF,YE⟩ Tryz.func19 fun _ _ h=>(QWF big _).trans h
def QUq:LT:={ live:=[],keep:=[] }
noncomputable def QNu:Aj:={ tab:=tab,fs:=[(19,QIL)],inl:=[] }
def QB1 (x:ZA):Option (Int):=
 ((mq x).bind fun x1=>(some x1.2.2))
def QFa (N:Nat) (x:ZA):Option (Int):=QB1 x
theorem QWG (N:Nat) (x:ZA):rise (QNu) QUq 6 N Tryz.f23 [Z1] [Z2] [false] x=QB1 x:=by kernel_rfl
def QAK (x:ZA):Option (Int):=QFa big x
def QOW:UA:=⟨[Z1],[Z2],[false],fun x=>QAK x⟩
theorem QTv:GV Tryz.prog 23 QOW:=rz (E:=QNu) ⟨ZK,(XT QKU Xq),fun _ _ _=>rfl,mixed,X8,YF,YE⟩ Tryz.func23 fun _ _ h=>(QWG big _).trans h
def QUt:LT:={ live:=[],keep:=[] }
noncomputable def QNx:Aj:={ tab:=tab,fs:=[],inl:=[] }
def oN (x:wL):Option (Bool):=
 (bif (decide (x.1≥(0:Int))) then (some (decide (x.1 < x.2))) else (some false))
def QDL (N:Nat) (x:wL):Option (Bool):=oN x
theorem QWJ (N:Nat) (x:wL):rise (QNx) QUt 6 N Tryz.f43 [Z2,Z2] [.bool] [false] x=oN x:=by kernel_rfl
def sW (x:wL):Option (Bool):=QDL big x
def QOZ:UA:=⟨[Z2,Z2],[.bool],[false],fun x=>sW x⟩
theorem QTy:GV Tryz.prog 43 QOZ:=rz (E:=QNx) ⟨ZK,Xq,fun _ _ _=>rfl,mixed,X8,YF,YE⟩ Tryz.func43 fun _ _ h=>(QWJ big _).trans h
def QUu:LT:={ live:=[],keep:=[] }
noncomputable def QNy:Aj:={ tab:=tab,fs:=[],inl:=[] }
def Zc (x:Y6):Option (Y6):=
 (bif (List.isEmpty x) then (NW (some ([]:List (ZB×Y18))) (let x1:Y6:=([]:Y6);(bif (Nat.ble 1 2&&Nat.ble (List.length x1+List.length x) lim) then (some (List.append x1 x)) else none))) else (let x2:Y6:=([]:Y6);(bif (Nat.ble 1 2&&Nat.ble (List.length x2+List.length x) lim) then (some (List.append x2 x)) else none)))
def mY (N:Nat) (x:Y6):Option (Y6):=Zc x
theorem QWK (N:Nat) (x:Y6):rise (QNy) QUu 6 N Tryz.f46 [Z7] [Z7] [true] x=Zc x:=by kernel_rfl
def aJ (x:Y6):Option (Y6):=mY big x
def QOa:UA:=⟨[Z7],[Z7],[true],fun x=>aJ x⟩
theorem QTz:GV Tryz.prog 46 QOa:=rz (E:=QNy) ⟨ZK,Xq,fun _ _ _=>rfl,mixed,X8,YF,YE⟩ Tryz.func46 fun _ _ h=>(QWK big _).trans h
def QUv:LT:={ live:=[],keep:=[] }
noncomputable def QNz:Aj:={ tab:=tab,fs:=[],inl:=[] }
def Zd (x:Y8):Option (Y8):=
 (bif (List.isEmpty x) then (NW (some ([]:List ZE)) (let x1:Y8:=([]:Y8);(bif (Nat.ble 1 4&&Nat.ble (List.length x1+List.length x) lim) then (some (List.append x1 x)) else none))) else (let x2:Y8:=([]:Y8);(bif (Nat.ble 1 4&&Nat.ble (List.length x2+List.length x) lim) then (some (List.append x2 x)) else none)))
def mZ (N:Nat) (x:Y8):Option (Y8):=Zd x
theorem QWL (N:Nat) (x:Y8):rise (QNz) QUv 6 N Tryz.f47 [mP] [mP] [true] x=Zd x:=by kernel_rfl
def aK (x:Y8):Option (Y8):=mZ big x
def QOb:UA:=⟨[mP],[mP],[true],fun x=>aK x⟩
theorem QU0:GV Tryz.prog 47 QOb:=rz (E:=QNz) ⟨ZK,Xq,fun _ _ _=>rfl,mixed,X8,YF,YE⟩ Tryz.func47 fun _ _ h=>(QWL big _).trans h
def QUw:LT:={ live:=[],keep:=[] }
noncomputable def QO0:Aj:={ tab:=tab,fs:=[(42,QPW),(43,QOZ),(44,QKL),(45,QPX),(46,QOa),(47,QOb)],inl:=[] }
def qD (x:ZA×Int):Option (Tg×Int):=
 ((rC x.1).bind fun x1=>(bif (x1 != (0:Int)) then (let x2:Tg:=(([]:List Int),((0:Int),((0:Int),(([]:Y6),(([]:Y8),(([]:ZF),(([]:ZF),())))))));(some (x2,x1))) else ((sW (x.2,(List.length x.1.2.2.1:Int))).bind fun x3=>(bif (!x3) then (let x4:Tg:=(([]:List Int),((0:Int),((0:Int),(([]:Y6),(([]:Y8),(([]:ZF),(([]:ZF),())))))));(some (x4,(2:Int)))) else ((eU x.1.1).bind fun x5=>((jD (x.1,x.2,x5)).bind fun x6=>(bif (x6.2.2 != (0:Int)) then (let x7:Tg:=(([]:List Int),((0:Int),((0:Int),(([]:Y6),(([]:Y8),(([]:ZF),(([]:ZF),())))))));(some (x7,x6.2.2))) else ((aJ x6.1.2.2.2.1).bind fun x8=>((aK x6.1.2.2.2.2.1).bind fun x9=>(some ((x6.1.1,(x6.1.2.1,(x6.1.2.2.1,(x8,(x9,x6.1.2.2.2.2.2))))),(0:Int))))))))))))
def QDs (N:Nat) (x:ZA×Int):Option (Tg×Int):=qD x
theorem QWM (N:Nat) (x:ZA×Int):rise (QO0) QUw 6 N Tryz.f14 [Z1,Z2] [Z0,Z2] [false,false] x=qD x:=by kernel_rfl
def pR (x:ZA×Int):Option (Tg×Int):=QDs big x
def QOc:UA:=⟨[Z1,Z2],[Z0,Z2],[false,false],fun x=>pR x⟩
theorem QU1:GV Tryz.prog 14 QOc:=rz (E:=QO0) ⟨ZK,(XT QUJ (XT QTy (XT QOq (XT QUK (XT QTz (XT QU0 Xq)))))),fun _ _ _=>rfl,mixed,X8,YF,YE⟩ Tryz.func14 fun _ _ h=>(QWM big _).trans h
end Go.Proofs.YtbgmjjplddddnaaGreatDoor
