"""Bytes looked through, summed, turned round and framed; the calls are in byterows.rows."""
